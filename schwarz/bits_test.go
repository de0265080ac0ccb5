package schwarz_test

import (
	"math"
	"testing"

	"eddy/api"
)

// The bits below were worked out apart, by floats of another language, operation by operation as the chapters say.

// words are floats, one behind the other.
type words []uint64

func (w words) floats() floats {
	l := make(floats, len(w))
	for i := range w {
		l[i] = math.Float64frombits(w[i])
	}
	return l
}

func (w words) list() list {
	l := make(list, len(w)/2)
	for i := range l {
		l[i] = complex(math.Float64frombits(w[2*i]), math.Float64frombits(w[2*i+1]))
	}
	return l
}

// Places and angles, a place, the slope there.
func TestP19_2Bits(t *testing.T) {
	for _, r := range []struct{ at, angles, asked, told words }{
		{words{0x3fc4f5148f72b800, 0x3ff6ac0f20b12ae4, 0x40023bfcd729cd3c}, words{0x3fd1471c3224b94c, 0x3fcabe0ff6b1e58e, 0x3fe0acede94129f6}, words{0xbfe68fea758635a0, 0x3febc76ed3043793}, words{0x3fc17e6118f7da4b, 0x3fcc376527646ab0}},
		{words{0x40017dbfea9a9f9a, 0x40056898b0dc746c, 0x400df3d69a24ae70}, words{0x3fe283e419a837df, 0x3f9596e6282d44c2, 0x3fd99ec96a2cbbf5}, words{0xbfec87368448f3e8, 0x400616f09d9b8f59}, words{0x3f8b539abc9c05de, 0x3fa66c969ec05edf}},
		{words{0xc009a41c9b5e0240, 0xbfe5e76aff765a68, 0x3ffde25d212de1bc, 0x40036553d0c9b5e4}, words{0x3fe251fb5dcb7529, 0x3fe301c4169ce2f3, 0x3fd42a4215921bc1, 0x3fe0971f80ce9a02}, words{0xc0011920d1cd6dda, 0x4005f51b0281c462}, words{0xbf966968b04eaeb9, 0x3facbd121feb1840}},
		{words{0xc007221a6eec3a54, 0xbfec169a59df1f48, 0x3fd72b42e4e6ffb0, 0x3ffd9dc4f1b93654, 0x40034b5a99a89abe}, words{0x3fef5b177a1138db, 0x3fc6a13b2f45a233, 0x3ff19ff1957dbcf3, 0x3f9b0c791364d4e3, 0x3fe6e452c686be0a}, words{0xbfa8916b43090f00, 0x3df421c4837c9409}, words{0xbfd862b329c04dff, 0x3fca2686ff7ea285}},
		{words{0xc00fd1079e0a7a7e, 0xc00a245aa7cafe32, 0xc004418b70e02f56, 0xbfe25aec0351bb00, 0xbfd16b63e7e59850, 0x3fd57ed0b76db190}, words{0x3fdff3d66b873afd, 0x3fe7b8ea8ff98642, 0x3fe6ea0289e33a46, 0x3ff0598593531421, 0x3fe0cccbef2ed1c6, 0x3fdfc6a135154fe4}, words{0x3ff6b40ffc3f7f1c, 0x3fec239b6cd325c5}, words{0x3fb6ac3a162c2524, 0xbfb540c0f526219a}},
		{words{0xc00d195e1761bb18, 0xc00bbefd444010e2, 0xc0098427944bd5c6, 0xc0029c5e2d828042, 0x3fa7bdf2e707c780, 0x3ff7ff051f70b074, 0x40002189835d646c}, words{0x3ffab28d4021528b, 0x3fb0dd4beefc6b9f, 0x3ff1e6731695fc95, 0x3fe6d3bb7f8f3671, 0x3fce88e3f371c28a, 0x3fdd0c896cffad3f, 0x3fe7b61ca1c65696}, words{0xbfe237200b3f85b8, 0x0000000000000000}, words{0x3fbe318112abbdda, 0x3fe1c7e04543e5a6}},
		{words{0xc00d7bedbb719984, 0xc006320187ee0a30, 0xbffae8c270cc3874, 0x3fd761b025afbcd0, 0x3feeeb5354e1ae18, 0x3ff189fb6edcfe80, 0x40083352d313dd16, 0x400c8bdbad12293c}, words{0x3fd65fd16f0f048a, 0x3fe184eea13af924, 0x3fe2e0c319378c8a, 0x3ff25c169eac7b63, 0x3fedf5ff9ac9b3cc, 0x3fedefb027dec943, 0x3fe50e7e78ef6adc, 0x3feabe0a15151967}, words{0xbffb75cc15aa0708, 0x3ef03652704bb7ac}, words{0xbff0903289a34692, 0xbfd636fb05c84cdf}},
		{words{0xc00c007fc906c4ce, 0xc0061dfe8fafadd4, 0xbfe21cb5859149a8, 0xbfd5559d09664460, 0xbfc60fd8083c22a0, 0x3fa34be1236dd800, 0x3fba87c297486380, 0x4006611d81ca0282, 0x400795cb70ced52e, 0x400b85cd98ed11ee}, words{0x3fdc2819de9e1210, 0x3fe8cf2bb299cbef, 0x3fe440eab9efa842, 0x3fe1652c0c56a800, 0x3fe3bdecf1606aa6, 0x3fe7af7e685dcd6f, 0x3ff6273dad36016d, 0x3ff983386fe73b49, 0x3fc5cd645b2ce046, 0x3ff1a07ff68678a2}, words{0xc00a01456d76c8b0, 0x3ff96265f0b2d152}, words{0xbfa40c40d8fca027, 0x3fc2592f6accf867}},
		{words{0xc00df78c20378d8a, 0xc00d1f941da24158, 0xc00a58cfd02e8996, 0xc00928f2525225ce, 0xc005183a5eacd0ce, 0xc00181af74dd7bea, 0xbffe76701b9c96c8, 0xbfe027737440e680, 0xbfd58caa1a048d20, 0xbfced3192b051d60, 0x3fe8b2f690761c48, 0x3ffb8470a8df1ce4, 0x3ffd913cc5dfa74c}, words{0x3fd1780b7a8317bf, 0x3ff63a2078b56ab8, 0x3fe43ac24fe87f58, 0x3fea383d07212a4e, 0x3fdda4218d8ea7bd, 0x3ff79dd85a795c97, 0x3fcca1806e32fbc2, 0x3fdfada51c0d8118, 0x3fd2a26b29dcaf40, 0x3fedaa607b231cc0, 0x3ff1f20be6879b8b, 0x3ff1d30b9a443156, 0x3ffc650061a9ad26}, words{0x3fed5e9e820a6ae0, 0x8000000000000000}, words{0xbfa9e029d3981364, 0x3f92dfb0644c6402}},
		{words{0xc00cd1c63bcbe6e4, 0xc009691a79b20f5e, 0xc00146a33ec028a4, 0xbffc0a10382d8704, 0xbff3299130df3994, 0xbfed09106f567960, 0xbfe9ad12b2a7f8e8, 0xbfe308fa5f2748f8, 0xbfd5babcf4171a40, 0xbfab8f81bf841a80, 0x3fdd100b8f997760, 0x3fe3849dc7367f70, 0x3ff125f5a22e4c58, 0x3ff4a58cf4f34570, 0x3ff81820588bd5c8, 0x400da49b439fe3aa}, words{0x3ff71c67dc6f4336, 0x3fef1203002cf6f5, 0x3fe26f860fc0b04e, 0x3fea3e6a515ad93f, 0x3ff326fbdb17314d, 0x3ff2ba163f216658, 0x3ffffb0be696e865, 0x3f98e7a18616259e, 0x3fe011da7a20fe44, 0x3ffb37e06d72979f, 0x3fc7fd4785078dd3, 0x3fe0796895bbce7f, 0x3fd62ad41b5f403c, 0x3ff0e7fafd44938a, 0x3fe164dd13ed7010, 0x3fee4330efdf3131}, words{0xbffd957a963e0150, 0x0000000000000000}, words{0x3fd161f4397c3758, 0x3f7db9366f349e50}},
	} {
		wantSlope(t, shape{r.at.floats(), r.angles.floats()}, r.asked.list()[0], r.told.list()[0], api.OK)
	}
}

// Places and angles, from and to, the pieces, what lies between.
func TestP19_3Bits(t *testing.T) {
	for _, r := range []struct {
		at, angles, asked words
		pieces            int
		told              words
	}{
		{words{0xbfb4f7c1112803c0, 0x3fe925283f930ec8, 0x4002331b0ff4c0d4}, words{0x3fce5b376ea2af7b, 0x3fcc3948bbe75a6a, 0x3fe15adff55d7d86}, words{0x3ff568628c665258, 0x0000000000000000, 0xc00a0133b971a164, 0x0000000000000000}, 1, words{0xc01b29d737faf1f5, 0x400074fa749096b1}},
		{words{0xbff052dbf0412694, 0xbfee76bfe9f8d330, 0xbfb0dfabb08b3c00}, words{0x3fcf01c1e4991ff9, 0x3fe559226a161aeb, 0x3fb73368e61ce8b6}, words{0x3ff1e45e256027d4, 0x0000000000000000, 0x3fd4552bfeedf100, 0x0000000000000000}, 2, words{0xbfe49a449ea96baa, 0x0000000000000000}},
		{words{0xc00dcd979b3b7830, 0xc0050b78ddd3eca4, 0x3fe357b906ae1fd8, 0x3ff1b28f5c890c20}, words{0x3fec2c5a04c14ce2, 0x3fdd3421c3fbf80b, 0x3fa097b996ea0540, 0x3fe430197fd216c5}, words{0xc00171bccaa67b28, 0x3fb349849f514b28, 0xc0051e0a7a4597d2, 0x3fe0f98d9a391f9c}, 3, words{0xbfc088c52ce92bb9, 0xbfc5ab78b854dd82}},
		{words{0xc00970677eafa17e, 0xc003ffc86dfd6248, 0x3fd1bc7a846cfc40, 0x3ff2cbb767cd46f8, 0x400281f9577d8f02}, words{0x3fea693106b449a4, 0x3fe93a10c8b52177, 0x3fd5414d421c72cb, 0x3fc02c7acc0ea8d7, 0x3fedb0f8dc84b149}, words{0x3ff0c7e15a842a30, 0x8000000000000000, 0x3ff82ee3f434d610, 0x0000000000000000}, 1, words{0x400165ed48a1b3fe, 0xbfe5810fd986bcd7}},
		{words{0xc0040d3dd27eacc8, 0xbfe3080d71042728, 0x4005dd27d5979ed6, 0x400610dc9275aaa4, 0x40095fbc144a7708, 0x400daa87fd9208d6}, words{0x3fbf26876342f8ed, 0x3ff061697a1fab3d, 0x3fea224d78ae0972, 0x3fac384a93b764fa, 0x3feda20379520859, 0x3ff0e843420e6128}, words{0xbffc55a741870b60, 0x3f73a55a0f09eab5, 0xbff7a1053e7e8148, 0x3d9dcabaa6992258}, 7, words{0xbfacd7e385cfac17, 0x3f986ee265e02e35}},
		{words{0xc00cf40b2a628a48, 0xbfea8ee7bb3c5cf8, 0xbfc199336f0b7a00, 0x3fd29d75bb9c7e60, 0x3fd7c35bfd1c4550, 0x3fe85c3126e1c690, 0x40005d0cc323a54e, 0x4006090936cd5a50}, words{0x3fd600de362c1342, 0x3ff19fb2bc157d1a, 0x3ff0ca8660434be9, 0x3ff30095042b1957, 0x3fee3716b09a1644, 0x3fe5c636486a59be, 0x3fe0e3677146d72e, 0x3fc52500e65baa0d}, words{0x4006d7dd082fa504, 0x3c564b92d29cd765, 0xc006582b288fa856, 0x3ff728174cf417bc}, 2, words{0x3ffe8f9bd0cdc221, 0xbfbd3c6f3b765296}},
		{words{0xc00ebe00c1a22e04, 0xc00174a8b397ef4c, 0xbffcdf0c9df51d88, 0xbffabefde04c0ab8, 0xbff8dae017aeefa4, 0xbfecfab76a92d3e0, 0xbfe96157e1cca3c8, 0xbfb933fd9d151480, 0x3fed8edb3da46c60, 0x4002f9d962425a58, 0x40052efe6aa103d4}, words{0x3ff038027c7378e0, 0x3fe00290eb5b14a9, 0x3ff578d409774a0e, 0x3f9fe9106183e5f2, 0x3fc8608d0674558e, 0x3fea91b420f0fabc, 0x3ff0236eeca4d50a, 0x3ff57f0d48250e7b, 0x3fdeefac5dad9fa5, 0x3fef7a06bca9bdf1, 0x3ff45de6671070b4}, words{0x40025a09860b2630, 0x3ff98971a86bc806, 0xc006013ea66e414e, 0x3fca5f6c83346f44}, 5, words{0x3ff2d19475e80121, 0x3fbde768411c78e0}},
		{words{0xc00af6bccd6c8970, 0xbffd077cc7bcdc04, 0xbffb1b89ed943d94, 0xbff602a91a597038, 0xbff4e39dbd1859d8, 0xbfefade69032e380, 0xbfe3184811373e78, 0xbfdd9ae4042cc7f0, 0x3f8ca30844c1a800, 0x3ff14917e83291d4, 0x3ff326c23155e754, 0x4009d347223646b0, 0x400a107d82e03976, 0x400c0364964013ca, 0x400cac810ca3137e, 0x400d5d881fbbd494}, words{0x3fe5dc83df2ce724, 0x3fe6ee53eaf38e57, 0x3feb1188eab917d5, 0x3ff27b6f7735f3dd, 0x3fe035d104d34b45, 0x3fe822e75b31a6c0, 0x3ff1fddb8862900a, 0x3ff4b18719ba60ff, 0x3ff1fb495003f16d, 0x3fd79a7ecfb2536d, 0x3ff1fbc615efd2e8, 0x3fed7aceb56fcf6f, 0x3fdc0ed40ee6dfb5, 0x3fe84c04ae11062d, 0x3ff154323e54ec70, 0x3ff1a1a14e8e7316}, words{0x400c7e56ce1c4336, 0x8000000000000000, 0x4008b575aa3bb11a, 0x4001f9d26c5e9b77}, 1, words{0x3fcd7716d0fb4765, 0x3fcc5f3b10b98e4c}},
		{words{0xbff842211fe59364, 0x4000328254ecdefa, 0x40009a2767c60796}, words{0x3fd04776b1479847, 0x3fb7b9873aed1c67, 0x3fe4e513bffe904f}, words{0x4006bf4b247e013c, 0x8000000000000000, 0xbfff787356adcf54, 0x3fd6136f87dbe284}, 100, words{0x3ff08de1499791b0, 0x3fb8be4197af9476}},
		{words{0xc0070e12e391f620, 0xbffebd94d5763224, 0xbff9cde744a94d60, 0x40085ded5a319086}, words{0x3fc30d49ecec1891, 0x3ff22bd948d94eaa, 0x3fe5cfb0c5a28f35, 0x3fa154a2d6fcd54b}, words{0xbfcbb060c5334100, 0x8000000000000000, 0xbff0a41d2e16dd78, 0x8000000000000000}, 33, words{0x3fbfa3300e8b2158, 0x3f8b042f22ca0160}},
	} {
		way := r.asked.list()
		wantBetween(t, shape{r.at.floats(), r.angles.floats()}, way[0], way[1], r.pieces, r.told.list()[0], api.OK)
	}
}

// Places and angles, the pieces, the corners.
func TestP19_4Bits(t *testing.T) {
	for _, r := range []struct {
		at, angles words
		pieces     int
		told       words
	}{
		{words{0xbff1fcc5f8ccdb84, 0x3ff7c85d93ea4c90, 0x4006cf38d88d4e82}, words{0x3fce9bc9b710367c, 0x3fdcb5f933768a83, 0x3fd3fc21f1015a3e}, 1, words{0x0000000000000000, 0x0000000000000000, 0xbff1bab47d41c450, 0x3ff08ed2d2d3c0a2, 0xbffdb3119158df58, 0xbfb53f76f32d1b20}},
		{words{0xbffe5821d1af1bcc, 0x40023cb895e845c4, 0x400715ae80ce6d8c}, words{0x3fdca85a6a292b86, 0x3fc8961c67ffd150, 0x3fd70c9761d6ebd1}, 4, words{0x0000000000000000, 0x0000000000000000, 0xbfd7b59637b925e0, 0x4001e6b7e6ef99f4, 0xbff9b7705b4a7ca7, 0xbfd9343fc386e590}},
		{words{0xc008ed56c546bbbe, 0x3fe74dbc6545c7b0, 0x40006ca590e750e6, 0x400e534cab79707e}, words{0x3fc0b9bfb5d8d150, 0x3fec0d0d9f6b0ca0, 0x3fea3c534949895a, 0x3fc620bca754d6d3}, 2, words{0x0000000000000000, 0x0000000000000000, 0xbfe585b5fb7725c6, 0x3fd2bc0902d3cf00, 0xbfec960677b5ed46, 0x3fd30e8f733de9a4, 0xbff734fb71308174, 0xbfa3bbf38de88270}},
		{words{0xc006d0592b0dfd1e, 0x3fd037d9df9d9c40, 0x4002bd6e356ca59c, 0x40067b0c0319df64, 0x400b84feae8ac54e}, words{0x3fd6bdeb10285982, 0x3fec69ce62ff3516, 0x3ff02a345bf0e5c7, 0x3fc880c4769ced47, 0x3fe1c2a23f63974a}, 3, words{0x0000000000000000, 0x0000000000000000, 0xbfcc971a947f5f68, 0x3fdd426a7e495e0e, 0xbfe2fe9aeab5afbe, 0x3fe9fc331c42fd4a, 0xbff4959ccb2d9f84, 0x3ff854a4727b78ee, 0xbff0c6e34728fe0c, 0x3fc4253cc7bf72f8}},
		{words{0xc00f0f76a3b4e082, 0x3fefe5549acb0ce8, 0x3ff310efcfc6d58c, 0x4000c55727e85260, 0x40036c6918e3fa9c, 0x4004accbe534c5c2}, words{0x3fc47b85acc3b8d1, 0x3fdf2e5a2898c48d, 0x3fe760d2963c6c5c, 0x3ff0b1454323bbfe, 0x3fdf2fc983c627d4, 0x3ff17757d10ddba0}, 9, words{0x0000000000000000, 0x0000000000000000, 0xbff4fa2de8b68f80, 0x3fe7116c5ba51cb8, 0xbff7c71b573aee7f, 0x3fd7ab2d7db48148, 0xbff4f6f6f396b481, 0xbfb0bdd05b39fccc, 0xbff449484809a074, 0xbfcdcf24fc3d6d82, 0xbff2c387ee71445f, 0xbfca33de810f262c}},
		{words{0xc00ae792db90716c, 0xc002dd87f886fd06, 0xbff7ae842739ff5c, 0x3fcf14f757170420, 0x3fd159ab55169c30, 0x3fe7ea2b199b3af0, 0x3ffb48480f859468, 0x400a9be138bbf54e, 0x400e82663c180286}, words{0x3fe4489c16ec67c3, 0x3fd54fbef8a23f23, 0x3fe954180257e8d2, 0x3ffc9b27e1a19636, 0x3fd7458523b0aebb, 0x3fd57ecbf85f9b05, 0x3fef6187f1d97bf6, 0x3fd58f0608390ba7, 0x3ff6fcf491949e60}, 1, words{0x0000000000000000, 0x0000000000000000, 0x3fd96b53978a16b6, 0x3fec6b366c332395, 0xbfe10030337ba58c, 0x3fe9505fcfe6489b, 0xbfee5336cf6f4982, 0x3fd9586755b25bf4, 0xbfee47376fb7bafa, 0x3fd9fc613240cf66, 0xbff494dbe93cc752, 0x3fd3a6c9c15895bb, 0xbfef2ab6ff627be4, 0x3f68177b051e5d80, 0xbfe87fc241c44d28, 0xbfc69adc90a8cef2, 0xbfe80a401744fb93, 0xbfbaf8b17a427ccd}},
		{words{0xc00e4e2b941704fc, 0xc00b0ff2546e8496, 0xc0090fa4a2d8a4bc, 0xc00183bf72027faa, 0xc00066099ac00ba4, 0xbff21c532fea18d4, 0xbff0d25caa3fb824, 0xbfdeef37ecd6df20, 0xbfcc04a8c41648c0, 0xbfc6f4acc7a24e00, 0x3fca63991350c1e0, 0x3fe5416e33ccf7e0, 0x3ff4204bde529e04, 0x3ff9a10ccfd0f758, 0x4008842eedc205d2, 0x400c25c26b94816a}, words{0x3fd404778140fe6d, 0x3feea13777cba407, 0x3fe05bbfd86946d8, 0x3ff85676b2a01a19, 0x3ff3fc19af7ba97e, 0x3fd42d3611828da3, 0x3ff7ea7bd1126c36, 0x3fcb08798071eaa0, 0x3ff7b580666df371, 0x3fe721bc70edc57c, 0x3ff556f9ee6c98b6, 0x3feb2d5f5513bb55, 0x3fe61d59e998c327, 0x3fe2a9d8f529d4df, 0x3fed1bfd87981e2d, 0x3feb62ba49df2585}, 2, words{0x0000000000000000, 0x0000000000000000, 0xbfcdd52b51682a4e, 0x3fd65d868cc3eda6, 0xbfd777e5f02bd10e, 0x3fe0080871666f81, 0xbfe1076774240eb5, 0x3fd75de2efc51bb8, 0xbfe1137cae381834, 0x3fd77fa6574d4560, 0xbfe04d4145025d4a, 0x3fe082ee864d1e3c, 0xbfe1b11e5323f3b3, 0x3fdfc8b86eb4cdac, 0xbfe62d6d7f26db01, 0x3fe9870f900e3bd6, 0xbfe7e0dae1e9564d, 0x3fe230d2b8b62de5, 0xbfe820fca81efec3, 0x3fe23be02a85ae53, 0xbfe9cdc54745b9fb, 0x3fe0d2bcb0e2b1e1, 0xbfecc952311983be, 0x3fe1e82548158978, 0xbff30a7ce8081490, 0x3fe0bd28f47515b2, 0xbff560f2a29b144e, 0x3fce9e45fa0aa520, 0xbff0509db7a6095a, 0xbfa889b86bee1950, 0xbfeeab2ddf41371e, 0xbfb3e7f51c08d49b}},
	} {
		wantCorners(t, shape{r.at.floats(), r.angles.floats()}, r.pieces, r.told.list(), api.OK)
	}
}

// How high the strip is, a place of the half plane and one of the strip; Strip of the first, Back of the second.
func TestP19_5Bits(t *testing.T) {
	for _, r := range []struct{ asked, strip, back words }{
		{words{0x41a2373a4e7329f4, 0xbfcf0726e8dbd72d, 0x3f31a93935ef5322, 0xc1b2414baf1b3443, 0x4168e915b49ddbaa}, words{0xc1906f1297b28145, 0x41a23593dca7083b}, words{0x3f5d1a32d2e67f09, 0x3f4003f698a894f6}},
		{words{0x4052afb39a47bcc0, 0xbff19d1735147a08, 0x0000000000000000, 0x40444b48ab1cec77, 0x0000000000000000}, words{0x400249db1e647957, 0x4052afb39a47bcc0}, words{0x401606bf08e341c8, 0x0000000000000000}},
		{words{0x3fa6067ed6ec52d2, 0x4009c7181d61a55a, 0x0000000000000000, 0xbfa0e1d265d8ed3b, 0x3f72877f5e0d61fc}, words{0x3f90680d6f223c6f, 0x0000000000000000}, words{0x3fb5cb12e003275a, 0x3f9de50348e12bd7}},
		{words{0x3fb20a48adebf554, 0xbeac8dff83e17ea9, 0x40dd586f9fc09617, 0x3fba7b9060476ba6, 0x3fa4477c048b68dd}, words{0x3fcd9a8837c2ec57, 0x3fa20a48aded5af0}, words{0xc0338070c1c1e45a, 0x4058b08e6654cd78}},
		{words{0x3fe2031fef2d4e83, 0xbfc0c18eff7e6180, 0x3ee19a0332bdd04e, 0xbffa3fe3d790b1c7, 0x3fc4590eb0c47107}, words{0xbfd750ba38c6f52b, 0x3fe20307d7da515b}, words{0x3f1178308f1efb13, 0x3f157255d1b5696d}},
		{words{0x3f8bbc49cbffa43f, 0xc00c955bba1ad652, 0x0000000000000000, 0x3f9b03f5c5149639, 0x3f66cfeb89ac6366}, words{0x3f767beff97f7717, 0x3f8bbc49cbffa43f}, words{0x4076b3d1a5c2c6d9, 0x40711d70bc6242d8}},
		{words{0x3ee6f2e577f9f2d2, 0xc21de79c0d867982, 0x4051ee58c5a41ec9, 0xbeefe0f95560aab4, 0x3ea7cbc61174ee3e}, words{0x3f1617183a5256bb, 0x3ee6f2e577b3de43}, words{0x3f89868859c87fd9, 0x3f6514711c613735}},
		{words{0x4017a6b0409a6357, 0x3feb477dcd36dcf0, 0x8000000000000000, 0xc025ad4134d52b0d, 0x0000000000000000}, words{0xbfd339bfd4fee276, 0x0000000000000000}, words{0x3f69d91bb698a693, 0x0000000000000000}},
		{words{0x41eb1e3cf27dea76, 0xc004b92e4f0ef950, 0x3ff3c8f59c4e5ce3, 0xc1fc6e349e75fc4d, 0x41eb1e3cf27dea76}, words{0x41d234433915f710, 0x41e7461014986071}, words{0xbf5692f6ffe0ffb4, 0x3c08e69117999a94}},
		{words{0x3fecc760034abf9e, 0x3e6312b5f7ca378c, 0x41f5c8c2228fa966, 0xbfecc5c469ddc978, 0x3fe7c355f4ceab39}, words{0x4019c07b83407bd9, 0x3fdcc760034abf9e}, words{0xbfa2e766898170dd, 0x3f970d67be865ce4}},
		{words{0x40a957e524a2e4e0, 0x3ffa45e2d3bbeb94, 0x40001f8c848a99f4, 0xc0a94c9ea3326c73, 0x409066b7e335df6d}, words{0x408ed40e1d9c45a1, 0x408ca0348876966a}, words{0x3f976aa595ac4b06, 0x3fa2ea9838818f0b}},
		{words{0x3faea36a7272c0d0, 0x3ff2c4ab0dc04a50, 0x0000000000000000, 0xbfb2a4e1ba3c19ca, 0x3faea36a7272c0d0}, words{0x3f68e67f2a4acd26, 0x0000000000000000}, words{0xbf966073261a9fdd, 0x3c48aed86fa900d9}},
		{words{0x40211da7bd9afefe, 0xc071336ad3414e7c, 0x3d803c927a9a1897, 0x40262e5cfa31f8b5, 0x400dafa84f42465c}, words{0x402e9aede42420b9, 0x40211da7bd9afef4}, words{0x402848704df486a1, 0x404cae7e78aecde4}},
		{words{0x40545b63f2f9b86b, 0x4009e90e849c6d06, 0x3e963eed085fa2e2, 0xc04ec0d8652c0122, 0x40545b63f2f9b86b}, words{0x403e75dff96a89da, 0x3ec640e4b985f9db}, words{0xbfb7dbfe40681484, 0x3c6a518188f23d34}},
	} {
		high, places := r.asked.floats()[0], r.asked[1:].list()
		wantStrip(t, places[0], high, r.strip.list()[0], api.OK)
		wantBack(t, places[1], high, r.back.list()[0], api.OK)
	}
}
