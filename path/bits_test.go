package path_test

import (
	"math"
	"testing"

	"eddy/api"
	"eddy/path"
)

// words are floats' bits, worked out apart from this program.
type words []uint64

func (w words) float(i int) float64 { return math.Float64frombits(w[i]) }

func (w words) list() list {
	var l list
	for i := 0; i < len(w); i += 2 {
		l = append(l, complex(w.float(i), w.float(i+1)))
	}
	return l
}

// A circle's centre and radius, how many places, the number of one of them, and where it is.
func TestP12_4Bits(t *testing.T) {
	for _, r := range []struct {
		circle words
		n, k   int
		place  words
	}{
		{words{0x0000000000000000, 0x0000000000000000, 0x3ff0000000000000}, 4, 1, words{0x3c91a62633145c00, 0x3ff0000000000000}},
		{words{0x0000000000000000, 0x0000000000000000, 0x3ff0000000000000}, 4, 2, words{0xbff0000000000000, 0x3ca1a62633145c00}},
		{words{0x0000000000000000, 0x0000000000000000, 0x3ff0000000000000}, 4, 3, words{0xbcaa79394c9e8a00, 0xbff0000000000000}},
		{words{0x8000000000000000, 0x8000000000000000, 0x3fb999999999999a}, 3, 0, words{0x3fb999999999999a, 0x0000000000000000}},
		{words{0x0000000000000000, 0x0000000000000000, 0x3fb999999999999a}, 3, 1, words{0xbfa9999999999996, 0x3fb62b9586ad0a24}},
		{words{0x3ff0000000000000, 0xc000000000000000, 0x3fd3333333333333}, 7, 5, words{0x3feddd21eef96dfc, 0xc00256fee6cd1181}},
		{words{0x0000000000000000, 0x0000000000000000, 0x4270000000000000}, 4096, 4095, words{0x426ffffd88586ee6, 0xc1d921faaee64e7f}},
		{words{0x0000000000000000, 0x0000000000000000, 0x3d70000000000000}, 4095, 1024, words{0xbcb9238d82c52ccd, 0x3d6fffffd88096af}},
		{words{0x400a8501e30eea3a, 0xc0061b339e058f80, 0x405462804d496cdf}, 13, 7, words{0xc052f6b45ca9da1b, 0xc03646e062e49ccd}},
		{words{0xc048ee58b000da5a, 0xc00fa60dbce14edc, 0x3fc56f547bcfdbb0}, 4093, 240, words{0xc048da5994ca6a7c, 0xc00f2a89d462ba49}},
		{words{0xc0013199df06ec13, 0x3fccc419a5af4f7e, 0x406eb3d7861f1f2c}, 100, 84, words{0x40602ebd26c08582, 0xc069e517adae4e3c}},
		{words{0xc01174a555fa9971, 0x4011cce9c7525cd7, 0x4028a1c0f2a00555}, 49, 35, words{0xc01c6af86243a166, 0xc01e3a65bb0e8c6b}},
		{words{0xc038e1e55457a960, 0xc01668864b37023e, 0x3ff7a0d7bd37f5b2}, 6, 4, words{0xc0399eec1241690e, 0xc01b862330134fbe}},
		{words{0xbfff7ab62a623c50, 0x401f0eb21ab9ebfc, 0x3fc1d241ec8137a6}, 3, 1, words{0xc0004bed249527e5, 0x401f8a2a5a05e42f}},
		{words{0x40382e7ddd257e5e, 0xc01073465ac30754, 0x3fc84dd01e0d2dea}, 10, 6, words{0x4038072ac24ecaea, 0xc010e58f12e049ad}},
		{words{0x4043453e718b38e9, 0xbfec0d7fcd1995d8, 0x3fd13f68ff644c6c}, 3, 0, words{0x404367bd438a0182, 0xbfec0d7fcd1995d8}},
		{words{0x4047f90924b0382a, 0xc008396ae8eb2464, 0x40056f3eee9054a5}, 11, 7, words{0x4047187308b66149, 0xc01436335e4bff6c}},
		{words{0x3fd3d6ae5be96aa8, 0x400ec9ba191903bb, 0x404307186d886a8f}, 4093, 900, words{0x401dde76d3aa6030, 0x40449cc6f2219fb2}},
		{words{0xc00f29c582895898, 0xbfb3dd8a0b970328, 0x3fa3f5fcff3cf7ac}, 100, 46, words{0xc00f771b4de4ec27, 0xbfb1622356580dec}},
		{words{0xc00061eeffdae235, 0x3fea3b07183c7892, 0x3fe7d601934106b6}, 49, 16, words{0xc003238955c22526, 0x3ff7ae87f4164d5c}},
		{words{0x3fde4f20d37a4600, 0x3fb4a9409b3bd834, 0x406547af49e34757}, 997, 527, words{0xc064e0e5631afad5, 0xc03e54f9060a64ed}},
		{words{0x3feb466f17958f0a, 0x3fb855efa68287b4, 0x3fbb1b0d8e0df4f6}, 997, 571, words{0x3fe83c066ebe9e29, 0x3fa8c145cb56b49f}},
	} {
		l, e := path.Circle(api.Circle{Centre: r.circle[:2].list()[0], Radius: r.circle.float(2)}, r.n)
		if e != api.OK || len(l) != r.n {
			t.Fatalf("%d places on %x: %d, %d", r.n, r.circle, len(l), int(e))
		}
		if !same(l[r.k], r.place.list()[0]) {
			t.Errorf("the place %d of %d on %x: %x, not %x", r.k, r.n, r.circle, l[r.k], r.place)
		}
	}
}

// A path, its length, its area.
func TestP12_5Bits(t *testing.T) {
	for _, r := range []struct {
		path         words
		length, area uint64
	}{
		{words{0x3fd6b9a47446d988, 0xbfc6f6e71af18bee, 0x3ffc2abd261412a0, 0x3ff96a3b482f8cf1, 0xbfe94859971d25c3, 0x3ffa35820178bf68}, 0x401bd486e1e8b36e, 0x4002508cf98d7ece},
		{words{0xc01046173f60ab50, 0xc02e75fda00fd17e, 0xbffe5c106a255f1e, 0xbffca03845daa5ca, 0xbfdb5d5278b4d298, 0x402454c665de3851, 0x3fc9f427f738e69a, 0xc0188c4ee132b07a}, 0x404a02c3e63eab84, 0xc0414abf7c375a2c},
		{words{0x3fc94a7a5e7dd424, 0x3fc5b13046a5ae01, 0x3fc244d9215f8116, 0x3fd4f832ed643c26, 0x3fc5d984185a0216, 0xbff7ce1f4b3ef8c5, 0x4012deb27a1d0354, 0x3fe74fb05c7a084e, 0xbfcf19c9fc72dbef, 0x4025dd1ee28f33ea}, 0x403d28720559b5a5, 0x403c3b26c4b4b367},
		{words{0xbfeb03ff48dd6aad, 0xbfd8432d91d67501, 0x3ff298f849005cb7, 0x4029b459210074b0, 0xc0275cdcd8eb54e2, 0xbfdd4e85358b684f, 0x40289b9bd165d164, 0x3ff857b19158c666, 0xc00f8f188e366f26, 0x40159a89fd8622dc, 0xbff527feeb8cd5aa, 0x3fda1edc549d48f1, 0xc027a214aa738b94, 0xbfc4079410fd3d1f, 0x3fecdb93e4bac52a, 0x400efa67ad414555}, 0x405aaf38191df089, 0x4054ec1dcbbd561b},
		{words{0x402639a991a037ce, 0x3fe25f013a406e02, 0xc00d7ba5a751012c, 0x400699492cd900f2, 0x40256ffe58d05585, 0x3ff7e1160ec4f0e0, 0xbfd2b79c3993db0f, 0x3fe1c123b3f12c3c, 0xc01de4efcdabb8f2, 0x3fefaf49417823de, 0xbfedbe4645bb05fe, 0xc02bfbeaebc27654, 0xbfc8e3c70e9de876, 0xbfdcf6f4c85792e8, 0xc023266d176e812e, 0x3fded4ecec614e9f, 0x3fc8bd1733b96e69, 0xbff5d5809b5eb782, 0xc0072cdc5c323e7f, 0xc02a6c873840d44d, 0x401815a1d2f9053c, 0x40177a061ab63838, 0x400da53e66d469a8, 0xbfeb70b097b09ad4, 0xbffecc3c824f635b, 0x402b0bde1634c0bb}, 0x4065663d2b9c8f88, 0x4036f4f9ea08bf28},
		{words{0x4268c7c132cfcd87, 0x3fcc0fda9224c2c4, 0x41e0ff888276a193, 0x3fa15911079c9882, 0xc1deedb6007fc199, 0xc03afc52f95ed80e, 0xc2697db10074b46a, 0x401a11466a69c644, 0x4256c6daa54cbdd4, 0x400ccd3a827bc2da, 0xc22a7f154336b563, 0xbfffc9a25197fe5c}, 0x428fa8686d0f2618, 0xc2a9b84445e3aff3},
		{words{0x8104c554c23eb2ab, 0x9edab4a4d48e3f16, 0x8103a810bc3f16c6, 0x1f3bb22b62ae216f, 0x00d56f646f302542, 0x1f657b0d4c63b883, 0x00b1078e52760573, 0x1f6443a90b398c52}, 0x1f7588679ecdffa2, 0x0000000000000000},
		{words{0xc18d6a66db14f4dc, 0x3e3beb49508edf9c, 0x3d06b215cbfb4c33, 0xc13bcaf7d72c7d52, 0x4092c3e254b9b081, 0xc0c9889ef93dfac0, 0x3ea60de74cabe1e2, 0x3ed5ad7173d0469e, 0x41212385565894dc, 0x3ece3ac03468f082, 0x3d59db1df6b32592, 0x41756185d4aa2dc8, 0x3ed0af7815080eb4, 0xc06d5bf7d557d778}, 0x41a457599609f27f, 0x42cc6885acab2210},
		{words{0x0000000000000002, 0x0000000000000021, 0x0000000000000003, 0x000000000000003f, 0x0000000000000002, 0x0000000000000057, 0x0000000000000005, 0x0000000000000016}, 0x0000000000000082, 0x0000000000000000},
	} {
		wantLength(t, r.path.list(), math.Float64frombits(r.length), api.OK)
		wantArea(t, r.path.list(), math.Float64frombits(r.area), api.OK)
	}
}
