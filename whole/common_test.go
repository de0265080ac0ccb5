package whole

import (
	"math/big"
	"math/bits"
	"testing"
)

func bigOf(a []uint64) *big.Int {
	n := new(big.Int)
	for i := len(a) - 1; i >= 0; i-- {
		n.Lsh(n, 64).Or(n, new(big.Int).SetUint64(a[i]))
	}
	return n
}

// TestLessCarries has words whose products with x and y end just below 2^64, so that what comes over from below makes them carry: by chance that hardly ever comes up.
func TestLessCarries(t *testing.T) {
	for _, x := range []uint64{3, 1<<31 + 1, 1<<32 - 1} {
		for _, y := range []uint64{5, 7<<20 + 3, 1<<32 - 3} {
			var a, b []uint64
			for k := uint64(1); k < 40; k++ {
				words := func(by uint64) []uint64 {
					q, _ := bits.Div64(k%by, 1<<63+k, by)
					low, _ := bits.Div64(k%by, 0, by)
					return []uint64{1<<64 - 1, low, -k, q}
				}
				a, b = append(a, words(x)...), append(b, words(y)...)
			}
			a = append(a, 1<<63) // so that nothing is below nought
			b = append(b, 1)
			want := new(big.Int).Mul(bigOf(a), new(big.Int).SetUint64(x))
			want.Sub(want, new(big.Int).Mul(bigOf(b), new(big.Int).SetUint64(y)))
			want.Mod(want, new(big.Int).Lsh(big.NewInt(1), uint(64*len(a))))
			if got := bigOf(less(a, x, b, y)); got.Cmp(want) != 0 {
				t.Errorf("less by %d and %d is off by %x", x, y, got.Sub(got, want))
			}
			want.Mul(bigOf(b), new(big.Int).SetUint64(x))
			want.Sub(want, new(big.Int).Mul(bigOf(a), new(big.Int).SetUint64(y)))
			want.Mod(want, new(big.Int).Lsh(big.NewInt(1), uint(64*len(a))))
			if got := bigOf(less(b, x, a, y)); got.Cmp(want) != 0 {
				t.Errorf("less by %d and %d, turned, is off by %x", x, y, got.Sub(got, want))
			}
		}
	}
}
