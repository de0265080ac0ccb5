package zeros

import (
	"math"

	"eddy/api"
	"eddy/whole"
)

// infiniteBits are those of the first float above all finite ones: from 0 to them the bits rise as the floats do.
const infiniteBits = 0x7ff0000000000000

// Radius is a radius about a place within which there surely is a zero: of the zeros' distances, each turned over, none is greater than that of the nearest one, and all together are not less than what the slope is over the value.
func Radius(l []complex128, z complex128) (float64, api.Errno) {
	if e := checkWith(l, z); e != api.OK {
		return 0, e
	}
	degree := len(l) - 1
	if degree == 0 {
		return 0, api.ErrPlace
	}
	value, slope, unit := exactly(l, z)
	need, give := value.Norm(), slope.Norm()
	if need.Sign() == 0 {
		return 0, api.OK
	}
	if give.Sign() == 0 {
		return 0, api.ErrPlace
	}
	need = need.Times(whole.Of(degree * degree))
	r := leastFloat(func(r float64) bool {
		n, power := whole.OfFloat(r)
		left := 2 * (power - unit)
		return give.Times(n).Times(n).Left(max(left, 0)).Cmp(need.Left(max(-left, 0))) >= 0
	})
	if math.IsInf(r, 1) {
		return 0, api.ErrPlace
	}
	return r, api.OK
}

// exactly is the value at z and the slope there, by whole numbers, as gauss' texts may not hold all of their digits. Both are counted in units: the value's is the slope's times 2 to the power of unit.
func exactly(l []complex128, z complex128) (value, slope whole.Point, unit int) {
	places, unit := whole.Grid([]complex128{z})
	coefficients, _ := whole.Grid(l)
	slopes := make([]whole.Point, len(l)-1)
	for i := range slopes {
		slopes[i] = coefficients[i+1].Scale(whole.Of(i + 1))
	}
	value = whole.Value(whole.Stretched(coefficients, unit), places[0])
	slope = whole.Value(whole.Stretched(slopes, unit), places[0])
	return value, slope, unit
}

// leastFloat is the least float, from 0 on, that is enough; where none is, it is infinite.
func leastFloat(isEnough func(float64) bool) float64 {
	low, high := uint64(0), uint64(infiniteBits)
	for low < high {
		middle := low + (high-low)/2
		if isEnough(math.Float64frombits(middle)) {
			high = middle
		} else {
			low = middle + 1
		}
	}
	return math.Float64frombits(low)
}
