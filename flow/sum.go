package flow

import (
	"eddy/api"
	"eddy/element"
	"eddy/parts"
)

// elements are what is summed, with what each one tells of a place.
type elements []api.Element

func (l elements) potential(i int, z complex128) (complex128, api.Errno) {
	return element.Potential(l[i], z)
}

func (l elements) speed(i int, z complex128) (complex128, api.Errno) {
	return element.Speed(l[i], z)
}

func (l elements) slope(i int, z complex128) (complex128, api.Errno) {
	return element.Slope(l[i], z)
}

// sum goes over elements at one place. What these tell, it has itself: so a call of its own says what is added up.
type sum struct {
	elements
	at complex128
}

// sumAt is the sum over a flow that may be, at a place.
func sumAt(f api.Flow, z complex128) (sum, api.Errno) {
	if e := Check(f); e != api.OK {
		return sum{}, e
	}
	if !isPlace(z) {
		return sum{}, api.ErrReal
	}
	return sum{f.Elements, z}, api.OK
}

// of adds up from the left.
func (s sum) of(told func(i int, z complex128) (complex128, api.Errno)) (complex128, api.Errno) {
	values := make([]complex128, len(s.elements))
	for i := range values {
		var e api.Errno
		if values[i], e = told(i, s.at); e != api.OK {
			return 0, e
		}
	}
	whole := parts.Sum(values)
	if !parts.Finite(whole) {
		return 0, api.ErrPlace
	}
	return whole, api.OK
}
