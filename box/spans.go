package box

import (
	"math"

	"eddy/api"
	"eddy/float"
)

// The parts of a box, and the ends of a part.
const (
	re, im       = 0, 1
	lower, upper = 0, 1
)

// span is a part of a box. What comes of spans is worked out and moved to the next float outward, so that it encloses whatever rounding did.
type span [2]float64

// ends are those of a box, as one value.
type ends [2]span

func endsOf(b api.Box) ends {
	return ends{{real(b.Low), real(b.High)}, {imag(b.Low), imag(b.High)}}
}

func (e ends) box() api.Box {
	return api.Box{Low: complex(e[re][lower], e[im][lower]), High: complex(e[re][upper], e[im][upper])}
}

// inOrder has the lesser end of each part first.
func (e ends) inOrder() ends { return ends{e[re].inOrder(), e[im].inOrder()} }

// joined are the ends of the least box round two.
func (e ends) joined(f ends) ends {
	return ends{
		{math.Min(e[re][lower], f[re][lower]), math.Max(e[re][upper], f[re][upper])},
		{math.Min(e[im][lower], f[im][lower]), math.Max(e[im][upper], f[im][upper])},
	}
}

// shared are the ends of what two boxes have together.
func (e ends) shared(f ends) ends {
	return ends{
		{math.Max(e[re][lower], f[re][lower]), math.Min(e[re][upper], f[re][upper])},
		{math.Max(e[im][lower], f[im][lower]), math.Min(e[im][upper], f[im][upper])},
	}
}

func (s span) inOrder() span {
	return span{chosen(math.Min, s[lower], s[upper]), chosen(math.Max, s[lower], s[upper])}
}

func (s span) plus(t span) span {
	return span{float.Down(s[lower] + t[lower]), float.Up(s[upper] + t[upper])}
}

func (s span) minus(t span) span {
	return span{float.Down(s[lower] - t[upper]), float.Up(s[upper] - t[lower])}
}

// times: no product of two places is beyond those of the ends.
func (s span) times(t span) span {
	return around(float64(s[lower]*t[lower]), float64(s[lower]*t[upper]), float64(s[upper]*t[lower]), float64(s[upper]*t[upper]))
}

// over is the quotient by a span above nought.
func (s span) over(t span) span {
	return around(s[lower]/t[lower], s[lower]/t[upper], s[upper]/t[lower], s[upper]/t[upper])
}

// squared is never below nought, where moving outward would lead.
func (s span) squared() span {
	out := around(float64(s[lower]*s[lower]), float64(s[upper]*s[upper]))
	if s[lower] <= 0 && s[upper] >= 0 {
		return span{0, out[upper]}
	}
	return span{math.Max(0, out[lower]), out[upper]}
}

// mirrored has the signs turned.
func (s span) mirrored() span { return span{-s[upper], -s[lower]} }

// middle halves each end first, as their sum may pass all floats; where halves are rounded, it could leave the span.
func (s span) middle() float64 {
	m := float64(s[lower]/2) + float64(s[upper]/2)
	switch {
	case m < s[lower]:
		return s[lower]
	case m > s[upper]:
		return s[upper]
	}
	return m
}

// around is the span from below the least of several floats to above the greatest.
func around(first float64, others ...float64) span {
	return span{float.Down(chosen(math.Min, first, others...)), float.Up(chosen(math.Max, first, others...))}
}

// chosen is what choose leaves of several, from the left: the least of them, or the greatest.
func chosen[T any](choose func(a, b T) T, first T, others ...T) T {
	for _, next := range others {
		first = choose(first, next)
	}
	return first
}
