package gauss

import (
	"strings"

	"eddy/api"
	"eddy/whole"
)

// read is an exact number's texts as a number: all texts are looked at ahead of the lowest terms, which are asked for in full numbers.
func read(a api.Exact) (number, api.Errno) {
	re, e := readTexts(a.Re)
	if e != api.OK {
		return number{}, e
	}
	im, e := readTexts(a.Im)
	if e != api.OK {
		return number{}, e
	}
	if !re.isLowest() || !im.isLowest() {
		return number{}, api.ErrExact
	}
	return number{re, im}, api.OK
}

func readFraction(a api.Ratio) (fraction, api.Errno) {
	x, e := readTexts(a)
	switch {
	case e != api.OK:
		return fraction{}, e
	case !x.isLowest():
		return fraction{}, api.ErrExact
	}
	return x, api.OK
}

// readTexts is a fraction that need not be in lowest terms.
func readTexts(a api.Ratio) (fraction, api.Errno) {
	top, e := readText(a.Num)
	if e != api.OK {
		return fraction{}, e
	}
	bottom, e := readText(a.Den)
	if e != api.OK {
		return fraction{}, e
	}
	if bottom.Sign() <= 0 {
		return fraction{}, api.ErrExact
	}
	return fraction{top, bottom}, api.OK
}

func readText(text string) (whole.Number, api.Errno) {
	if len(strings.TrimPrefix(text, "-")) > api.MaxDigits {
		return whole.Number{}, api.ErrMany
	}
	n, ok := whole.Read(text)
	if !ok {
		return whole.Number{}, api.ErrExact
	}
	return n, api.OK
}

func (a fraction) isLowest() bool { return whole.Common(a.top, a.bottom).IsOne() }

// tell is a number's texts.
func tell(a number) (api.Exact, api.Errno) {
	re, e := tellFraction(a.re)
	if e != api.OK {
		return api.Exact{}, e
	}
	im, e := tellFraction(a.im)
	if e != api.OK {
		return api.Exact{}, e
	}
	return api.Exact{Re: re, Im: im}, api.OK
}

func tellFraction(a fraction) (api.Ratio, api.Errno) {
	num, e := tellWhole(a.top)
	if e != api.OK {
		return api.Ratio{}, e
	}
	den, e := tellWhole(a.bottom)
	if e != api.OK {
		return api.Ratio{}, e
	}
	return api.Ratio{Num: num, Den: den}, api.OK
}

// tellWhole refuses by its bits what is surely too long, for the way to tens is long: ten bits are more than three digits.
func tellWhole(a whole.Number) (string, api.Errno) {
	if a.Bits() > api.MaxDigits*10/3+1 {
		return "", api.ErrMany
	}
	text := a.Text()
	if len(strings.TrimPrefix(text, "-")) > api.MaxDigits {
		return "", api.ErrMany
	}
	return text, api.OK
}
