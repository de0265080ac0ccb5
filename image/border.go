package image

import (
	"eddy/api"
	"eddy/element"
)

// border is what nothing shall go through. Each method tells what comes of an element of one kind, and whether such a one may be where it is.
type border interface {
	stream(api.Element) (reflection, bool)
	source(api.Element) (reflection, bool)
	doublet(api.Element) (reflection, bool)
	corner(api.Element) (reflection, bool)
}

// reflection is what stands in an element's own place, and its images.
type reflection struct {
	own    api.Element
	images []api.Element
}

// kinds tells what is done with an element, by its kind.
func kinds() map[uint8]func(border, api.Element) (reflection, bool) {
	return map[uint8]func(border, api.Element) (reflection, bool){
		api.Stream:  border.stream,
		api.Source:  border.source,
		api.Doublet: border.doublet,
		api.Corner:  border.corner,
	}
}

// reflected is a flow that may be, with all its images behind it.
func reflected(f api.Flow, b border) (api.Flow, api.Errno) {
	var own, images []api.Element
	reflect := kinds()
	for _, x := range f.Elements {
		r, ok := reflect[x.Kind](b, x)
		if !ok {
			return api.Flow{}, api.ErrWall
		}
		own = append(own, r.own)
		images = append(images, r.images...)
	}
	return answered(append(own, images...))
}

// answered is the flow of these elements, if there may be so many, and each of them.
func answered(l []api.Element) (api.Flow, api.Errno) {
	if len(l) > api.MaxElements {
		return api.Flow{}, api.ErrMany
	}
	for _, x := range l {
		if e := element.Check(x); e != api.OK {
			return api.Flow{}, e
		}
	}
	return api.Flow{Elements: l}, api.OK
}
