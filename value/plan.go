package value

import (
	"wreckage/api"
	"wreckage/kinds"
	"wreckage/layout"
)

// part is a part of a value, or one of those to which it leads: how far behind the first one it begins, and its type.
type part struct {
	at, t int
}

// shape is a type, and how it lies in bytes: it has parts if it is a struct or an array.
type shape struct {
	api.Type
	size, align int
	parts       []part
}

// plan are the shapes of a table, of those types that one of them reaches.
type plan []shape

// planned returns the plan of a table and a type.
func planned(l []api.Type, t int) (plan, api.Errno) {
	// The errors of this are those of layout.Size, but for a size that is too great: this comes last, of whichever type it is.
	reached, e := kinds.Reach(l, t)
	if e != api.OK {
		return nil, e
	}
	p := make(plan, len(l))
	for _, i := range reached {
		size, align, e := layout.Size(l, i)
		if e != api.OK {
			return nil, e
		}
		// The parts of a type stand before it, so they are planned already.
		parts, e := p.partsOf(l, i)
		if e != api.OK {
			return nil, e
		}
		p[i] = shape{Type: l[i], size: size, align: align, parts: parts}
	}
	return p, api.OK
}

// partsOf returns the parts of the type i of a table.
func (p plan) partsOf(l []api.Type, i int) ([]part, api.Errno) {
	switch l[i].Kind {
	case api.KindArray:
		return p.row(l[i].Elem, l[i].Len), api.OK
	case api.KindStruct:
		at, _, _, e := layout.Offsets(l, l[i].Fields)
		if e != api.OK {
			return nil, e
		}
		parts := make([]part, len(at))
		for n, f := range l[i].Fields {
			parts[n] = part{at: at[n], t: f.Type}
		}
		return parts, api.OK
	}
	return nil, api.OK
}

// row returns n parts of a type, one size behind the other.
func (p plan) row(t, n int) []part {
	parts := make([]part, n)
	for i := range parts {
		parts[i] = part{at: i * p[t].size, t: t}
	}
	return parts
}

// fits reports whether a value is one of a type in some memory, to a depth, with nothing cut.
func (p plan) fits(t int, v api.Value, depth int) bool {
	x := p[t]
	if v.Kind != x.Kind || v.Cut {
		return false
	}
	switch x.Kind {
	case api.KindBool:
		return (v.Int == 0 || v.Int == 1) && v.Text == "" && len(v.List) == 0
	case api.KindInt:
		return v.Text == "" && len(v.List) == 0
	case api.KindText:
		return v.Int == 0 && len(v.Text) <= api.MaxText && len(v.List) == 0
	}
	if v.Int != 0 || v.Text != "" {
		return false
	}
	switch x.Kind {
	case api.KindPointer:
		return p.canLead(x.Elem, v.List, 1, depth)
	case api.KindSlice:
		return p.canLead(x.Elem, v.List, api.MaxLen, depth)
	}
	return p.allFit(x.parts, v.List, depth)
}

// canLead reports whether a pointer or a slice can lead to some values, of which there may be so many at most.
func (p plan) canLead(elem int, l []api.Value, most, depth int) bool {
	if len(l) == 0 {
		return true
	}
	return depth > 0 && len(l) <= most && p.allFit(p.row(elem, len(l)), l, depth-1)
}

// allFit reports whether values fit parts, one each.
func (p plan) allFit(parts []part, l []api.Value, depth int) bool {
	if len(l) != len(parts) {
		return false
	}
	for i, x := range parts {
		if !p.fits(x.t, l[i], depth) {
			return false
		}
	}
	return true
}
