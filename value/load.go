package value

import (
	"wreckage/api"
	"wreckage/region"
)

// memory are the regions in which values of planned types are.
type memory struct {
	plan    plan
	regions []api.Region
}

// find returns the region that has n bytes at an address, which has to be a multiple of a number.
func (m memory) find(a uint64, n, multiple int) (api.Region, api.Errno) {
	i, e := region.Find(m.regions, a, max(n, 1))
	if e != api.OK && e != api.ErrNone {
		return api.Region{}, e
	}
	if e == api.ErrNone || a%uint64(multiple) != 0 {
		return api.Region{}, api.ErrRange
	}
	return m.regions[i], api.OK
}

// load returns the value of a type at an address, to a depth, if the region r has its bytes there.
func (m memory) load(r api.Region, a uint64, t, depth int) (api.Value, api.Errno) {
	x := m.plan[t]
	v := api.Value{Kind: x.Kind}
	switch x.Kind {
	case api.KindBool:
		return loadBool(v, r, a)
	case api.KindInt:
		v.Int = int64(wordAt(r, a))
		return v, api.OK
	case api.KindText:
		return m.loadText(v, r, a)
	case api.KindPointer:
		return m.loadPointer(v, wordAt(r, a), x.Elem, depth)
	case api.KindSlice:
		return m.loadSlice(v, r, a, x.Elem, depth)
	}
	return m.loadList(v, r, a, x.parts, depth)
}

func loadBool(v api.Value, r api.Region, a uint64) (api.Value, api.Errno) {
	b, e := region.Load(r, a, 1)
	if e != api.OK {
		return api.Value{}, e
	}
	if b > 1 {
		return api.Value{}, api.ErrForm
	}
	v.Int = int64(b)
	return v, api.OK
}

func (m memory) loadText(v api.Value, r api.Region, a uint64) (api.Value, api.Errno) {
	to, n := wordAt(r, a), wordAt(r, a+wordSize)
	if n > api.MaxText || to == 0 && n != 0 {
		return api.Value{}, api.ErrForm
	}
	if n == 0 {
		return v, api.OK
	}
	there, e := m.find(to, int(n), unit)
	if e != api.OK {
		return api.Value{}, e
	}
	b, e := region.Bytes(there, to, int(n))
	if e != api.OK {
		return api.Value{}, e
	}
	v.Text = string(b)
	return v, api.OK
}

func (m memory) loadPointer(v api.Value, to uint64, elem, depth int) (api.Value, api.Errno) {
	if to == 0 {
		return v, api.OK
	}
	return m.follow(v, to, elem, 1, 1, depth)
}

func (m memory) loadSlice(v api.Value, r api.Region, a uint64, elem, depth int) (api.Value, api.Errno) {
	to, n, capacity := wordAt(r, a), wordAt(r, a+wordSize), wordAt(r, a+2*wordSize)
	if n > capacity || capacity > api.MaxLen || to == 0 && capacity != 0 {
		return api.Value{}, api.ErrForm
	}
	if to == 0 {
		return v, api.OK
	}
	return m.follow(v, to, elem, int(n), int(capacity), depth)
}

// follow returns a pointer or a slice with the n values to which it leads, where there has to be room for as many as are told.
func (m memory) follow(v api.Value, to uint64, elem, n, room, depth int) (api.Value, api.Errno) {
	there, e := m.find(to, room*m.plan[elem].size, unit)
	if e != api.OK {
		return api.Value{}, e
	}
	if n > 0 && depth == 0 {
		v.Cut = true
		return v, api.OK
	}
	return m.loadList(v, there, to, m.plan.row(elem, n), depth-1)
}

// loadList returns a value with the values of parts as its List.
func (m memory) loadList(v api.Value, r api.Region, a uint64, parts []part, depth int) (api.Value, api.Errno) {
	for _, x := range parts {
		part, e := m.load(r, a+uint64(x.at), x.t, depth)
		if e != api.OK {
			return api.Value{}, e
		}
		v.List = append(v.List, part)
	}
	return v, api.OK
}

// wordAt returns the word at an address at which a region has it, so that there is no error.
func wordAt(r api.Region, a uint64) uint64 {
	w, _ := region.Load(r, a, wordSize)
	return w
}
