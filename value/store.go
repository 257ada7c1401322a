package value

import (
	"wreckage/api"
	"wreckage/bump"
)

// writer stores values that fit planned types into a heap with a limit. After an error it puts nothing any more.
type writer struct {
	plan  plan
	heap  api.Region
	limit int
	e     api.Errno
}

// bytes returns the own bytes of a value of a type, after putting what it leads to.
func (w *writer) bytes(t int, v api.Value) []byte {
	x := w.plan[t]
	switch x.Kind {
	case api.KindBool:
		return []byte{byte(v.Int)}
	case api.KindInt:
		return words(uint64(v.Int))
	case api.KindText:
		return words(w.put([]byte(v.Text)), uint64(len(v.Text)))
	case api.KindPointer:
		return words(w.putAll(x.Elem, v.List))
	case api.KindSlice:
		n := uint64(len(v.List))
		return words(w.putAll(x.Elem, v.List), n, n)
	}
	return w.join(x.parts, v.List, x.size)
}

// putAll puts the values to which a pointer or a slice leads, and returns their address.
func (w *writer) putAll(elem int, l []api.Value) uint64 {
	return w.put(w.join(w.plan.row(elem, len(l)), l, len(l)*w.plan[elem].size))
}

// join returns so many bytes, in which values lie as parts. All others are 0.
func (w *writer) join(parts []part, l []api.Value, size int) []byte {
	b := make([]byte, size)
	for i, x := range parts {
		copy(b[x.at:], w.bytes(x.t, l[i]))
	}
	return b
}

// put puts bytes into the heap, and returns their address. No bytes are not put: their address is 0.
func (w *writer) put(b []byte) uint64 {
	if len(b) == 0 || w.e != api.OK {
		return 0
	}
	heap, a, e := bump.Put(w.heap, b, w.limit)
	w.heap, w.e = heap, e
	return a
}

// words returns the bytes of words, the lowest one of each first.
func words(l ...uint64) []byte {
	var b []byte
	for _, w := range l {
		for i := range wordSize {
			b = append(b, byte(w>>(8*i)))
		}
	}
	return b
}
