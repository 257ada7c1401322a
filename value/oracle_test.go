package value

import (
	"fmt"
	"math/rand/v2"
	"slices"

	"wreckage/api"
	"wreckage/kinds"
	"wreckage/layout"
)

const (
	firstAddress = 65536
	mostHeap     = 16384
	mostBytes    = 20000
	greatestBase = 1 << 40
	mostRegions  = 17
	mostText     = 64
	mostLen      = 16
	mostSize     = 256
	mostDepth    = 3
)

// Types

var (
	aBool = api.Type{Kind: api.KindBool}
	anInt = api.Type{Kind: api.KindInt}
	aText = api.Type{Kind: api.KindText}
)

func pointerTo(i int) api.Type { return api.Type{Kind: api.KindPointer, Elem: i} }

func sliceOf(i int) api.Type { return api.Type{Kind: api.KindSlice, Elem: i} }

func arrayOf(n, i int) api.Type { return api.Type{Kind: api.KindArray, Elem: i, Len: n} }

// structOf has fields of these types, with the names a, b, c, ..
func structOf(types ...int) api.Type {
	t := api.Type{Kind: api.KindStruct}
	for n, i := range types {
		t.Fields = append(t.Fields, api.Field{Name: string(rune('a' + n)), Type: i})
	}
	return t
}

// Values

func boolOf(b int64) api.Value { return api.Value{Kind: api.KindBool, Int: b} }

func intOf(n int64) api.Value { return api.Value{Kind: api.KindInt, Int: n} }

func textOf(s string) api.Value { return api.Value{Kind: api.KindText, Text: s} }

// toOf is a pointer to a value, or nil without one.
func toOf(l ...api.Value) api.Value { return api.Value{Kind: api.KindPointer, List: l} }

func sliceWith(l ...api.Value) api.Value { return api.Value{Kind: api.KindSlice, List: l} }

func arrayWith(l ...api.Value) api.Value { return api.Value{Kind: api.KindArray, List: l} }

func structWith(l ...api.Value) api.Value { return api.Value{Kind: api.KindStruct, List: l} }

// cutOf is a pointer or a slice that is cut.
func cutOf(kind uint8) api.Value { return api.Value{Kind: kind, Cut: true} }

// equal compares values by going into both.
func equal(a, b api.Value) bool {
	return a.Kind == b.Kind && a.Int == b.Int && a.Text == b.Text && a.Cut == b.Cut && slices.EqualFunc(a.List, b.List, equal)
}

func copied(v api.Value) api.Value {
	v.List = slices.Clone(v.List)
	for i := range v.List {
		v.List[i] = copied(v.List[i])
	}
	return v
}

// cutAt is a value to a lesser depth.
func cutAt(v api.Value, depth int) api.Value {
	if v.Kind == api.KindPointer || v.Kind == api.KindSlice {
		if len(v.List) > 0 && depth == 0 {
			return cutOf(v.Kind)
		}
		depth--
	}
	v.List = slices.Clone(v.List)
	for i := range v.List {
		v.List[i] = cutAt(v.List[i], depth)
	}
	return v
}

func told(x any) string {
	s := fmt.Sprintf("%v", x)
	if len(s) > 400 {
		return s[:300] + " … " + s[len(s)-80:]
	}
	return s
}

// Memory

func over(base uint64, b ...byte) api.Region {
	return api.Region{Base: base, Bytes: b}
}

// wordsAt is a region of words.
func wordsAt(base uint64, l ...uint64) api.Region {
	r := over(base)
	for _, w := range l {
		for range 8 {
			r.Bytes = append(r.Bytes, byte(w%256))
			w /= 256
		}
	}
	return r
}

func equalRegions(a, b api.Region) bool {
	return a.Base == b.Base && slices.Equal(a.Bytes, b.Bytes)
}

// The oracle says what the chapter says, in other ways than the program: it counts the bytes of a type one by one, has regions of any
// length, and goes through a value cell by cell. A value fits a type, for it, if the value is found in memory after it was written there.

type oracle struct {
	types   []api.Type
	regions []api.Region
}

// oracleSize goes on byte by byte.
func oracleSize(l []api.Type, t int) (size, align int) {
	switch x := l[t]; x.Kind {
	case api.KindBool:
		return 1, 1
	case api.KindInt, api.KindPointer:
		return 8, 8
	case api.KindText:
		return 16, 8
	case api.KindSlice:
		return 24, 8
	case api.KindArray:
		for range x.Len {
			n, a := oracleSize(l, x.Elem)
			size, align = size+n, a
		}
		return size, align
	}
	align = 1
	for _, f := range l[t].Fields {
		n, a := oracleSize(l, f.Type)
		for size%a != 0 {
			size++
		}
		size, align = size+n, max(align, a)
	}
	for size%align != 0 {
		size++
	}
	return size, align
}

// oracleReach marks types until there are no more.
func oracleReach(l []api.Type, t int, marks map[int]bool) {
	if marks[t] {
		return
	}
	marks[t] = true
	switch x := l[t]; x.Kind {
	case api.KindPointer, api.KindSlice, api.KindArray:
		oracleReach(l, x.Elem, marks)
	case api.KindStruct:
		for _, f := range x.Fields {
			oracleReach(l, f.Type, marks)
		}
	}
}

func oracleTable(l []api.Type, t int) api.Errno {
	if e := kinds.Check(l); e != api.OK {
		return e
	}
	if t < 0 || t >= len(l) {
		return api.ErrArg
	}
	reached := map[int]bool{}
	oracleReach(l, t, reached)
	for i := range reached {
		if size, _ := oracleSize(l, i); size > mostSize {
			return api.ErrRange
		}
	}
	return api.OK
}

func oracleRegions(l []api.Region) api.Errno {
	if len(l) > mostRegions {
		return api.ErrMany
	}
	for _, r := range l {
		if r.Base%8 != 0 || r.Base < 8 || r.Base > greatestBase || len(r.Bytes) > mostBytes {
			return api.ErrBad
		}
	}
	for i, r := range l {
		for k, other := range l {
			if i != k && len(r.Bytes) > 0 && len(other.Bytes) > 0 && r.Base <= other.Base && other.Base < r.Base+uint64(len(r.Bytes)) {
				return api.ErrTwice
			}
		}
	}
	return api.OK
}

// at returns the bytes at an address, if one region has them all.
func (o oracle) at(a uint64, n int) ([]byte, bool) {
	for _, r := range o.regions {
		var b []byte
		for i := range r.Bytes {
			if address := r.Base + uint64(i); address >= a && address-a < uint64(n) {
				b = append(b, r.Bytes[i])
			}
		}
		if len(b) == n && n > 0 {
			return b, true
		}
	}
	return nil, false
}

func oracleWord(b []byte) uint64 {
	var w uint64
	for i := 7; i >= 0; i-- {
		w = w*256 + uint64(b[i])
	}
	return w
}

func oracleLoad(l []api.Type, r []api.Region, a uint64, t, depth int) (api.Value, api.Errno) {
	if e := oracleTable(l, t); e != api.OK {
		return api.Value{}, e
	}
	if depth != 0 && depth != 1 && depth != 2 && depth != mostDepth {
		return api.Value{}, api.ErrArg
	}
	if e := oracleRegions(r); e != api.OK {
		return api.Value{}, e
	}
	o := oracle{types: l, regions: r}
	size, align := oracleSize(l, t)
	b, has := o.at(a, size)
	if !has || a%uint64(align) != 0 {
		return api.Value{}, api.ErrRange
	}
	return o.read(b, t, depth)
}

// read returns the value of a type with some bytes: its cells are read one after the other, and then put together.
func (o oracle) read(b []byte, t, depth int) (api.Value, api.Errno) {
	cells, e := layout.Cells(o.types, t)
	if e != api.OK {
		return api.Value{}, e
	}
	var leaves []api.Value
	for _, c := range cells {
		leaf, e := o.leaf(b[c.At:], c.Type, depth)
		if e != api.OK {
			return api.Value{}, e
		}
		leaves = append(leaves, leaf)
	}
	v, _ := o.together(t, leaves)
	return v, api.OK
}

// together returns the value of a type whose cells are the first ones, and the others.
func (o oracle) together(t int, leaves []api.Value) (api.Value, []api.Value) {
	x := o.types[t]
	var parts []int
	switch x.Kind {
	case api.KindArray:
		parts = slices.Repeat([]int{x.Elem}, x.Len)
	case api.KindStruct:
		for _, f := range x.Fields {
			parts = append(parts, f.Type)
		}
	default:
		return leaves[0], leaves[1:]
	}
	v := api.Value{Kind: x.Kind}
	for _, i := range parts {
		var part api.Value
		part, leaves = o.together(i, leaves)
		v.List = append(v.List, part)
	}
	return v, leaves
}

func (o oracle) leaf(b []byte, t, depth int) (api.Value, api.Errno) {
	v := api.Value{Kind: o.types[t].Kind}
	switch v.Kind {
	case api.KindBool:
		if b[0] != 0 && b[0] != 1 {
			return api.Value{}, api.ErrForm
		}
		v.Int = int64(b[0])
		return v, api.OK
	case api.KindInt:
		v.Int = int64(oracleWord(b))
		return v, api.OK
	case api.KindPointer:
		return o.lead(v, oracleWord(b), 1, 1, o.types[t].Elem, depth)
	}
	a, n := oracleWord(b), oracleWord(b[8:])
	if v.Kind == api.KindSlice {
		room := oracleWord(b[16:])
		if n > room || room > mostLen {
			return api.Value{}, api.ErrForm
		}
		if a == 0 && (n != 0 || room != 0) {
			return api.Value{}, api.ErrForm
		}
		return o.lead(v, a, int(n), int(room), o.types[t].Elem, depth)
	}
	switch {
	case n == 0:
		return v, api.OK
	case n > mostText, a == 0:
		return api.Value{}, api.ErrForm
	}
	text, has := o.at(a, int(n))
	if !has || a%8 != 0 {
		return api.Value{}, api.ErrRange
	}
	v.Text = string(text)
	return v, api.OK
}

func (o oracle) lead(v api.Value, a uint64, n, room, elem, depth int) (api.Value, api.Errno) {
	if a == 0 {
		return v, api.OK
	}
	size, _ := oracleSize(o.types, elem)
	b, has := o.at(a, max(1, size*room))
	switch {
	case a%8 != 0 || !has:
		return api.Value{}, api.ErrRange
	case n == 0:
		return v, api.OK
	case depth == 0:
		v.Cut = true
		return v, api.OK
	}
	for i := range n {
		part, e := o.read(b[i*size:], elem, depth-1)
		if e != api.OK {
			return api.Value{}, e
		}
		v.List = append(v.List, part)
	}
	return v, api.OK
}

// written returns the bytes of a value of a type that may not fit it, and puts what it leads to behind the bytes of the first region,
// each time as many bytes as 8 divides. What a value does not have is written as zeros, and what there is too much of not at all.
func (o oracle) written(t int, v api.Value) []byte {
	size, _ := oracleSize(o.types, t)
	b := make([]byte, size)
	x := o.types[t]
	switch x.Kind {
	case api.KindBool:
		b[0] = byte(v.Int)
		if v.Int < 0 || v.Int > 1 {
			b[0] = 255
		}
	case api.KindInt:
		copy(b, wordsAt(8, uint64(v.Int)).Bytes)
	case api.KindText:
		copy(b, wordsAt(8, o.behind([]byte(v.Text)), uint64(len(v.Text))).Bytes)
	case api.KindPointer:
		if len(v.List) > 0 {
			copy(b, wordsAt(8, o.behind(o.written(x.Elem, v.List[0]))).Bytes)
		}
	case api.KindSlice:
		var all []byte
		for _, part := range v.List {
			all = append(all, o.written(x.Elem, part)...)
		}
		n := uint64(len(v.List))
		copy(b, wordsAt(8, o.behind(all), n, n).Bytes)
	case api.KindArray:
		elem, _ := oracleSize(o.types, x.Elem)
		for i, part := range v.List[:min(len(v.List), x.Len)] {
			copy(b[i*elem:], o.written(x.Elem, part))
		}
	case api.KindStruct:
		at, _, _, _ := layout.Offsets(o.types, x.Fields)
		for i, part := range v.List[:min(len(v.List), len(x.Fields))] {
			copy(b[at[i]:], o.written(x.Fields[i].Type, part))
		}
	}
	return b
}

// behind puts bytes behind those of the first region, and returns their address. Without bytes there is none.
func (o oracle) behind(b []byte) uint64 {
	if len(b) == 0 {
		return 0
	}
	r := &o.regions[0]
	a := r.Base + uint64(len(r.Bytes))
	r.Bytes = append(r.Bytes, b...)
	for len(r.Bytes)%8 != 0 {
		r.Bytes = append(r.Bytes, 0)
	}
	return a
}

func oracleCheck(l []api.Type, t int, v api.Value) api.Errno {
	if e := oracleTable(l, t); e != api.OK {
		return e
	}
	o := oracle{types: l, regions: []api.Region{over(firstAddress)}}
	found, e := o.read(o.written(t, v), t, mostDepth)
	if e != api.OK || oracleIsCut(found) || !equal(found, v) {
		return api.ErrType
	}
	return api.OK
}

func oracleIsCut(v api.Value) bool {
	return v.Cut || slices.ContainsFunc(v.List, oracleIsCut)
}

func oracleZero(l []api.Type, t int) (api.Value, api.Errno) {
	return oracleLoad(l, []api.Region{over(8, make([]byte, 5000)...)}, 8, t, mostDepth)
}

func oracleHeap(h api.Region) bool {
	return h.Base == firstAddress && len(h.Bytes)%8 == 0 && len(h.Bytes) <= mostHeap
}

// oracleStore stores without any limit, and looks then whether there are too many bytes.
func oracleStore(l []api.Type, heap api.Region, limit, t int, v api.Value) (api.Region, []byte, api.Errno) {
	if e := oracleTable(l, t); e != api.OK {
		return api.Region{}, nil, e
	}
	if !oracleHeap(heap) {
		return api.Region{}, nil, api.ErrBad
	}
	if limit < 0 || limit > mostHeap {
		return api.Region{}, nil, api.ErrArg
	}
	if e := oracleCheck(l, t, v); e != api.OK {
		return api.Region{}, nil, e
	}
	o := oracle{types: l, regions: []api.Region{over(heap.Base, slices.Clone(heap.Bytes)...)}}
	b := o.written(t, v)
	if n := len(o.regions[0].Bytes); n > len(heap.Bytes) && n > limit {
		return api.Region{}, nil, api.ErrFull
	}
	return o.regions[0], b, api.OK
}

// Some of all

// rule gives different numbers, the same ones in each run of the tests.
func rule(seed uint64) *rand.Rand {
	return rand.New(rand.NewPCG(seed, 15))
}

func among[T any](r *rand.Rand, l ...T) T {
	return l[r.IntN(len(l))]
}

// someType is one that may be the type i of n.
func someType(r *rand.Rand, i, n int) api.Type {
	if i > 0 {
		switch r.IntN(5) {
		case 0:
			return arrayOf(among(r, 1, 2, 3, 1+r.IntN(16)), r.IntN(i))
		case 1, 2:
			var fields []int
			for range 1 + r.IntN(among(r, 2, 4, 8)) {
				fields = append(fields, r.IntN(i))
			}
			return structOf(fields...)
		}
	}
	return among(r, aBool, anInt, aText, pointerTo(r.IntN(n)), sliceOf(r.IntN(n)))
}

// someTable is valid. Its types may be too great.
func someTable(r *rand.Rand) []api.Type {
	for {
		l := make([]api.Type, 1+r.IntN(9))
		for i := range l {
			l[i] = someType(r, i, len(l))
		}
		if kinds.Check(l) == api.OK {
			return l
		}
	}
}

// someValue fits a type, if this is not too great. It has fewer values the smaller luck is.
func someValue(r *rand.Rand, l []api.Type, t, depth, luck int) api.Value {
	x := l[t]
	v := api.Value{Kind: x.Kind}
	several := func(n int, of func(i int) int) {
		for i := range n {
			v.List = append(v.List, someValue(r, l, of(i), depth, luck-1))
		}
	}
	elem := func(int) int { return x.Elem }
	switch x.Kind {
	case api.KindBool:
		v.Int = int64(r.IntN(2))
	case api.KindInt:
		v.Int = among[int64](r, 0, 1, -1, int64(r.Uint64()), firstAddress, 255)
	case api.KindText:
		v.Text = string(someBytes(r, among(r, 0, 1, 3, 8, 9, 16, 64, r.IntN(65))))
	case api.KindPointer, api.KindSlice:
		if depth == 0 || luck <= 0 {
			return v
		}
		depth--
		if x.Kind == api.KindPointer {
			several(min(1, r.IntN(4)), elem)
		} else {
			several(among(r, 0, 1, 2, 3, r.IntN(17)), elem)
		}
	case api.KindArray:
		several(x.Len, elem)
	case api.KindStruct:
		several(len(x.Fields), func(i int) int { return x.Fields[i].Type })
	}
	return v
}

func someBytes(r *rand.Rand, n int) []byte {
	b := make([]byte, n)
	for i := range b {
		b[i] = byte(r.Uint32())
	}
	return b
}

// changed is a value in which one thing is another one, or not there.
func changed(r *rand.Rand, v api.Value) api.Value {
	v = copied(v)
	x := &v
	for len(x.List) > 0 && r.IntN(4) != 0 {
		x = &x.List[r.IntN(len(x.List))]
	}
	switch r.IntN(9) {
	case 0:
		x.Kind = among(r, 0, 1, 2, 3, 4, 5, 6, 7, 8, 255, x.Kind+8)
	case 1:
		x.Int = among[int64](r, 0, 1, 2, -1, 256, 257, 1<<32, 1<<32+1, -1<<63)
	case 2:
		x.Text = among(r, "", "a", string(make([]byte, 64)), string(make([]byte, 65)), string(make([]byte, 320)))
	case 3:
		x.Cut = !x.Cut
	case 4:
		x.List = nil
	case 5:
		x.List = append(x.List, among(r, api.Value{}, boolOf(1), intOf(7), textOf("x"), toOf(), sliceWith()))
	case 6:
		if len(x.List) > 0 {
			x.List = x.List[:len(x.List)-1]
		}
	case 7:
		if len(x.List) > 0 {
			x.List = append(x.List, copied(x.List[r.IntN(len(x.List))]))
		}
	case 8:
		*x = among(r, api.Value{}, boolOf(1), intOf(7), textOf("x"), toOf(), sliceWith(), toOf(*x), sliceWith(*x), arrayWith(*x), structWith(*x))
	}
	return v
}
