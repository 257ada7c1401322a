package layout

import (
	"fmt"
	"math"
	"math/rand/v2"
	"slices"
	"strings"
	"testing"

	"wreckage/api"
	"wreckage/kinds"
)

var (
	aBool = api.Type{Kind: api.KindBool}
	anInt = api.Type{Kind: api.KindInt}
	aText = api.Type{Kind: api.KindText}
)

func pointerTo(i int) api.Type { return api.Type{Kind: api.KindPointer, Elem: i} }

func sliceOf(i int) api.Type { return api.Type{Kind: api.KindSlice, Elem: i} }

func arrayOf(n, i int) api.Type { return api.Type{Kind: api.KindArray, Elem: i, Len: n} }

// structOf has fields of these types, with the names a, b, c, ..
func structOf(types ...int) api.Type {
	return api.Type{Kind: api.KindStruct, Fields: fieldsOf(types...)}
}

func fieldsOf(types ...int) []api.Field {
	var fields []api.Field
	for n, i := range types {
		fields = append(fields, api.Field{Name: string(rune('a' + n)), Type: i})
	}
	return fields
}

// rule gives different numbers, the same ones in each run.
func rule(seed uint64) *rand.Rand {
	return rand.New(rand.NewPCG(seed, 5))
}

func copied(l []api.Type) []api.Type {
	c := slices.Clone(l)
	for i := range c {
		c[i].Fields = slices.Clone(c[i].Fields)
	}
	return c
}

func equal(l, m []api.Type) bool {
	return slices.EqualFunc(l, m, func(t, u api.Type) bool {
		return t.Kind == u.Kind && t.Elem == u.Elem && t.Len == u.Len && slices.Equal(t.Fields, u.Fields)
	})
}

// told is what is told of a table that may be long.
func told(l []api.Type) string {
	if len(l) > 40 {
		return fmt.Sprintf("a table of %d types", len(l))
	}
	var s []string
	for i, t := range l {
		s = append(s, fmt.Sprintf("%d: kind %d elem %d len %d fields %v", i, t.Kind, t.Elem, t.Len, t.Fields))
	}
	return strings.Join(s, ", ")
}

// The chapter by its words: the oracle writes each byte of a type down, one behind the other, and has no sizes.

// spot is a byte: the type of the cell that it is in (-1: it is padding), and whether the cell begins there.
type spot struct {
	cell   int
	begins bool
}

var padding = spot{cell: -1}

// oracleAlign is the greatest alignment of all that a type holds: no other type has one of its own.
func oracleAlign(l []api.Type, i int) int {
	switch t := l[i]; t.Kind {
	case api.KindBool:
		return 1
	case api.KindArray:
		return oracleAlign(l, t.Elem)
	case api.KindStruct:
		return oracleAlignOfAll(l, t.Fields)
	}
	return 8
}

func oracleAlignOfAll(l []api.Type, fields []api.Field) int {
	most := 1
	for _, f := range fields {
		most = max(most, oracleAlign(l, f.Type))
	}
	return most
}

// padded has bytes of padding behind it, as few as can be so that there is a multiple of align bytes.
func padded(b []spot, align int) []spot {
	for len(b)%align != 0 {
		b = append(b, padding)
	}
	return b
}

func oracleCell(i, size int) []spot {
	b := slices.Repeat([]spot{{cell: i}}, size)
	b[0].begins = true
	return b
}

func oracleBytes(l []api.Type, i int) []spot {
	switch t := l[i]; t.Kind {
	case api.KindBool:
		return oracleCell(i, 1)
	case api.KindInt, api.KindPointer:
		return oracleCell(i, 8)
	case api.KindText:
		return oracleCell(i, 16)
	case api.KindSlice:
		return oracleCell(i, 24)
	case api.KindArray:
		return slices.Repeat(oracleBytes(l, t.Elem), t.Len)
	case api.KindStruct:
		_, b := oracleFields(l, t.Fields)
		return b
	}
	panic("no such kind")
}

func oracleFields(l []api.Type, fields []api.Field) (at []int, b []spot) {
	for _, f := range fields {
		b = padded(b, oracleAlign(l, f.Type))
		at = append(at, len(b))
		b = append(b, oracleBytes(l, f.Type)...)
	}
	return at, padded(b, oracleAlignOfAll(l, fields))
}

func oracleCells(b []spot) []api.Cell {
	var r []api.Cell
	for at, s := range b {
		if s.begins {
			r = append(r, api.Cell{At: at, Type: s.cell})
		}
	}
	return r
}

func oraclePadding(b []spot) []int {
	var r []int
	for at, s := range b {
		if s == padding {
			r = append(r, at)
		}
	}
	return r
}

// oracleError is the error of all functions with the type i.
func oracleError(l []api.Type, i int) api.Errno {
	switch {
	case kinds.Check(l) != api.OK:
		return api.ErrBad
	case i < 0 || i >= len(l):
		return api.ErrArg
	case len(oracleBytes(l, i)) > 256:
		return api.ErrRange
	}
	return api.OK
}

// oracleErrorOfAll is the error of Offsets.
func oracleErrorOfAll(l []api.Type, fields []api.Field) api.Errno {
	if kinds.Check(l) != api.OK {
		return api.ErrBad
	}
	if len(fields) > 16 {
		return api.ErrMany
	}
	found := map[api.Errno]bool{}
	for _, f := range fields {
		found[oracleError(l, f.Type)] = true
	}
	for _, e := range []api.Errno{api.ErrArg, api.ErrRange} {
		if found[e] {
			return e
		}
	}
	return api.OK
}

// someType is a type whose parts are before i, and which leads to one of n types.
func someType(r *rand.Rand, i, n int) api.Type {
	// Half of them have parts.
	kind := []uint8{1, 2, 3, 4, 7, 5, 5, 5, 6, 6}[r.IntN(10)]
	if i == 0 && (kind == api.KindStruct || kind == api.KindArray) {
		kind = api.KindBool
	}
	switch kind {
	case api.KindPointer:
		return pointerTo(r.IntN(n))
	case api.KindSlice:
		return sliceOf(r.IntN(n))
	case api.KindArray:
		return arrayOf(1+r.IntN(4)*r.IntN(6), somePart(r, i))
	case api.KindStruct:
		types := make([]int, 1+r.IntN(5))
		for f := range types {
			types[f] = somePart(r, i)
		}
		return structOf(types...)
	}
	return api.Type{Kind: kind}
}

// somePart is a type before i: often one of the last ones, which are larger.
func somePart(r *rand.Rand, i int) int {
	return i - 1 - r.IntN(i)*r.IntN(2)
}

// someTable is a table of at most most types, which may be too wide.
func someTable(r *rand.Rand, most int) []api.Type {
	n := 1 + r.IntN(most)
	l := make([]api.Type, n)
	for i := range l {
		l[i] = someType(r, i, n)
	}
	return l
}

// validTables calls f with many different valid tables.
func validTables(seed uint64, count, most int, f func([]api.Type)) {
	r := rule(seed)
	for range count {
		l := slices.Repeat([]api.Type{aBool}, 1+r.IntN(most))
		for i := range l {
			l[i] = someType(r, i, len(l))
			// A type that makes the table too wide gives way to one without parts.
			if kinds.Check(l) != api.OK {
				l[i] = api.Type{Kind: uint8(1 + r.IntN(3))}
			}
		}
		f(l)
	}
}

func checkSize(t *testing.T, l []api.Type, i, size, align int) {
	t.Helper()
	if n, a, e := Size(l, i); n != size || a != align || e != api.OK {
		t.Errorf("Size of %d in %s: %d, %d, error %d, not %d, %d", i, told(l), n, a, e, size, align)
	}
}

func checkOffsets(t *testing.T, l []api.Type, fields []api.Field, at []int, size, align int) {
	t.Helper()
	if r, n, a, e := Offsets(l, fields); !slices.Equal(r, at) || n != size || a != align || e != api.OK {
		t.Errorf("Offsets of %v in %s: %v, %d, %d, error %d, not %v, %d, %d", fields, told(l), r, n, a, e, at, size, align)
	}
}

func checkCells(t *testing.T, l []api.Type, i int, want ...api.Cell) {
	t.Helper()
	if c, e := Cells(l, i); !slices.Equal(c, want) || e != api.OK {
		t.Errorf("Cells of %d in %s: %v, error %d, not %v", i, told(l), c, e, want)
	}
}

func checkPadding(t *testing.T, l []api.Type, i int, want ...int) {
	t.Helper()
	if p, e := Padding(l, i); !slices.Equal(p, want) || e != api.OK {
		t.Errorf("Padding of %d in %s: %v, error %d, not %v", i, told(l), p, e, want)
	}
}

func checkRound(t *testing.T, n, want int, err api.Errno) {
	t.Helper()
	if r, e := Round(n); r != want || e != err {
		t.Errorf("Round of %d: %d, error %d, not %d, error %d", n, r, e, want, err)
	}
}

// checkErrors calls all functions with an index: all results but the error are zero.
func checkErrors(t *testing.T, l []api.Type, i int, want api.Errno) {
	t.Helper()
	if n, a, e := Size(l, i); n != 0 || a != 0 || e != want {
		t.Errorf("Size of %d in %s: %d, %d, error %d, not %d", i, told(l), n, a, e, want)
	}
	if c, e := Cells(l, i); len(c) != 0 || e != want {
		t.Errorf("Cells of %d in %s: %v, error %d, not %d", i, told(l), c, e, want)
	}
	if p, e := Padding(l, i); len(p) != 0 || e != want {
		t.Errorf("Padding of %d in %s: %v, error %d, not %d", i, told(l), p, e, want)
	}
}

func checkOffsetsError(t *testing.T, l []api.Type, fields []api.Field, want api.Errno) {
	t.Helper()
	if at, n, a, e := Offsets(l, fields); len(at) != 0 || n != 0 || a != 0 || e != want {
		t.Errorf("Offsets of %v in %s: %v, %d, %d, error %d, not %d", fields, told(l), at, n, a, e, want)
	}
}

// checkType compares all that is to be known of a type with what the oracle says.
func checkType(t *testing.T, l []api.Type, i int) {
	t.Helper()
	if want := oracleError(l, i); want != api.OK {
		checkErrors(t, l, i, want)
		return
	}
	b := oracleBytes(l, i)
	checkSize(t, l, i, len(b), oracleAlign(l, i))
	checkCells(t, l, i, oracleCells(b)...)
	checkPadding(t, l, i, oraclePadding(b)...)
}

func checkFields(t *testing.T, l []api.Type, fields []api.Field) {
	t.Helper()
	if want := oracleErrorOfAll(l, fields); want != api.OK {
		checkOffsetsError(t, l, fields, want)
		return
	}
	at, b := oracleFields(l, fields)
	checkOffsets(t, l, fields, at, len(b), oracleAlignOfAll(l, fields))
}

// P5.1

func TestSizesOfKinds(t *testing.T) {
	l := []api.Type{aBool, anInt, aText, pointerTo(0), sliceOf(0), arrayOf(3, 0), arrayOf(3, 2), structOf(0, 0), structOf(0, 4)}
	for i, want := range [][2]int{{1, 1}, {8, 8}, {16, 8}, {8, 8}, {24, 8}, {3, 1}, {48, 8}, {2, 1}, {32, 8}} {
		checkSize(t, l, i, want[0], want[1])
	}
	// What a pointer or a slice leads to does not matter.
	for i := range l {
		more := append(slices.Clone(l), pointerTo(i), sliceOf(i))
		checkSize(t, more, len(l), 8, 8)
		checkSize(t, more, len(l)+1, 24, 8)
	}
	checkSize(t, []api.Type{pointerTo(0)}, 0, 8, 8)
	checkSize(t, []api.Type{sliceOf(0)}, 0, 24, 8)
}

func TestSizesOfStructs(t *testing.T) {
	l := []api.Type{aBool, anInt, aText, sliceOf(0), structOf(0, 1)}
	for _, c := range []struct {
		types       []int
		size, align int
	}{
		{[]int{0}, 1, 1}, {[]int{0, 0}, 2, 1}, {[]int{0, 0, 0, 0, 0, 0, 0, 0}, 8, 1},
		{[]int{1}, 8, 8}, {[]int{1, 0}, 16, 8}, {[]int{0, 1}, 16, 8}, {[]int{0, 0, 1}, 16, 8}, {[]int{0, 1, 0}, 24, 8}, {[]int{1, 0, 0}, 16, 8},
		{[]int{0, 2}, 24, 8}, {[]int{2, 0}, 24, 8}, {[]int{0, 3}, 32, 8}, {[]int{3, 0, 0}, 32, 8}, {[]int{3, 2, 1}, 48, 8},
		{[]int{4}, 16, 8}, {[]int{0, 4}, 24, 8}, {[]int{4, 0}, 24, 8}, {[]int{4, 4}, 32, 8}, {[]int{0, 4, 0}, 32, 8},
		{[]int{1, 0, 0, 0, 0, 0, 0, 0}, 16, 8},
	} {
		checkSize(t, append(slices.Clone(l), structOf(c.types...)), len(l), c.size, c.align)
	}
}

func TestSizesOfArrays(t *testing.T) {
	l := []api.Type{aBool, anInt, structOf(1, 0), structOf(0, 0, 0), sliceOf(0)}
	for i, size := range []int{1, 8, 16, 3, 24} {
		_, align, _ := Size(l, i)
		for n := 1; n <= api.MaxLen; n++ {
			more := append(slices.Clone(l), arrayOf(n, i))
			if n*size > 256 {
				checkErrors(t, more, len(l), api.ErrRange)
				continue
			}
			checkSize(t, more, len(l), n*size, align)
		}
	}
}

// sized is a table at whose end there is a type of so many bytes, from 1 to 512: an array of as many bools, or two of them.
func sized(n int) []api.Type {
	l := []api.Type{aBool, arrayOf(16, 0)}
	var types []int
	add := func(u api.Type) {
		types = append(types, len(l))
		l = append(l, u)
	}
	for left := n / 16; left > 0; left -= 16 {
		add(arrayOf(min(left, 16), 1))
	}
	if n%16 > 0 {
		add(arrayOf(n%16, 0))
	}
	return append(l, structOf(types...))
}

func TestTypesAsLargeAsIsAllowed(t *testing.T) {
	for n := 1; n <= 512; n++ {
		l := sized(n)
		i := len(l) - 1
		if n > api.MaxSize {
			checkErrors(t, l, i, api.ErrRange)
			checkOffsetsError(t, l, fieldsOf(i), api.ErrRange)
			continue
		}
		checkSize(t, l, i, n, 1)
		checkPadding(t, l, i)
		checkOffsets(t, l, fieldsOf(i), []int{0}, n, 1)
		if c, e := Cells(l, i); len(c) != n || e != api.OK {
			t.Errorf("%d bools have %d cells, error %d", n, len(c), e)
		}
	}
	l := []api.Type{aBool, anInt, aText, sliceOf(0), arrayOf(16, 2), arrayOf(10, 3), structOf(5, 2), structOf(5, 1, 0), structOf(4, 0), structOf(5, 2, 1), arrayOf(11, 3), pointerTo(9), structOf(11, 3), arrayOf(2, 9), structOf(9)}
	for i, want := range []int{1, 8, 16, 24, 256, 240, 256, 256, 264, 264, 264, 8, 32, 528, 264} {
		if want > api.MaxSize {
			checkErrors(t, l, i, api.ErrRange)
		} else {
			checkSize(t, l, i, want, oracleAlign(l, i))
		}
	}
}

func TestTypesThatAreFarTooLarge(t *testing.T) {
	// As many slices as the width of a type allows, with padding in between.
	l := []api.Type{aBool, sliceOf(0), structOf(0, 1), arrayOf(16, 2), arrayOf(5, 3)}
	if e := kinds.Check(l); e != api.OK {
		t.Fatalf("error %d", e)
	}
	checkSize(t, l, 2, 32, 8)
	checkErrors(t, l, 3, api.ErrRange)
	checkErrors(t, l, 4, api.ErrRange)
	l = []api.Type{anInt, arrayOf(16, 0), arrayOf(16, 1), arrayOf(16, 2)}
	checkSize(t, l, 1, 128, 8)
	checkErrors(t, l, 2, api.ErrRange)
	checkErrors(t, l, 3, api.ErrRange)
}

func TestRound(t *testing.T) {
	for n, want := range map[int]int{0: 0, 1: 8, 2: 8, 7: 8, 8: 8, 9: 16, 15: 16, 16: 16, 17: 24, 4095: 4096, 4096: 4096, 4097: 4104} {
		checkRound(t, n, want, api.OK)
	}
	for n := range 100000 {
		r, e := Round(n)
		if e != api.OK || r%8 != 0 || r < n || r-8 >= n {
			t.Fatalf("Round of %d: %d, error %d", n, r, e)
		}
	}
	most := 1 << 30
	checkRound(t, most, most, api.OK)
	checkRound(t, most-1, most, api.OK)
	checkRound(t, most-7, most, api.OK)
	checkRound(t, most-8, most-8, api.OK)
	for _, n := range []int{-1, -2, -7, -8, -9, -most, math.MinInt, math.MinInt + 1, most + 1, most + 7, most + 8, 2 * most, math.MaxInt - 7, math.MaxInt - 1, math.MaxInt} {
		checkRound(t, n, 0, api.ErrArg)
	}
}

// P5.2

func TestOffsets(t *testing.T) {
	l := []api.Type{aBool, anInt, aText, sliceOf(0), arrayOf(3, 0), structOf(0, 1), structOf(0, 0)}
	for _, c := range []struct {
		types       []int
		at          []int
		size, align int
	}{
		{nil, nil, 0, 1},
		{[]int{0}, []int{0}, 1, 1},
		{[]int{1}, []int{0}, 8, 8},
		{[]int{0, 0}, []int{0, 1}, 2, 1},
		{[]int{0, 1}, []int{0, 8}, 16, 8},
		{[]int{1, 0}, []int{0, 8}, 16, 8},
		{[]int{0, 0, 1, 0}, []int{0, 1, 8, 16}, 24, 8},
		{[]int{4, 0, 6}, []int{0, 3, 4}, 6, 1},
		{[]int{4, 2, 4, 4, 1}, []int{0, 8, 24, 27, 32}, 40, 8},
		{[]int{0, 5, 0}, []int{0, 8, 24}, 32, 8},
		{[]int{5, 5}, []int{0, 16}, 32, 8},
		{[]int{3, 6, 3}, []int{0, 24, 32}, 56, 8},
		{[]int{0, 0, 0, 0, 0, 0, 0, 0, 1}, []int{0, 1, 2, 3, 4, 5, 6, 7, 8}, 16, 8},
		{[]int{0, 0, 0, 0, 0, 0, 0, 0, 0, 1}, []int{0, 1, 2, 3, 4, 5, 6, 7, 8, 16}, 24, 8},
	} {
		checkOffsets(t, l, fieldsOf(c.types...), c.at, c.size, c.align)
	}
	checkOffsets(t, l, []api.Field{}, nil, 0, 1)
	checkOffsets(t, nil, nil, nil, 0, 1)
	checkOffsets(t, []api.Type{}, []api.Field{}, nil, 0, 1)
}

func TestOffsetsOfAnyNames(t *testing.T) {
	l := []api.Type{aBool, anInt}
	for _, s := range []string{"", "a", "0", "not a name", "\x00\xff", strings.Repeat("n", api.MaxName+1), strings.Repeat("n", 100000)} {
		checkOffsets(t, l, []api.Field{{Name: s, Type: 0}, {Name: s, Type: 1}, {Name: s, Type: 0}}, []int{0, 8, 16}, 24, 8)
	}
}

func TestOffsetsOfAsManyFieldsAsAreAllowed(t *testing.T) {
	l := sized(api.MaxSize)
	i := len(l) - 1
	for n := range 40 {
		for _, c := range [][2]int{{0, 1}, {i, api.MaxSize}} {
			fields := slices.Repeat([]api.Field{{Type: c[0]}}, n)
			if n > api.MaxSlots {
				checkOffsetsError(t, l, fields, api.ErrMany)
				continue
			}
			var at []int
			for k := range n {
				at = append(at, k*c[1])
			}
			// All fields together may have more bytes than a type.
			checkOffsets(t, l, fields, at, n*c[1], 1)
		}
	}
	checkOffsetsError(t, l, make([]api.Field, 100000), api.ErrMany)
}

func TestOffsetsOfFieldsThatAreNotAllowed(t *testing.T) {
	// The type 5 has 264 bytes, and each other one at most as many as are allowed.
	l := []api.Type{aBool, sliceOf(0), arrayOf(11, 1), pointerTo(2), arrayOf(10, 1)}
	l = append(l, structOf(4, 1))
	checkOffsets(t, l, fieldsOf(0, 1, 3, 4), []int{0, 8, 32, 40}, 280, 8)
	for _, large := range []int{2, 5} {
		checkOffsetsError(t, l, fieldsOf(large), api.ErrRange)
		for at := range api.MaxSlots {
			fields := make([]api.Field, api.MaxSlots)
			fields[at].Type = large
			checkOffsetsError(t, l, fields, api.ErrRange)
		}
	}
	for _, none := range []int{math.MinInt, -1 << 32, -2, -1, 6, 7, 32, 1 << 32, math.MaxInt} {
		checkOffsetsError(t, l, fieldsOf(none), api.ErrArg)
		for at := range api.MaxSlots {
			fields := make([]api.Field, api.MaxSlots)
			fields[at].Type = none
			checkOffsetsError(t, l, fields, api.ErrArg)
			// That a type is none is named before that one is too large, wherever they are.
			fields[(at+1)%api.MaxSlots].Type = 2
			checkOffsetsError(t, l, fields, api.ErrArg)
		}
		// That there are too many fields is named before.
		checkOffsetsError(t, l, slices.Repeat(fieldsOf(none), api.MaxSlots+1), api.ErrMany)
		checkOffsetsError(t, l, append(make([]api.Field, api.MaxSlots), fieldsOf(none)...), api.ErrMany)
		checkOffsetsError(t, nil, fieldsOf(none), api.ErrArg)
	}
	checkOffsetsError(t, l, slices.Repeat(fieldsOf(2), api.MaxSlots+1), api.ErrMany)
	checkOffsetsError(t, nil, fieldsOf(0), api.ErrArg)
	checkOffsetsError(t, nil, make([]api.Field, api.MaxSlots+1), api.ErrMany)
	// A type is of the table only if it is within its length.
	checkOffsetsError(t, []api.Type{aBool, anInt, aText}[:2], fieldsOf(2), api.ErrArg)
}

// badTables are not valid, each for another reason.
func badTables() [][]api.Type {
	return [][]api.Type{
		{{}}, {{Kind: 8}}, {anInt, {}}, {{}, anInt}, {pointerTo(1)}, {pointerTo(-1)}, {arrayOf(2, 0)}, {anInt, arrayOf(0, 0)}, {anInt, arrayOf(17, 0)}, {anInt, arrayOf(-1, 0)}, {anInt, arrayOf(2, -1)},
		{anInt, structOf()}, {anInt, structOf(1)}, {anInt, structOf(-1)}, {anInt, structOf(0, 0, 0, 0, 0, 0, 0, 0, 0)}, {anInt, {Kind: api.KindStruct, Fields: []api.Field{{Name: "a b"}}}},
		{anInt, {Kind: api.KindStruct, Fields: []api.Field{{Name: "a"}, {Name: "a"}}}}, {{Kind: api.KindInt, Len: 1}}, {{Kind: api.KindBool, Elem: 1}}, {arrayOf(2, 1), arrayOf(2, 0)},
		{anInt, arrayOf(16, 0), arrayOf(16, 1), arrayOf(16, 2), arrayOf(2, 3)}, {aBool, arrayOf(math.MaxInt, 0)},
		slices.Repeat([]api.Type{aBool}, api.MaxTypes+1),
	}
}

func TestTablesThatAreNotValid(t *testing.T) {
	for _, l := range badTables() {
		for _, i := range []int{math.MinInt, -1, 0, 1, len(l) - 1, len(l), math.MaxInt} {
			checkErrors(t, l, i, api.ErrBad)
			checkOffsetsError(t, l, fieldsOf(i), api.ErrBad)
			checkOffsetsError(t, l, slices.Repeat(fieldsOf(i), api.MaxSlots+1), api.ErrBad)
		}
		checkOffsetsError(t, l, nil, api.ErrBad)
	}
	// A table is not valid, even if its large types and what is asked of are fine.
	l := append(sized(300), api.Type{})
	checkErrors(t, l, len(l)-2, api.ErrBad)
	checkOffsetsError(t, l, fieldsOf(len(l)-2), api.ErrBad)
}

func TestIndicesThatATableDoesNotHave(t *testing.T) {
	l := append(sized(300), anInt)
	for _, i := range []int{math.MinInt, -1 << 32, -2, -1, len(l), len(l) + 1, api.MaxTypes, 1 << 32, math.MaxInt} {
		checkErrors(t, l, i, api.ErrArg)
		checkErrors(t, nil, i, api.ErrArg)
	}
	checkErrors(t, nil, 0, api.ErrArg)
	checkErrors(t, []api.Type{}, 0, api.ErrArg)
	checkErrors(t, []api.Type{aBool, anInt, aText}[:2], 2, api.ErrArg)
}

// P5.3

func cell(at, i int) api.Cell { return api.Cell{At: at, Type: i} }

func TestCellsAndPadding(t *testing.T) {
	l := []api.Type{aBool, anInt, aText, pointerTo(8), sliceOf(7)}
	for i := range l {
		checkCells(t, l[:3], min(i, 2), cell(0, min(i, 2)))
	}
	l = append(l, arrayOf(3, 0), structOf(0, 1), arrayOf(2, 6), structOf(5, 4, 0, 3), structOf(7, 5))
	for i := range 5 {
		checkCells(t, l, i, cell(0, i))
		checkPadding(t, l, i)
	}
	checkCells(t, l, 5, cell(0, 0), cell(1, 0), cell(2, 0))
	checkPadding(t, l, 5)
	checkCells(t, l, 6, cell(0, 0), cell(8, 1))
	checkPadding(t, l, 6, 1, 2, 3, 4, 5, 6, 7)
	checkCells(t, l, 7, cell(0, 0), cell(8, 1), cell(16, 0), cell(24, 1))
	checkPadding(t, l, 7, 1, 2, 3, 4, 5, 6, 7, 17, 18, 19, 20, 21, 22, 23)
	checkCells(t, l, 8, cell(0, 0), cell(1, 0), cell(2, 0), cell(8, 4), cell(32, 0), cell(40, 3))
	checkPadding(t, l, 8, 3, 4, 5, 6, 7, 33, 34, 35, 36, 37, 38, 39)
	checkCells(t, l, 9, cell(0, 0), cell(8, 1), cell(16, 0), cell(24, 1), cell(32, 0), cell(33, 0), cell(34, 0))
	checkPadding(t, l, 9, 1, 2, 3, 4, 5, 6, 7, 17, 18, 19, 20, 21, 22, 23, 35, 36, 37, 38, 39)
}

func TestCellsHaveTheTypesOfTheirTable(t *testing.T) {
	// Alike types are not the same: a cell has the index of its own one.
	l := []api.Type{anInt, anInt, aBool, aBool, structOf(1, 3, 0, 2), arrayOf(2, 1)}
	checkCells(t, l, 4, cell(0, 1), cell(8, 3), cell(16, 0), cell(24, 2))
	checkCells(t, l, 5, cell(0, 1), cell(8, 1))
}

func TestTypesWithinTypes(t *testing.T) {
	l := []api.Type{aBool}
	for len(l) < api.MaxTypes {
		l = append(l, arrayOf(1, len(l)-1))
	}
	checkCells(t, l, api.MaxTypes-1, cell(0, 0))
	checkSize(t, l, api.MaxTypes-1, 1, 1)
	checkPadding(t, l, api.MaxTypes-1)
	l = []api.Type{sliceOf(0)}
	for len(l) < api.MaxTypes {
		l = append(l, structOf(len(l)-1))
	}
	checkCells(t, l, api.MaxTypes-1, cell(0, 0))
	checkSize(t, l, api.MaxTypes-1, 24, 8)
	checkPadding(t, l, api.MaxTypes-1)
	// A bool behind each struct takes one more word each time.
	l = []api.Type{aBool, anInt}
	for len(l) < api.MaxTypes {
		l = append(l, structOf(len(l)-1, 0))
	}
	for i := 1; i < api.MaxTypes; i++ {
		checkSize(t, l, i, 8*i, 8)
		if p, e := Padding(l, i); len(p) != 7*(i-1) || e != api.OK {
			t.Errorf("Padding of %d: %v, error %d", i, p, e)
		}
	}
}

func TestExamples(t *testing.T) {
	l := []api.Type{aBool, anInt, structOf(0, 1, 0), arrayOf(3, 0), aText, structOf(4, 3)}
	checkOffsets(t, l, l[2].Fields, []int{0, 8, 16}, 24, 8)
	checkSize(t, l, 2, 24, 8)
	checkPadding(t, l, 2, 1, 2, 3, 4, 5, 6, 7, 17, 18, 19, 20, 21, 22, 23)
	checkSize(t, l, 3, 3, 1)
	checkSize(t, l, 5, 24, 8)
	checkCells(t, l, 5, cell(0, 4), cell(16, 0), cell(17, 0), cell(18, 0))
}

func TestTypesAreThoseOfTheChapter(t *testing.T) {
	found := map[api.Errno]int{}
	validTables(1, 3000, 20, func(l []api.Type) {
		for i := range l {
			checkType(t, l, i)
			found[oracleError(l, i)]++
		}
	})
	if found[api.OK] < 10000 || found[api.ErrRange] < 1000 {
		t.Errorf("the types are too much alike: %v", found)
	}
}

func TestFieldsAreThoseOfTheChapter(t *testing.T) {
	found := map[api.Errno]int{}
	r := rule(2)
	validTables(3, 3000, 12, func(l []api.Type) {
		for range 4 {
			fields := make([]api.Field, r.IntN(19))
			for n := range fields {
				fields[n].Type = r.IntN(len(l))
			}
			if len(fields) > 0 && r.IntN(6) == 0 {
				fields[r.IntN(len(fields))].Type = []int{-1, len(l)}[r.IntN(2)]
			}
			checkFields(t, l, fields)
			found[oracleErrorOfAll(l, fields)]++
		}
	})
	for _, e := range []api.Errno{api.OK, api.ErrArg, api.ErrMany, api.ErrRange} {
		if found[e] < 500 {
			t.Errorf("the fields are too much alike: %v", found)
		}
	}
}

// P5.4

// plan is all that there is to be known of a type.
type plan struct {
	size, align int
	cells       []api.Cell
	padding     []int
}

// planned returns nothing if the type is too large.
func planned(t *testing.T, l []api.Type, i int) (plan, bool) {
	t.Helper()
	size, align, e1 := Size(l, i)
	c, e2 := Cells(l, i)
	p, e3 := Padding(l, i)
	if e1 != e2 || e1 != e3 || e1 != api.OK && e1 != api.ErrRange {
		t.Fatalf("%d of %s: errors %d, %d and %d", i, told(l), e1, e2, e3)
	}
	return plan{size, align, c, p}, e1 == api.OK
}

// plans calls f with the types of many tables.
func plans(t *testing.T, seed uint64, f func(l []api.Type, i int, p plan)) {
	validTables(seed, 600, 20, func(l []api.Type) {
		for i := range l {
			if p, ok := planned(t, l, i); ok {
				f(l, i, p)
			}
		}
	})
}

func TestPaddingAndCellsAreAllOfAType(t *testing.T) {
	plans(t, 4, func(l []api.Type, i int, p plan) {
		times := make([]int, p.size)
		for _, c := range p.cells {
			size, align, e := Size(l, c.Type)
			if e != api.OK || c.At%align != 0 || c.At+size > p.size || p.align%align != 0 {
				t.Fatalf("%d of %s has the size %d and the alignment %d, and the cell %v", i, told(l), p.size, p.align, c)
			}
			for k := range size {
				times[c.At+k]++
			}
		}
		for _, k := range p.padding {
			times[k]++
		}
		for k, n := range times {
			if n != 1 {
				t.Fatalf("%d of %s has the byte %d in %d cells or paddings: %v, %v", i, told(l), k, n, p.cells, p.padding)
			}
		}
		if p.size%p.align != 0 || !slices.IsSorted(p.padding) || !slices.IsSortedFunc(p.cells, func(c, d api.Cell) int { return c.At - d.At }) {
			t.Errorf("%d of %s: %v", i, told(l), p)
		}
	})
}

// moved are cells that begin further on.
func moved(cells []api.Cell, by int) []api.Cell {
	r := slices.Clone(cells)
	for n := range r {
		r[n].At += by
	}
	return r
}

func TestCellsOfPartsAreThoseOfTheWhole(t *testing.T) {
	plans(t, 5, func(l []api.Type, i int, p plan) {
		u := l[i]
		var want []api.Cell
		switch u.Kind {
		case api.KindArray:
			element, _ := planned(t, l, u.Elem)
			for n := range u.Len {
				want = append(want, moved(element.cells, n*element.size)...)
			}
			if p.align != element.align || p.size != u.Len*element.size {
				t.Errorf("%d of %s: %v, and its element: %v", i, told(l), p, element)
			}
		case api.KindStruct:
			at, size, align, e := Offsets(l, u.Fields)
			if size != p.size || align != p.align || e != api.OK {
				t.Errorf("%d of %s: %v, and its fields have the size %d and the alignment %d, error %d", i, told(l), p, size, align, e)
			}
			for n, f := range u.Fields {
				field, _ := planned(t, l, f.Type)
				want = append(want, moved(field.cells, at[n])...)
			}
		default:
			want = []api.Cell{cell(0, i)}
		}
		checkCells(t, l, i, want...)
	})
}

func TestFieldsDoNotOverlap(t *testing.T) {
	r := rule(6)
	validTables(7, 600, 12, func(l []api.Type) {
		fields := make([]api.Field, r.IntN(api.MaxSlots+1))
		for n := range fields {
			fields[n].Type = r.IntN(len(l))
		}
		at, size, align, e := Offsets(l, fields)
		if e == api.ErrRange {
			return
		}
		if e != api.OK || size%align != 0 || len(at) != len(fields) {
			t.Fatalf("Offsets of %v in %s: %v, %d, %d, error %d", fields, told(l), at, size, align, e)
		}
		end, most := 0, 1
		for n, f := range fields {
			bytes, multiple, _ := Size(l, f.Type)
			if at[n] < end || at[n]-end >= multiple || at[n]%multiple != 0 {
				t.Errorf("Offsets of %v in %s: %v, but the one before %d ends at %d", fields, told(l), at, n, end)
			}
			end, most = at[n]+bytes, max(most, multiple)
		}
		if size < end || size-end >= align || align != most {
			t.Errorf("Offsets of %v in %s: %v, %d, %d, but the last one ends at %d", fields, told(l), at, size, align, end)
		}
	})
}

// offsets are where cells begin, and their kinds.
func offsets(l []api.Type, cells []api.Cell) [][2]int {
	var r [][2]int
	for _, c := range cells {
		r = append(r, [2]int{c.At, int(l[c.Type].Kind)})
	}
	return r
}

func TestAlikeTypesHaveOneLayout(t *testing.T) {
	count := 0
	validTables(8, 400, 10, func(l []api.Type) {
		l = twice(l)
		for i := range l {
			for k := range l {
				if same, _ := kinds.Same(l, i, k); !same || i == k {
					continue
				}
				p, ok := planned(t, l, i)
				q, other := planned(t, l, k)
				if ok != other || p.size != q.size || p.align != q.align || !slices.Equal(p.padding, q.padding) || !slices.Equal(offsets(l, p.cells), offsets(l, q.cells)) {
					t.Errorf("%d and %d of %s are alike: %v and %v", i, k, told(l), p, q)
				}
				count++
			}
		}
	})
	if count < 4000 {
		t.Errorf("%d pairs of types are alike", count)
	}
}

// twice has the table two times, and each type of the second one leads to the second one, but for pointers and slices with an even index.
func twice(l []api.Type) []api.Type {
	both := append(copied(l), copied(l)...)
	for i := len(l); i < len(both); i++ {
		u := &both[i]
		if u.Kind == api.KindArray || (u.Kind == api.KindPointer || u.Kind == api.KindSlice) && i%2 == 1 {
			u.Elem += len(l)
		}
		for f := range u.Fields {
			u.Fields[f].Type += len(l)
		}
	}
	return both
}

// R2: arguments are only read, and results share no memory.

func TestArgumentsAreOnlyRead(t *testing.T) {
	mine := api.Field{Name: "mine", Type: 9}
	validTables(9, 200, 10, func(l []api.Type) {
		// There is room behind the table, and behind the fields, that belongs to somebody else.
		room := append(copied(l), aText, structOf(1, 2))
		for i := range room {
			room[i].Fields = append(slices.Clone(room[i].Fields), mine)[:len(room[i].Fields)]
		}
		kept := copied(room)
		table := room[:len(l)]
		fields := append(fieldsOf(0, len(l)-1, 0), mine)
		for i := -1; i <= len(l); i++ {
			Size(table, i)
			Cells(table, i)
			Padding(table, i)
			Offsets(table, fields[:3])
		}
		for i := range room {
			Offsets(table, room[i].Fields)
			if f := room[i].Fields; f[:len(f)+1][len(f)] != mine {
				t.Errorf("what is behind the fields of %d has become %v", i, f[:len(f)+1])
			}
		}
		if !equal(room, kept) || !slices.Equal(fields, append(fieldsOf(0, len(l)-1, 0), mine)) {
			t.Errorf("%s has become %s, or the fields %v", told(kept), told(room), fields)
		}
	})
}

func TestResultsShareNoMemory(t *testing.T) {
	l := []api.Type{aBool, anInt, structOf(0, 1, 0)}
	kept := copied(l)
	cells, padding, at := []api.Cell{{Type: 0}, {At: 8, Type: 1}, {At: 16}}, []int{1, 2, 3, 4, 5, 6, 7, 17, 18, 19, 20, 21, 22, 23}, []int{0, 8, 16}
	for range 3 {
		c, _ := Cells(l, 2)
		p, _ := Padding(l, 2)
		a, _, _, _ := Offsets(l, l[2].Fields)
		if !slices.Equal(c, cells) || !slices.Equal(p, padding) || !slices.Equal(a, at) {
			t.Fatalf("%v, %v, %v", c, p, a)
		}
		otherCells, _ := Cells(l, 2)
		otherPadding, _ := Padding(l, 2)
		otherAt, _, _, _ := Offsets(l, l[2].Fields)
		for i := range c[:cap(c)] {
			c[:cap(c)][i] = cell(99, 99)
		}
		for i := range p[:cap(p)] {
			p[:cap(p)][i] = 99
		}
		for i := range a[:cap(a)] {
			a[:cap(a)][i] = 99
		}
		if !slices.Equal(otherCells, cells) || !slices.Equal(otherPadding, padding) || !slices.Equal(otherAt, at) || !equal(l, kept) {
			t.Errorf("a change of one result is seen in %v, %v, %v, or %s", otherCells, otherPadding, otherAt, told(l))
		}
	}
}

func FuzzLayout(f *testing.F) {
	f.Add(uint64(1), uint8(3), 0, 5)
	f.Add(uint64(2), uint8(30), -1, 1<<30)
	f.Fuzz(func(t *testing.T, seed uint64, most uint8, i, n int) {
		r := rule(seed)
		l := someTable(r, int(most)%40+1)
		checkType(t, l, i)
		fields := make([]api.Field, r.IntN(20))
		for n := range fields {
			fields[n].Type = r.IntN(len(l)+1) - r.IntN(20)/19
		}
		checkFields(t, l, fields)
		if n >= 0 && n <= 1<<30 {
			checkRound(t, n, n+(8-n%8)%8, api.OK)
		} else {
			checkRound(t, n, 0, api.ErrArg)
		}
	})
}
