package value

import (
	"math"
	"reflect"
	"slices"
	"strings"
	"testing"

	"wreckage/api"
)

func checkStore(t *testing.T, l []api.Type, heap api.Region, limit, of int, v api.Value, want api.Region, wantBytes []byte, wantError api.Errno) {
	t.Helper()
	if h, b, e := Store(l, heap, limit, of, v); e != wantError || !slices.Equal(b, wantBytes) || !equalRegions(h, want) {
		t.Errorf("Store in %s of %d, %s, into %s with the limit %d: %s, %s, error %d, not %s, %s, error %d",
			told(l), of, told(v), told(heap), limit, told(h), told(b), e, told(want), told(wantBytes), wantError)
	}
}

func storeByOracle(t *testing.T, l []api.Type, heap api.Region, limit, of int, v api.Value) api.Errno {
	t.Helper()
	want, b, e := oracleStore(l, heap, limit, of, v)
	checkStore(t, l, heap, limit, of, v, want, b, e)
	return e
}

// concat is the heap with all of these bytes.
func concat(l ...[]byte) api.Region {
	return over(firstAddress, slices.Concat(l...)...)
}

func wordBytes(l ...uint64) []byte {
	return wordsAt(8, l...).Bytes
}

// P15.3

func TestStoreOfEachKind(t *testing.T) {
	l := kindsOfTypes()
	none := over(firstAddress)
	for of, c := range map[int]struct {
		v    api.Value
		heap api.Region
		b    []byte
	}{
		0: {boolOf(1), none, []byte{1}},
		1: {intOf(-2), none, wordBytes(math.MaxUint64 - 1)},
		2: {textOf("nine byte"), concat([]byte("nine byte\x00\x00\x00\x00\x00\x00\x00")), wordBytes(65536, 9)},
		3: {toOf(intOf(258)), concat(wordBytes(258)), wordBytes(65536)},
		4: {sliceWith(boolOf(1), boolOf(0), boolOf(1)), concat([]byte{1, 0, 1, 0, 0, 0, 0, 0}), wordBytes(65536, 3, 3)},
		5: {structWith(boolOf(1), intOf(9), boolOf(1)), none, wordBytes(1, 9, 1)},
		6: {arrayWith(boolOf(1), boolOf(0), boolOf(1)), none, []byte{1, 0, 1}},
		// What a pointer leads to is stored first: the innermost one is nil.
		7: {chained(3, toOf()), concat(wordBytes(0, 65536, 65544)), wordBytes(65552)},
		// Both inner slices are stored first, and then their bytes, together.
		8: {sliceWith(sliceWith(sliceWith()), sliceWith(), sliceWith(sliceWith(), sliceWith())),
			concat(wordBytes(0, 0, 0), wordBytes(0, 0, 0, 0, 0, 0), wordBytes(65536, 1, 1, 0, 0, 0, 65560, 2, 2)), wordBytes(65608, 3, 3)},
		9: {structWith(textOf("ab"), toOf(toOf()), sliceWith(boolOf(1))),
			concat([]byte("ab\x00\x00\x00\x00\x00\x00"), wordBytes(0), wordBytes(1)), wordBytes(65536, 2, 65544, 65552, 1, 1)},
		10: {arrayWith(structWith(textOf(""), toOf(toOf()), sliceWith()), structWith(textOf("c"), toOf(), sliceWith())),
			concat(wordBytes(0), wordBytes('c')), wordBytes(0, 0, 65536, 0, 0, 0, 65544, 1, 0, 0, 0, 0)},
		11: {toOf(arrayWith(structWith(textOf("c"), toOf(), sliceWith()), structWith(textOf("d"), toOf(), sliceWith()))),
			concat(wordBytes('c'), wordBytes('d'), wordBytes(65536, 1, 0, 0, 0, 0), wordBytes(65544, 1, 0, 0, 0, 0)), wordBytes(65552)},
		12: {sliceWith(arrayWith(structWith(textOf(""), toOf(), sliceWith()), structWith(textOf(""), toOf(toOf()), sliceWith()))),
			concat(wordBytes(0), wordBytes(0, 0, 0, 0, 0, 0), wordBytes(0, 0, 65536, 0, 0, 0)), wordBytes(65544, 1, 1)},
	} {
		checkStore(t, l, none, mostHeap, of, c.v, c.heap, c.b, api.OK)
		checkStore(t, l, none, len(c.heap.Bytes), of, c.v, c.heap, c.b, api.OK)
		if n := len(c.heap.Bytes); n > 0 {
			checkStore(t, l, none, n-1, of, c.v, api.Region{}, nil, api.ErrFull)
			checkStore(t, l, none, 0, of, c.v, api.Region{}, nil, api.ErrFull)
		}
		if e := storeByOracle(t, l, none, mostHeap, of, c.v); e != api.OK {
			t.Errorf("the oracle has the error %d for the type %d", e, of)
		}
	}
	// The same text is put as often as it is there.
	l = []api.Type{aText, arrayOf(3, 0)}
	checkStore(t, l, none, 16, 1, arrayWith(textOf("a"), textOf(""), textOf("a")), concat(wordBytes('a', 'a')), wordBytes(65536, 1, 0, 0, 65544, 1), api.OK)
}

func TestStoreBehindOtherBytes(t *testing.T) {
	l := kindsOfTypes()
	before := concat([]byte("12345678abcdefgh"))
	checkStore(t, l, before, 24, 3, toOf(intOf(5)), concat(before.Bytes, wordBytes(5)), wordBytes(65552), api.OK)
	checkStore(t, l, before, 23, 3, toOf(intOf(5)), api.Region{}, nil, api.ErrFull)
	// What takes nothing is stored, however little the limit is.
	for _, limit := range []int{0, 8, 15, 16, mostHeap} {
		checkStore(t, l, before, limit, 1, intOf(5), before, wordBytes(5), api.OK)
		checkStore(t, l, before, limit, 2, textOf(""), before, wordBytes(0, 0), api.OK)
		checkStore(t, l, before, limit, 4, sliceWith(), before, wordBytes(0, 0, 0), api.OK)
	}
	full := over(firstAddress, someBytes(rule(6), mostHeap)...)
	checkStore(t, l, full, mostHeap, 5, structWith(boolOf(1), intOf(9), boolOf(1)), full, wordBytes(1, 9, 1), api.OK)
	checkStore(t, l, full, mostHeap, 2, textOf("a"), api.Region{}, nil, api.ErrFull)
	almost := over(firstAddress, full.Bytes[:mostHeap-8]...)
	checkStore(t, l, almost, mostHeap, 2, textOf("a"), concat(almost.Bytes, wordBytes('a')), wordBytes(81912, 1), api.OK)
	checkStore(t, l, almost, mostHeap, 2, textOf("nine byte"), api.Region{}, nil, api.ErrFull)
}

// Errors of the heap come before those of the limit, and these before those of the value, and there is no room only then.
func TestStoresErrorsInOrder(t *testing.T) {
	l := kindsOfTypes()
	good, wrong := toOf(intOf(1)), intOf(1)
	noHeaps := []api.Region{{}, over(8), over(65535), over(65544), over(131072), over(16777216), over(firstAddress, make([]byte, 7)...),
		over(firstAddress, make([]byte, 9)...), over(firstAddress, make([]byte, mostHeap+8)...), over(firstAddress, make([]byte, 20008)...), over(firstAddress + 1<<32)}
	otherLimits := []int{-1, -8, mostHeap + 1, mostHeap + 8, 1 << 32, 1<<32 + 64, math.MinInt, math.MaxInt}
	for _, heap := range noHeaps {
		for _, limit := range append(otherLimits, 0, 8, mostHeap) {
			checkStore(t, l, heap, limit, 3, good, api.Region{}, nil, api.ErrBad)
			checkStore(t, l, heap, limit, 3, wrong, api.Region{}, nil, api.ErrBad)
		}
	}
	for _, n := range []int{0, 8, 64, mostHeap} {
		heap := over(firstAddress, make([]byte, n)...)
		for _, limit := range otherLimits {
			checkStore(t, l, heap, limit, 3, good, api.Region{}, nil, api.ErrArg)
			checkStore(t, l, heap, limit, 3, wrong, api.Region{}, nil, api.ErrArg)
			checkStore(t, l, heap, limit, 3, toOf(), api.Region{}, nil, api.ErrArg)
		}
		for _, limit := range []int{0, n, mostHeap} {
			checkStore(t, l, heap, limit, 3, wrong, api.Region{}, nil, api.ErrType)
			checkStore(t, l, heap, limit, 3, toOf(good), api.Region{}, nil, api.ErrType)
			checkStore(t, l, heap, limit, 7, chained(4, toOf()), api.Region{}, nil, api.ErrType)
		}
		checkStore(t, l, heap, n, 3, good, api.Region{}, nil, api.ErrFull)
		checkStore(t, l, heap, 0, 3, good, api.Region{}, nil, api.ErrFull)
	}
}

func TestStoreByOracle(t *testing.T) {
	r := rule(7)
	met := map[api.Errno]int{}
	for range 6000 {
		l := someTable(r)
		of := r.IntN(len(l))
		v := someValue(r, l, of, mostDepth, 6)
		if r.IntN(8) == 0 {
			v = changed(r, v)
		}
		heap := over(firstAddress, someBytes(r, 8*r.IntN(20))...)
		e := storeByOracle(t, l, heap, mostHeap, of, v)
		met[e]++
		if want, _, e := oracleStore(l, heap, mostHeap, of, v); e == api.OK {
			for _, limit := range []int{len(want.Bytes), len(want.Bytes) - 1, len(want.Bytes) - 8, len(heap.Bytes), 8 * r.IntN(len(want.Bytes)+8) / 8} {
				met[storeByOracle(t, l, heap, limit, of, v)]++
			}
		}
	}
	if met[api.OK] < 5000 || met[api.ErrType] < 200 || met[api.ErrFull] < 2000 {
		t.Errorf("only %v", met)
	}
}

// wide is a type of slices of slices of slices, whose width is 4,369, and the value that is this wide.
func wide(inner api.Type, v api.Value) ([]api.Type, api.Value) {
	for range 3 {
		v = sliceWith(slices.Repeat([]api.Value{v}, mostLen)...)
	}
	return []api.Type{inner, sliceOf(0), sliceOf(1), sliceOf(2)}, v
}

func TestStoreOfWideValues(t *testing.T) {
	l, v := wide(aBool, boolOf(1))
	// 256 slices of 16 bools, 16 of 16 slices, and one of these.
	const needed = 256*16 + 16*16*24 + 16*24
	heap, b, e := Store(l, over(firstAddress), needed, 3, v)
	if e != api.OK || len(heap.Bytes) != needed || !slices.Equal(b, wordBytes(firstAddress+needed-16*24, 16, 16)) {
		t.Fatalf("Store: %d bytes, %v, error %d", len(heap.Bytes), b, e)
	}
	for depth := range 4 {
		checkLoad(t, l, []api.Region{over(8, b...), heap}, 8, 3, depth, cutAt(v, depth), api.OK)
	}
	checkStore(t, l, over(firstAddress), needed-1, 3, v, api.Region{}, nil, api.ErrFull)
	l, v = wide(anInt, intOf(1))
	checkCheck(t, l, 3, v, api.OK)
	checkStore(t, l, over(firstAddress), mostHeap, 3, v, api.Region{}, nil, api.ErrFull)
	l, v = wide(aText, textOf(strings.Repeat("x", mostText)))
	checkCheck(t, l, 3, v, api.OK)
	checkStore(t, l, over(firstAddress), mostHeap, 3, v, api.Region{}, nil, api.ErrFull)
	// The greatest allocation there is: 16 elements of 256 bytes.
	l = []api.Type{anInt, arrayOf(16, 0), arrayOf(2, 1), sliceOf(2)}
	row := arrayWith(slices.Repeat([]api.Value{intOf(-1)}, 16)...)
	v = sliceWith(slices.Repeat([]api.Value{arrayWith(row, row)}, 16)...)
	want := over(firstAddress, slices.Repeat([]byte{255}, 4096)...)
	checkStore(t, l, over(firstAddress), 4096, 3, v, want, wordBytes(firstAddress, 16, 16), api.OK)
	checkLoad(t, l, []api.Region{want, wordsAt(8, firstAddress, 16, 16)}, 8, 3, 1, v, api.OK)
}

// P15.4

// mustStore stores where there is room.
func mustStore(t *testing.T, l []api.Type, heap api.Region, of int, v api.Value) (api.Region, []byte) {
	t.Helper()
	h, b, e := Store(l, heap, mostHeap, of, v)
	if e != api.OK {
		t.Fatalf("Store in %s of %d, %s: error %d", told(l), of, told(v), e)
	}
	return h, b
}

func TestLoadedIsWhatWasStored(t *testing.T) {
	r := rule(8)
	stored := 0
	for range 4000 {
		l := someTable(r)
		of := r.IntN(len(l))
		v := someValue(r, l, of, mostDepth, 6)
		before := over(firstAddress, someBytes(r, 8*r.IntN(20))...)
		heap, b, e := Store(l, before, mostHeap, of, v)
		if e != api.OK {
			continue
		}
		stored++
		if !slices.Equal(heap.Bytes[:len(before.Bytes)], before.Bytes) {
			t.Fatalf("Store in %s of %d, %s: the heap %s has become %s", told(l), of, told(v), told(before), told(heap))
		}
		// The bytes themselves are put into the heap, too.
		a := heap.Base + uint64(len(heap.Bytes))
		heap.Bytes = append(heap.Bytes, b...)
		for depth := range 4 {
			checkLoad(t, l, []api.Region{heap}, a, of, depth, cutAt(v, depth), api.OK)
		}
		// What is there behind them, and elsewhere, changes nothing.
		heap.Bytes = append(heap.Bytes, someBytes(r, 9)...)
		for i := range before.Bytes {
			heap.Bytes[i]++
		}
		others := []api.Region{over(64, someBytes(r, 80)...), heap, over(1<<24, someBytes(r, 80)...), over(greatestBase)}
		for depth := range 4 {
			checkLoad(t, l, others, a, of, depth, cutAt(v, depth), api.OK)
		}
	}
	if stored < 2000 {
		t.Errorf("only %d", stored)
	}
}

// One value after the other is stored into a heap, and all stay.
func TestStoredValuesStay(t *testing.T) {
	r := rule(9)
	for range 60 {
		l := someTable(r)
		heap := over(firstAddress)
		type kept struct {
			of int
			b  []byte
			v  api.Value
		}
		var all []kept
		for range 20 {
			of := r.IntN(len(l))
			v := someValue(r, l, of, mostDepth, 4)
			h, b, e := Store(l, heap, mostHeap, of, v)
			if e != api.OK {
				continue
			}
			heap, all = h, append(all, kept{of, b, v})
		}
		for _, k := range all {
			checkLoad(t, l, []api.Region{over(64, k.b...), heap}, 64, k.of, mostDepth, k.v, api.OK)
		}
	}
}

// R2: arguments are only read, and results share no memory.

// span is memory that a list has, all of its room too. The list is kept, so that no later one gets the same memory.
type span struct {
	from, end uintptr
	list      any
}

func spanOf[T any](l []T) span {
	v := reflect.ValueOf(l)
	return span{v.Pointer(), v.Pointer() + uintptr(cap(l))*v.Type().Elem().Size(), l}
}

// spansOf are those of all lists of a value.
func spansOf(v api.Value) []span {
	if cap(v.List) == 0 {
		return nil
	}
	l := []span{spanOf(v.List)}
	for _, part := range v.List {
		l = append(l, spansOf(part)...)
	}
	return l
}

func TestResultsShareNoMemory(t *testing.T) {
	l := kindsOfTypes()
	filled := structWith(textOf("abc"), chained(3, toOf()), sliceWith(boolOf(1), boolOf(0)))
	v := arrayWith(filled, copied(filled))
	before := over(firstAddress, make([]byte, 50)...)
	before.Bytes = before.Bytes[:16]
	all := append(spansOf(v), spanOf(before.Bytes))
	for range 2 {
		heap, b := mustStore(t, l, before, 10, v)
		same, word := mustStore(t, l, before, 1, intOf(1))
		regions := []api.Region{heap, over(8, b...)}
		for _, x := range [][]byte{heap.Bytes, b, same.Bytes, word} {
			all = append(all, spanOf(x))
		}
		for depth := range 4 {
			loaded, e := Load(l, regions, 8, 10, depth)
			if e != api.OK {
				t.Fatalf("error %d", e)
			}
			all = append(all, spansOf(loaded)...)
		}
		zero, _ := Zero(l, 10)
		all = append(all, spansOf(zero)...)
	}
	if len(all) < 60 {
		t.Errorf("only %d lists", len(all))
	}
	for i, x := range all {
		for _, y := range all[:i] {
			if x.from < y.end && y.from < x.end {
				t.Errorf("%v and %v are the same memory", x.list, y.list)
			}
		}
	}
}

func TestArgumentsAreOnlyRead(t *testing.T) {
	l := kindsOfTypes()
	fields := slices.Clone(l[9].Fields)
	room := make([]api.Value, 0, 6)
	v := structWith(append(room, textOf("abc"), chained(2, toOf()), sliceWith(boolOf(1)))...)
	marked := room[:6]
	marked[4] = textOf("behind")
	memory := make([]byte, 60)
	for i := range memory {
		memory[i] = byte(i)
	}
	before := over(firstAddress, memory[:16]...)
	keptMemory, keptTypes, keptValues := slices.Clone(memory), slices.Clone(l), copied(structWith(marked...))
	heap, b := mustStore(t, l, before, 9, v)
	mustStore(t, l, before, 2, textOf(""))
	regions := []api.Region{over(8, b...), heap, {}, over(64, memory[16:40]...)}
	keptRegions := make([]api.Region, len(regions))
	for i, r := range regions {
		keptRegions[i] = over(r.Base, slices.Clone(r.Bytes)...)
	}
	for depth := range 4 {
		checkLoad(t, l, regions[:2], 8, 9, depth, cutAt(v, depth), api.OK)
		checkLoad(t, l, regions, 8, 9, depth, api.Value{}, api.ErrBad)
		checkLoad(t, l, regions[3:], 64, 5, depth, api.Value{}, api.ErrForm)
	}
	checkCheck(t, l, 9, v, api.OK)
	checkSame(t, v, copied(v), true)
	Zero(l, 10)
	if !slices.Equal(memory, keptMemory) || !slices.EqualFunc(regions, keptRegions, equalRegions) {
		t.Errorf("memory has become %v and %v", memory, regions)
	}
	if !reflect.DeepEqual(l, keptTypes) || !slices.Equal(l[9].Fields, fields) || !equal(structWith(marked...), keptValues) {
		t.Errorf("the arguments have become %v and %v", l, marked)
	}
}

// R7

func TestAnyArguments(t *testing.T) {
	r := rule(10)
	number := func() int {
		return among(r, -1, 0, 1, 2, 3, 4, 5, r.IntN(40), int(r.Uint64()), math.MinInt, math.MaxInt)
	}
	some := func() api.Region {
		base := among(r, 8, 64, firstAddress, firstAddress, greatestBase, greatestBase+8, 0, 7, r.Uint64(), math.MaxUint64-7)
		m := over(base, someBytes(r, among(r, 0, 8, 16, r.IntN(60)))...)
		for i := range m.Bytes {
			if r.IntN(4) != 0 {
				m.Bytes[i] = byte(r.IntN(2))
			}
		}
		return m
	}
	var value func(depth int) api.Value
	value = func(depth int) api.Value {
		v := api.Value{Kind: uint8(r.IntN(9)), Cut: r.IntN(5) == 0}
		if r.IntN(2) == 0 {
			v.Int = int64(number())
		}
		if r.IntN(4) == 0 {
			v.Text = string(someBytes(r, r.IntN(70)))
		}
		for range r.IntN(4) * min(depth, 1) {
			v.List = append(v.List, value(depth-1))
		}
		return v
	}
	for range 20000 {
		l := make([]api.Type, r.IntN(5))
		for i := range l {
			l[i] = someType(r, i, len(l))
			if r.IntN(20) == 0 {
				l[i].Elem, l[i].Len, l[i].Kind = number(), number(), uint8(r.IntN(10))
			}
		}
		of, v := among(r, number(), r.IntN(4)), value(4)
		checkCheck(t, l, of, v, oracleCheck(l, of, v))
		want, e := oracleZero(l, of)
		checkZero(t, l, of, want, e)
		other := value(2)
		checkSame(t, v, other, equal(v, other))
		var regions []api.Region
		for range among(r, 0, 1, 1, 2, 3, 18) {
			regions = append(regions, some())
		}
		a := among(r, 8, 64, firstAddress, uint64(r.IntN(100)), r.Uint64(), greatestBase, math.MaxUint64)
		loadByOracle(t, l, regions, a, of, among(r, number(), r.IntN(4)))
		storeByOracle(t, l, some(), among(r, number(), r.IntN(mostHeap)), of, v)
	}
}
