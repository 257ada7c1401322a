package value

import (
	"math"
	"slices"
	"strings"
	"testing"

	"wreckage/api"
)

func checkCheck(t *testing.T, l []api.Type, of int, v api.Value, want api.Errno) {
	t.Helper()
	if e := Check(l, of, v); e != want {
		t.Errorf("Check in %s of %d, %s: error %d, not %d", told(l), of, told(v), e, want)
	}
}

func checkZero(t *testing.T, l []api.Type, of int, want api.Value, wantError api.Errno) {
	t.Helper()
	if v, e := Zero(l, of); e != wantError || !equal(v, want) {
		t.Errorf("Zero in %s of %d: %s, error %d, not %s, error %d", told(l), of, told(v), e, told(want), wantError)
	}
}

// checkSame checks both orders.
func checkSame(t *testing.T, a, b api.Value, want bool) {
	t.Helper()
	if Same(a, b) != want || Same(b, a) != want {
		t.Errorf("Same of %s and %s is not %t", told(a), told(b), want)
	}
}

// kindsOfTypes has a type of each kind, and some more.
func kindsOfTypes() []api.Type {
	return []api.Type{
		aBool, anInt, aText, pointerTo(1), sliceOf(0), // 0 to 4
		structOf(0, 1, 0), arrayOf(3, 0), pointerTo(7), sliceOf(8), // 5 to 8: 7 is a pointer of itself, 8 a slice of itself
		structOf(2, 7, 4), arrayOf(2, 9), pointerTo(10), sliceOf(10), // 9 to 12
	}
}

// chained is a value within so many pointers to pointers.
func chained(n int, v api.Value) api.Value {
	for range n {
		v = toOf(v)
	}
	return v
}

// sliced is a slice within so many other slices.
func sliced(n int, v api.Value) api.Value {
	for range n {
		v = sliceWith(v)
	}
	return v
}

// All promises

func TestTheChaptersExample(t *testing.T) {
	v := structWith(boolOf(1), toOf(intOf(7)))
	// As it is written there the table is not valid: fields of a struct are of types that stand before it.
	checkCheck(t, []api.Type{anInt, pointerTo(0), structOf(3, 1), aBool}, 2, v, api.ErrBad)
	l := []api.Type{anInt, pointerTo(0), aBool, structOf(2, 1)}
	checkCheck(t, l, 3, v, api.OK)
	heap, b, e := Store(l, over(firstAddress), 8, 3, v)
	if want := wordsAt(firstAddress, 7); e != api.OK || !equalRegions(heap, want) || !slices.Equal(b, wordsAt(8, 1, firstAddress).Bytes) {
		t.Errorf("Store: %v, %v, error %d", heap, b, e)
	}
	r := []api.Region{heap, over(8, b...)}
	checkLoad(t, l, r, 8, 3, 0, structWith(boolOf(1), cutOf(api.KindPointer)), api.OK)
	for depth := 1; depth <= mostDepth; depth++ {
		checkLoad(t, l, r, 8, 3, depth, v, api.OK)
	}
}

// All functions tell what is wrong with a table before all else.
func TestTablesThatAreWrong(t *testing.T) {
	r := []api.Region{over(64, make([]byte, 1000)...)}
	all := func(l []api.Type, of int, want api.Errno) {
		t.Helper()
		if e := oracleTable(l, of); e != want {
			t.Errorf("the oracle has the error %d for %s of %d, not %d", e, told(l), of, want)
		}
		for _, v := range []api.Value{{}, intOf(1), structWith()} {
			checkCheck(t, l, of, v, want)
			for _, heap := range []api.Region{over(firstAddress), over(8), {}} {
				checkStore(t, l, heap, 0, of, v, api.Region{}, nil, want)
				checkStore(t, l, heap, -1, of, v, api.Region{}, nil, want)
			}
		}
		checkZero(t, l, of, api.Value{}, want)
		for _, regions := range [][]api.Region{r, nil, {{}}, slices.Repeat(r, 18), slices.Repeat(r, 2)} {
			for _, depth := range []int{0, 3, -1, 4} {
				checkLoad(t, l, regions, 64, of, depth, api.Value{}, want)
				checkLoad(t, l, regions, 65, of, depth, api.Value{}, want)
			}
		}
	}
	for _, l := range [][]api.Type{
		{{}}, {{Kind: 8}}, {arrayOf(1, 0)}, {pointerTo(1)}, {sliceOf(-1)}, {anInt, arrayOf(0, 0)}, {anInt, arrayOf(17, 0)}, {anInt, structOf()},
		slices.Repeat([]api.Type{anInt}, 33), {anInt, structOf(0, 1)}, {anInt, {}},
		{aBool, arrayOf(16, 0), arrayOf(16, 1), arrayOf(16, 2), arrayOf(2, 3)}, // too wide
	} {
		for _, of := range []int{0, -1, len(l), len(l) - 1} {
			all(l, of, api.ErrBad)
		}
	}
	for _, of := range []int{-1, 13, 14, math.MinInt, math.MaxInt, 1 << 32, -1 << 32} {
		all(kindsOfTypes(), of, api.ErrArg)
	}
	all(nil, 0, api.ErrArg)
	// 256 bytes are not too many, 257 and 264 are, whichever way leads there.
	l := []api.Type{aBool, arrayOf(16, 0), arrayOf(16, 1), structOf(2, 0), anInt, arrayOf(16, 4), structOf(5, 5), structOf(6, 0)}
	l = append(l, pointerTo(2), sliceOf(6), pointerTo(3), sliceOf(7), pointerTo(10), structOf(4, 11), arrayOf(1, 12), sliceOf(14), structOf(8, 9))
	for of, want := range []api.Errno{3: api.ErrRange, 7: api.ErrRange, 10: api.ErrRange, 11: api.ErrRange, 12: api.ErrRange, 13: api.ErrRange, 14: api.ErrRange, 15: api.ErrRange, 16: api.OK} {
		if want != api.OK {
			all(l, of, want)
			continue
		}
		z, e := oracleZero(l, of)
		if e != api.OK {
			t.Fatalf("error %d", e)
		}
		checkZero(t, l, of, z, api.OK)
		checkCheck(t, l, of, z, api.OK)
	}
}

// P15.1: Check

func TestCheckOfEachKind(t *testing.T) {
	l := kindsOfTypes()
	fit := map[int][]api.Value{
		0: {boolOf(0), boolOf(1)},
		1: {intOf(0), intOf(-1), intOf(2), intOf(math.MinInt64), intOf(math.MaxInt64)},
		2: {textOf(""), textOf("a"), textOf("\x00\xff"), textOf(strings.Repeat("é", 32))},
		3: {toOf(), toOf(intOf(-5))},
		4: {sliceWith(), sliceWith(boolOf(1)), sliceWith(boolOf(0), boolOf(1), boolOf(1))},
		5: {structWith(boolOf(1), intOf(9), boolOf(0))},
		6: {arrayWith(boolOf(1), boolOf(0), boolOf(1))},
		9: {structWith(textOf("a"), toOf(), sliceWith()), structWith(textOf(""), toOf(toOf()), sliceWith(boolOf(0), boolOf(1)))},
	}
	var all []api.Value
	for _, vs := range fit {
		all = append(all, vs...)
	}
	for i := range l {
		for _, v := range fit[i] {
			checkCheck(t, l, i, v, api.OK)
			for _, n := range []int64{1, 2, -1, 256, 1 << 32} {
				if i == 1 {
					break
				}
				w := v
				if w.Int += n; i != 0 || w.Int != 0 && w.Int != 1 {
					checkCheck(t, l, i, w, api.ErrType)
				}
			}
			if i != 2 {
				w := v
				w.Text = "a"
				checkCheck(t, l, i, w, api.ErrType)
			}
			w := v
			w.Cut = true
			checkCheck(t, l, i, w, api.ErrType)
			w.List = nil
			checkCheck(t, l, i, w, api.ErrType)
			if v.Kind < api.KindPointer {
				w = v
				w.List = []api.Value{{}}
				checkCheck(t, l, i, w, api.ErrType)
			}
			for kind := range 256 {
				w := v
				if w.Kind = uint8(kind); w.Kind != v.Kind {
					checkCheck(t, l, i, w, api.ErrType)
				}
			}
		}
		for _, v := range all {
			checkCheck(t, l, i, v, oracleCheck(l, i, v))
		}
		checkCheck(t, l, i, api.Value{}, api.ErrType)
	}
}

func TestCheckOfLengths(t *testing.T) {
	l := []api.Type{aBool, aText, pointerTo(0), sliceOf(0), structOf(0, 0, 0), structOf(0, 0, 0, 0, 0, 0, 0, 0)}
	for n := 1; n <= mostLen; n++ {
		l = append(l, arrayOf(n, 0))
	}
	for n := range 20 {
		bools := slices.Repeat([]api.Value{boolOf(1)}, n)
		is := func(there bool) api.Errno {
			if there {
				return api.OK
			}
			return api.ErrType
		}
		checkCheck(t, l, 2, toOf(bools...), is(n <= 1))
		checkCheck(t, l, 3, sliceWith(bools...), is(n <= mostLen))
		checkCheck(t, l, 4, structWith(bools...), is(n == 3))
		checkCheck(t, l, 5, structWith(bools...), is(n == 8))
		for k := 1; k <= mostLen; k++ {
			checkCheck(t, l, 5+k, arrayWith(bools...), is(n == k))
		}
	}
	for n := range 400 {
		want := api.OK
		if n > mostText {
			want = api.ErrType
		}
		checkCheck(t, l, 1, textOf(strings.Repeat("x", n)), want)
	}
}

// Pointers and slices are followed three deep, structs and arrays as deep as there are any.
func TestCheckOfDepths(t *testing.T) {
	l := kindsOfTypes()
	for n := range 9 {
		want := api.OK
		if n > mostDepth {
			want = api.ErrType
		}
		checkCheck(t, l, 7, chained(n, toOf()), want)
		checkCheck(t, l, 8, sliced(n, sliceWith()), want)
		inner := structWith(textOf("x"), chained(n, toOf()), sliceWith())
		checkCheck(t, l, 9, inner, want)
		checkCheck(t, l, 10, arrayWith(structWith(textOf(""), toOf(), sliceWith()), inner), want)
		// One more leads to them.
		if n == mostDepth {
			want = api.ErrType
		}
		checkCheck(t, l, 11, toOf(arrayWith(structWith(textOf(""), toOf(), sliceWith()), inner)), want)
		checkCheck(t, l, 12, sliceWith(arrayWith(inner, structWith(textOf(""), toOf(), sliceWith(boolOf(1))))), want)
	}
	// A value that is cut there is none with nothing cut.
	checkCheck(t, l, 7, chained(3, cutOf(api.KindPointer)), api.ErrType)
	checkCheck(t, l, 8, sliced(3, cutOf(api.KindSlice)), api.ErrType)
}

func TestCheckByOracle(t *testing.T) {
	r := rule(1)
	met := map[api.Errno]int{}
	for range 8000 {
		l := someTable(r)
		of := r.IntN(len(l))
		v := someValue(r, l, of, mostDepth, 6)
		e := oracleTable(l, of)
		checkCheck(t, l, of, v, e)
		met[e]++
		for range 4 {
			w := changed(r, v)
			e := oracleCheck(l, of, w)
			checkCheck(t, l, of, w, e)
			met[e]++
		}
		// A value of another type seldom fits.
		other := r.IntN(len(l))
		checkCheck(t, l, other, v, oracleCheck(l, other, v))
	}
	if met[api.OK] < 4000 || met[api.ErrType] < 4000 || met[api.ErrRange] < 100 {
		t.Errorf("only %v", met)
	}
}

// P15.1: Zero

func TestZero(t *testing.T) {
	l := kindsOfTypes()
	three := structWith(textOf(""), toOf(), sliceWith())
	for i, want := range []api.Value{
		boolOf(0), intOf(0), textOf(""), toOf(), sliceWith(), structWith(boolOf(0), intOf(0), boolOf(0)),
		arrayWith(boolOf(0), boolOf(0), boolOf(0)), toOf(), sliceWith(), three, arrayWith(three, three), toOf(), sliceWith(),
	} {
		checkZero(t, l, i, want, api.OK)
	}
	r := rule(2)
	for range 4000 {
		l := someTable(r)
		for i := range l {
			want, e := oracleZero(l, i)
			checkZero(t, l, i, want, e)
			if e != api.OK {
				continue
			}
			checkCheck(t, l, i, want, api.OK)
			// It takes nothing in the heap, even where there is no room.
			size, _ := oracleSize(l, i)
			heap := over(firstAddress, someBytes(r, 8*r.IntN(4))...)
			checkStore(t, l, heap, 0, i, want, heap, make([]byte, size), api.OK)
		}
	}
}

// Arrays of arrays of one element, as deep as a table lets, and one of 256 bools.
func TestZeroOfDeepTypes(t *testing.T) {
	l := []api.Type{aText}
	want := textOf("")
	for len(l) < 32 {
		l = append(l, arrayOf(1, len(l)-1))
		want = arrayWith(want)
		checkZero(t, l, len(l)-1, want, api.OK)
		checkCheck(t, l, len(l)-1, want, api.OK)
	}
	l = []api.Type{aBool, arrayOf(16, 0), arrayOf(16, 1)}
	checkZero(t, l, 2, arrayWith(slices.Repeat([]api.Value{arrayWith(slices.Repeat([]api.Value{boolOf(0)}, 16)...)}, 16)...), api.OK)
}

// P15.1: Same

func TestSame(t *testing.T) {
	x := api.Value{Kind: 5, Int: 7, Text: "ab", List: []api.Value{intOf(1), textOf("c")}, Cut: true}
	checkSame(t, x, copied(x), true)
	checkSame(t, api.Value{}, api.Value{}, true)
	checkSame(t, x, api.Value{}, false)
	for _, change := range []func(v *api.Value){
		func(v *api.Value) { v.Kind = 6 },
		func(v *api.Value) { v.Kind = 255 },
		func(v *api.Value) { v.Int = 8 },
		func(v *api.Value) { v.Int = 7 - 1<<32 },
		func(v *api.Value) { v.Int = -7 },
		func(v *api.Value) { v.Text = "a" },
		func(v *api.Value) { v.Text = "ab\x00" },
		func(v *api.Value) { v.Text = "" },
		func(v *api.Value) { v.Cut = false },
		func(v *api.Value) { v.List = nil },
		func(v *api.Value) { v.List = v.List[:1] },
		func(v *api.Value) { v.List = v.List[1:] },
		func(v *api.Value) { v.List = append(v.List, api.Value{}) },
		func(v *api.Value) { v.List[0], v.List[1] = v.List[1], v.List[0] },
		func(v *api.Value) { v.List[0].Int = 2 },
		func(v *api.Value) { v.List[1].Text = "d" },
		func(v *api.Value) { v.List[1].Cut = true },
		func(v *api.Value) { v.List[1].Kind = 0 },
		func(v *api.Value) { v.List[1].List = []api.Value{{}} },
	} {
		y := copied(x)
		change(&y)
		checkSame(t, x, y, false)
		checkSame(t, y, copied(y), true)
		checkSame(t, structWith(intOf(0), toOf(x)), structWith(intOf(0), toOf(y)), false)
	}
	// Nil and empty lists are equal.
	checkSame(t, api.Value{Kind: 7, List: []api.Value{}}, api.Value{Kind: 7}, true)
	checkSame(t, sliceWith(api.Value{List: make([]api.Value, 0, 9)}), sliceWith(api.Value{}), true)
}

func TestSameByOracle(t *testing.T) {
	r := rule(3)
	met := map[bool]int{}
	for range 8000 {
		l := someTable(r)
		of := r.IntN(len(l))
		v, w := someValue(r, l, of, mostDepth, 5), someValue(r, l, of, mostDepth, 5)
		checkSame(t, v, copied(v), true)
		checkSame(t, v, v, true)
		checkSame(t, v, w, equal(v, w))
		w = changed(r, v)
		met[equal(v, w)]++
		checkSame(t, v, w, equal(v, w))
	}
	if met[true] < 500 || met[false] < 2000 {
		t.Errorf("only %v", met)
	}
}

// Values of any depth, and such whose lists are shared, are compared in the end.
func TestSameOfDeepValues(t *testing.T) {
	for _, n := range []int{100, 1 << 16, 1 << 18} {
		checkSame(t, chained(n, intOf(1)), chained(n, intOf(1)), true)
		checkSame(t, chained(n, intOf(1)), chained(n, intOf(2)), false)
		checkSame(t, chained(n, intOf(1)), chained(n+1, intOf(1)), false)
	}
	shared := func(v api.Value, n int) api.Value {
		for range n {
			v = structWith(v, v)
		}
		return v
	}
	if !Same(shared(intOf(1), 100), shared(intOf(1), 100)) || Same(shared(intOf(1), 100), shared(intOf(2), 100)) {
		t.Error("shared values are not compared")
	}
	// Parts of one list, from the same place on, are other lists if they have another length.
	l := []api.Value{intOf(1), intOf(2), intOf(3)}
	m := []api.Value{intOf(1), intOf(2), intOf(4)}
	checkSame(t, structWith(sliceWith(l[:2]...), sliceWith(l...)), structWith(sliceWith(m[:2]...), sliceWith(m...)), false)
	checkSame(t, structWith(sliceWith(l...), sliceWith(l[:2]...)), structWith(sliceWith(m...), sliceWith(m[:2]...)), false)
	checkSame(t, structWith(sliceWith(l[:2]...), sliceWith(l[:1]...)), structWith(sliceWith(m[:2]...), sliceWith(m[:1]...)), true)
	checkSame(t, structWith(sliceWith(l...), sliceWith(l...)), structWith(sliceWith(l...), sliceWith(m...)), false)
}

// endless is a value with a list of which it is the last element itself, behind others.
func endless(l ...api.Value) api.Value {
	all := append(slices.Clone(l), api.Value{})
	all[len(l)] = sliceWith(all...)
	return all[len(l)]
}

func TestSameOfEndlessValues(t *testing.T) {
	for _, c := range []struct {
		a, b api.Value
		want bool
	}{
		{endless(), endless(), true},
		{endless(intOf(1)), endless(intOf(1)), true},
		{endless(intOf(1)), endless(intOf(2)), false},
		{endless(intOf(1)), endless(), false},
		{endless(), sliced(100, sliceWith()), false},
		{sliceWith(endless()), endless(), true},
		{toOf(endless()), endless(), false},
	} {
		if Same(c.a, c.b) != c.want || Same(c.b, c.a) != c.want {
			t.Errorf("it is not %t", c.want)
		}
	}
	// No type has such a value.
	l := kindsOfTypes()
	if e := Check(l, 8, endless()); e != api.ErrType {
		t.Errorf("Check: error %d", e)
	}
	if _, _, e := Store(l, over(firstAddress), 100, 8, endless(sliceWith())); e != api.ErrType {
		t.Errorf("Store: error %d", e)
	}
}
