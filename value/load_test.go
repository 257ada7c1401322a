package value

import (
	"math"
	"math/rand/v2"
	"slices"
	"testing"

	"wreckage/api"
)

func checkLoad(t *testing.T, l []api.Type, r []api.Region, a uint64, of, depth int, want api.Value, wantError api.Errno) {
	t.Helper()
	if v, e := Load(l, r, a, of, depth); e != wantError || !equal(v, want) {
		t.Errorf("Load in %s of %d at %d, to %d, from %s: %s, error %d, not %s, error %d", told(l), of, a, depth, told(r), told(v), e, told(want), wantError)
	}
}

// loadByOracle also returns the error, so that tests can count what they met.
func loadByOracle(t *testing.T, l []api.Type, r []api.Region, a uint64, of, depth int) api.Errno {
	t.Helper()
	want, e := oracleLoad(l, r, a, of, depth)
	checkLoad(t, l, r, a, of, depth, want, e)
	return e
}

// P15.2: one kind after the other

func TestLoadOfBoolsAndInts(t *testing.T) {
	l := kindsOfTypes()
	var all []byte
	for b := range 256 {
		all = append(all, byte(b))
	}
	r := []api.Region{over(64, all...)}
	for i := range 256 {
		a := 64 + uint64(i)
		if i < 2 {
			checkLoad(t, l, r, a, 0, 0, boolOf(int64(i)), api.OK)
		} else {
			checkLoad(t, l, r, a, 0, 0, api.Value{}, api.ErrForm)
		}
		if i%8 != 0 {
			checkLoad(t, l, r, a, 1, 3, api.Value{}, api.ErrRange)
		} else {
			loadByOracle(t, l, r, a, 1, 3)
		}
	}
	for _, n := range []int64{0, 1, -1, 258, math.MinInt64, math.MaxInt64, -1 << 32} {
		checkLoad(t, l, []api.Region{wordsAt(64, 5, uint64(n), 6)}, 72, 1, 0, intOf(n), api.OK)
	}
	// An array of bools may begin anywhere, a struct with an int may not.
	r = []api.Region{over(64, 1, 0, 1, 1, 0, 2, 0, 0)}
	checkLoad(t, l, r, 65, 6, 0, arrayWith(boolOf(0), boolOf(1), boolOf(1)), api.OK)
	checkLoad(t, l, r, 66, 6, 0, arrayWith(boolOf(1), boolOf(1), boolOf(0)), api.OK)
	checkLoad(t, l, r, 67, 6, 0, api.Value{}, api.ErrForm)
	checkLoad(t, l, r, 69, 6, 0, api.Value{}, api.ErrForm)
	checkLoad(t, l, r, 70, 6, 0, api.Value{}, api.ErrRange)
	// What is in the padding of a struct is not looked at.
	r = []api.Region{wordsAt(64, 1+0xffffffffffff<<8, 9, 0xab<<56)}
	checkLoad(t, l, r, 64, 5, 0, structWith(boolOf(1), intOf(9), boolOf(0)), api.OK)
	checkLoad(t, l, r, 65, 5, 0, api.Value{}, api.ErrRange)
	checkLoad(t, l, r, 72, 5, 0, api.Value{}, api.ErrRange)
}

func TestLoadOfTexts(t *testing.T) {
	l := []api.Type{aText}
	var letters []byte
	for i := range 100 {
		letters = append(letters, byte('A'+i))
	}
	load := func(a, n uint64, want string, wantError api.Errno) {
		t.Helper()
		r := []api.Region{wordsAt(8, a, n), over(64, letters[:72]...), over(136, letters[72:80]...)}
		v := textOf(want)
		if wantError != api.OK {
			v = api.Value{}
		}
		for depth := range 4 {
			checkLoad(t, l, r, 8, 0, depth, v, wantError)
		}
		if e := loadByOracle(t, l, r, 8, 0, 0); e != wantError {
			t.Errorf("the oracle has the error %d for %d and %d, not %d", e, a, n, wantError)
		}
	}
	for n := range uint64(65) {
		load(64, n, string(letters[:n]), api.OK)
		load(72, n, string(letters[8:8+n]), api.OK)
	}
	for _, n := range []uint64{65, 66, 72, 256, 256 + 5, 1 << 32, 1<<32 + 5, 1 << 63, 1<<63 + 5, math.MaxUint64, math.MaxUint64 - 7} {
		for _, a := range []uint64{64, 65, 0, 136, 1, math.MaxUint64, 1 << 41} {
			load(a, n, "", api.ErrForm)
		}
	}
	// The last byte of a region is one of it, the first one behind it is not, even where another one begins there.
	load(128, 8, string(letters[64:72]), api.OK)
	load(128, 9, "", api.ErrRange)
	load(136, 8, string(letters[72:80]), api.OK)
	load(136, 9, "", api.ErrRange)
	load(144, 1, "", api.ErrRange)
	load(56, 1, "", api.ErrRange)
	load(16, 8, "\x08\x00\x00\x00\x00\x00\x00\x00", api.OK)
	for _, a := range []uint64{1, 65, 66, 68, 71, 139, 143, 63, 1 << 63, 64 + 1<<32, 64 + 1<<63, math.MaxUint64, math.MaxUint64 - 7} {
		load(a, 1, "", api.ErrRange)
		load(a, 64, "", api.ErrRange)
		load(a, 65, "", api.ErrForm)
		// The address of a text without bytes is not looked at.
		load(a, 0, "", api.OK)
	}
	load(0, 0, "", api.OK)
	// An address that is 0 has no length but 0: this is one of form.
	for n := uint64(1); n < 70; n++ {
		load(0, n, "", api.ErrForm)
	}
}

func TestLoadOfPointers(t *testing.T) {
	// 5 is a pointer to bytes of 24, 3 to one byte.
	l := []api.Type{anInt, pointerTo(0), aBool, pointerTo(2), structOf(2, 0, 2), pointerTo(4)}
	load := func(of int, a uint64, want api.Value, wantError api.Errno) {
		t.Helper()
		r := []api.Region{wordsAt(8, a), wordsAt(64, 1, 7, 0, 0, 9), over(104, 1, 0)}
		for depth := range 4 {
			v := want
			if wantError == api.OK && len(want.List) > 0 && depth == 0 {
				v = cutOf(api.KindPointer)
			}
			checkLoad(t, l, r, 8, of, depth, v, wantError)
		}
		if e := loadByOracle(t, l, r, 8, of, 0); e != wantError {
			t.Errorf("the oracle has the error %d for %d of %d, not %d", e, a, of, wantError)
		}
	}
	for _, of := range []int{1, 3, 5} {
		load(of, 0, toOf(), api.OK)
		for _, a := range []uint64{1, 7, 60, 65, 66, 68, 71, 105, 112, 56, 48, 1 << 32, 64 + 1<<32, 1 << 63, 64 + 1<<63, math.MaxUint64, math.MaxUint64 - 7} {
			load(of, a, api.Value{}, api.ErrRange)
		}
	}
	load(1, 64, toOf(intOf(1)), api.OK)
	load(1, 72, toOf(intOf(7)), api.OK)
	load(1, 96, toOf(intOf(9)), api.OK)
	load(1, 104, api.Value{}, api.ErrRange)
	load(3, 64, toOf(boolOf(1)), api.OK)
	load(3, 104, toOf(boolOf(1)), api.OK)
	load(5, 64, toOf(structWith(boolOf(1), intOf(7), boolOf(0))), api.OK)
	load(5, 88, api.Value{}, api.ErrRange)
	// A pointer to itself.
	load(1, 8, toOf(intOf(8)), api.OK)
	// What is wrong with what it leads to is not seen where it is cut.
	r := []api.Region{wordsAt(8, 80), wordsAt(64, 1, 7, 0, 0, 9)}
	checkLoad(t, l, r, 8, 5, 0, cutOf(api.KindPointer), api.OK)
	checkLoad(t, l, r, 8, 5, 1, api.Value{}, api.ErrForm)
}

func TestLoadOfSlices(t *testing.T) {
	// 3 is a slice of structs of 16 bytes.
	l := []api.Type{aBool, anInt, structOf(0, 1), sliceOf(2), sliceOf(0), sliceOf(1)}
	memory := wordsAt(64)
	for i := range 34 {
		memory.Bytes = append(memory.Bytes, wordsAt(8, uint64(i%2*i)).Bytes...)
	}
	met := map[api.Errno]int{}
	for _, of := range []int{3, 4, 5} {
		for _, a := range []uint64{0, 8, 64, 68, 72, 80, 320, 328, 329, 336, 344, math.MaxUint64, math.MaxUint64 - 7} {
			for n := range uint64(20) {
				for room := range uint64(20) {
					r := []api.Region{wordsAt(8, a, n, room), memory}
					for depth := range 4 {
						met[loadByOracle(t, l, r, 8, of, depth)]++
					}
				}
			}
			for _, great := range []uint64{256, 256 + 2, 1 << 32, 1<<32 + 2, 1 << 60, 1 << 63, 1<<63 + 2, math.MaxUint64} {
				for _, r := range [][]api.Region{{wordsAt(8, a, great, great), memory}, {wordsAt(8, a, 1, great), memory}, {wordsAt(8, a, great, 1), memory}} {
					checkLoad(t, l, r, 8, of, 3, api.Value{}, api.ErrForm)
					checkLoad(t, l, r, 8, of, 0, api.Value{}, api.ErrForm)
				}
			}
		}
	}
	if met[api.OK] < 1000 || met[api.ErrForm] < 1000 || met[api.ErrRange] < 1000 {
		t.Errorf("only %v", met)
	}
	load := func(of int, a, n, room uint64, depth int, want api.Value, wantError api.Errno) {
		t.Helper()
		checkLoad(t, l, []api.Region{wordsAt(8, a, n, room), memory}, 8, of, depth, want, wantError)
	}
	ints := func(from, n int) api.Value {
		v := sliceWith()
		for i := from; i < from+n; i++ {
			v.List = append(v.List, intOf(int64(i%2*i)))
		}
		return v
	}
	load(5, 64, 16, 16, 3, ints(0, 16), api.OK)
	load(5, 64, 3, 16, 1, ints(0, 3), api.OK)
	load(5, 72, 2, 2, 1, ints(1, 2), api.OK)
	load(5, 72, 2, 2, 0, cutOf(api.KindSlice), api.OK)
	load(5, 64, 17, 17, 1, api.Value{}, api.ErrForm)
	load(5, 64, 3, 2, 1, api.Value{}, api.ErrForm)
	// Without elements it is never cut.
	load(5, 64, 0, 16, 0, sliceWith(), api.OK)
	load(5, 64, 0, 0, 0, sliceWith(), api.OK)
	load(5, 0, 0, 0, 0, sliceWith(), api.OK)
	load(5, 0, 0, 1, 0, api.Value{}, api.ErrForm)
	load(5, 0, 1, 1, 0, api.Value{}, api.ErrForm)
	// There has to be room for the whole capacity; for none of it for one byte.
	load(5, 208, 1, 16, 1, ints(18, 1), api.OK)
	load(5, 216, 1, 16, 1, api.Value{}, api.ErrRange)
	load(5, 216, 0, 16, 0, api.Value{}, api.ErrRange)
	load(5, 328, 0, 0, 0, sliceWith(), api.OK)
	load(5, 336, 0, 0, 0, api.Value{}, api.ErrRange)
	load(5, 329, 0, 0, 0, api.Value{}, api.ErrRange)
	// Elements behind the length are not looked at.
	load(4, 80, 1, 16, 1, sliceWith(boolOf(0)), api.OK)
	load(4, 88, 0, 1, 1, sliceWith(), api.OK)
	load(4, 88, 1, 1, 1, api.Value{}, api.ErrForm)
	load(4, 88, 1, 1, 0, cutOf(api.KindSlice), api.OK)
	load(3, 64, 2, 2, 1, sliceWith(structWith(boolOf(0), intOf(1)), structWith(boolOf(0), intOf(3))), api.OK)
}

// Memory that leads to itself is followed as deep as is asked for.
func TestLoadToDepths(t *testing.T) {
	l := []api.Type{pointerTo(0), sliceOf(1), structOf(0, 1), pointerTo(2), arrayOf(1, 2)}
	r := []api.Region{wordsAt(8, 8, 16, 1, 2, 0)}
	for depth := range 4 {
		checkLoad(t, l, r, 8, 0, depth, chained(depth, cutOf(api.KindPointer)), api.OK)
		// The words at 16 are a slice whose address is its own, but with two elements there is no room.
		checkLoad(t, l, r, 16, 1, depth, api.Value{}, api.ErrRange)
	}
	r = []api.Region{wordsAt(8, 8, 16, 1, 1, 0)}
	for depth := range 4 {
		slice := sliced(depth, cutOf(api.KindSlice))
		pointer := chained(depth, cutOf(api.KindPointer))
		checkLoad(t, l, r, 16, 1, depth, slice, api.OK)
		checkLoad(t, l, r, 8, 2, depth, structWith(pointer, slice), api.OK)
	}
	// A struct and an array take nothing of the depth.
	r = []api.Region{wordsAt(64, 64, 72, 1, 1, 64)}
	for depth := range 4 {
		inner := structWith(chained(depth, cutOf(api.KindPointer)), sliced(depth, cutOf(api.KindSlice)))
		checkLoad(t, l, r, 64, 4, depth, arrayWith(inner), api.OK)
		if depth < mostDepth {
			checkLoad(t, l, r, 96, 3, depth+1, toOf(inner), api.OK)
		}
	}
	checkLoad(t, l, r, 96, 3, 0, cutOf(api.KindPointer), api.OK)
}

// P15.2: errors in their order

func TestLoadsErrorsInOrder(t *testing.T) {
	l := []api.Type{anInt}
	good := wordsAt(64, 7)
	bad := over(60)
	var many []api.Region
	for i := range 18 {
		many = append(many, wordsAt(64+8*uint64(i), 7))
	}
	for _, depth := range []int{-1, 4, 5, 256, 1 << 32, 1<<32 + 1, math.MinInt, math.MaxInt} {
		for _, r := range [][]api.Region{{good}, nil, {bad}, many, {good, good}} {
			for _, a := range []uint64{64, 65, 0} {
				checkLoad(t, l, r, a, 0, depth, api.Value{}, api.ErrArg)
			}
		}
	}
	for depth := range 4 {
		for _, a := range []uint64{64, 65, 0, 8, 1000, math.MaxUint64} {
			checkLoad(t, l, many, a, 0, depth, api.Value{}, api.ErrMany)
			checkLoad(t, l, append(slices.Repeat([]api.Region{good}, 17), bad), a, 0, depth, api.Value{}, api.ErrMany)
			for _, r := range [][]api.Region{{bad}, {good, bad}, {bad, good}, {good, good, bad}, {{}}, {over(8, make([]byte, 20001)...), good}, {good, over(greatestBase + 8)}} {
				checkLoad(t, l, r, a, 0, depth, api.Value{}, api.ErrBad)
			}
			for _, r := range [][]api.Region{{good, good}, {good, over(200), over(56, make([]byte, 9)...)}, {over(56, make([]byte, 9)...), good}} {
				checkLoad(t, l, r, a, 0, depth, api.Value{}, api.ErrTwice)
			}
			if a != 64 {
				checkLoad(t, l, []api.Region{good}, a, 0, depth, api.Value{}, api.ErrRange)
			}
			checkLoad(t, l, nil, a, 0, depth, api.Value{}, api.ErrRange)
			checkLoad(t, l, []api.Region{over(a&^7%4096 + 8)}, a, 0, depth, api.Value{}, api.ErrRange)
		}
		for i := range 17 {
			checkLoad(t, l, many[:17], 64+8*uint64(i), 0, depth, intOf(7), api.OK)
		}
	}
}

// A type has as many bytes as it needs at each address, or there is an error, however great the address is.
func TestLoadAtEachAddress(t *testing.T) {
	l := append(kindsOfTypes(), arrayOf(5, 0), structOf(0, 0))
	for _, base := range []uint64{8, 64, firstAddress, greatestBase} {
		r := []api.Region{over(base, make([]byte, 40)...), over(base+40, make([]byte, 9)...)}
		if base == greatestBase {
			r[1].Base = base - 16
		}
		for of := range l {
			for i := range uint64(80) {
				for _, far := range []uint64{0, 1 << 32, 1 << 63} {
					loadByOracle(t, l, r, base+i-20+far, of, 1)
				}
			}
		}
	}
}

// The first part that has an error tells it, with those to which it leads right behind it.
func TestLoadTellsTheFirstPart(t *testing.T) {
	// 3 is a struct of a bool, a text and a bool; 5 one of a pointer to 3 and a slice of 3; 7 has one of 6 and a bool.
	l := []api.Type{aBool, aText, anInt, structOf(0, 1, 0), pointerTo(3), sliceOf(3), structOf(4, 5, 0)}
	at := uint64(firstAddress)
	good := []uint64{1, 0, 0, 0}
	form := []uint64{2, 0, 0, 0}
	formText := []uint64{1, 1, 65, 0}
	rangeText := []uint64{1, 1, 64, 0}
	farText := []uint64{1, 1 << 40, 3, 2}
	late := []uint64{1, 0, 0, 2}
	for _, c := range []struct {
		to, first, second []uint64
		last              uint64
		want              [4]api.Errno
	}{
		{good, good, good, 0, [4]api.Errno{}},
		{good, good, good, 2, [4]api.Errno{api.ErrForm, api.ErrForm, api.ErrForm, api.ErrForm}},
		{rangeText, form, good, 2, [4]api.Errno{api.ErrForm, api.ErrRange, api.ErrRange, api.ErrRange}},
		{good, rangeText, form, 2, [4]api.Errno{api.ErrForm, api.ErrRange, api.ErrRange, api.ErrRange}},
		{good, good, rangeText, 2, [4]api.Errno{api.ErrForm, api.ErrRange, api.ErrRange, api.ErrRange}},
		{good, form, rangeText, 0, [4]api.Errno{0, api.ErrForm, api.ErrForm, api.ErrForm}},
		{formText, rangeText, rangeText, 0, [4]api.Errno{0, api.ErrForm, api.ErrForm, api.ErrForm}},
		{farText, good, good, 0, [4]api.Errno{0, api.ErrRange, api.ErrRange, api.ErrRange}},
		{late, farText, good, 0, [4]api.Errno{0, api.ErrForm, api.ErrForm, api.ErrForm}},
		{good, late, farText, 0, [4]api.Errno{0, api.ErrForm, api.ErrForm, api.ErrForm}},
		{good, farText, late, 0, [4]api.Errno{0, api.ErrRange, api.ErrRange, api.ErrRange}},
	} {
		heap := wordsAt(at, slices.Concat(c.to, c.first, c.second)...)
		r := []api.Region{heap, wordsAt(8, at, at+32, 2, 2, c.last)}
		for depth, want := range c.want {
			if e := loadByOracle(t, l, r, 8, 6, depth); e != want {
				t.Errorf("%v to the depth %d: error %d, not %d", c, depth, e, want)
			}
		}
		// The pointer itself is ahead of all these, and so is the slice of what is in its elements.
		r[1] = wordsAt(8, 4, at+32, 2, 2, c.last)
		checkLoad(t, l, r, 8, 6, 3, api.Value{}, api.ErrRange)
		r[1] = wordsAt(8, at, at+32, 3, 2, c.last)
		loadByOracle(t, l, r, 8, 6, 3)
		r[1] = wordsAt(8, 0, at+32, 2, 4, c.last)
		checkLoad(t, l, r, 8, 6, 3, api.Value{}, api.ErrRange)
		r[1] = wordsAt(8, 0, at+33, 3, 2, c.last)
		checkLoad(t, l, r, 8, 6, 3, api.Value{}, api.ErrForm)
	}
}

// lively are regions whose words are likely to be right for something.
func lively(r *rand.Rand) []api.Region {
	var l []api.Region
	for _, base := range []uint64{64, firstAddress}[:1+r.IntN(2)] {
		words := make([]uint64, 4+r.IntN(20))
		for i := range words {
			words[i] = among(r, 0, 0, 0, 1, 1, 2, 3, 16, 17, 64, 65,
				64, 64+8*uint64(r.IntN(26)), firstAddress+8*uint64(r.IntN(26)), base+8*uint64(i), base+uint64(r.IntN(200)), r.Uint64())
		}
		l = append(l, wordsAt(base, words...))
	}
	return l
}

func TestLoadByOracle(t *testing.T) {
	r := rule(4)
	met := map[api.Errno]int{}
	cut, long := 0, 0
	for range 30000 {
		l := someTable(r)
		of, depth := r.IntN(len(l)), r.IntN(4)
		regions := lively(r)
		region := among(r, regions...)
		a := region.Base + 8*uint64(r.IntN(len(region.Bytes)/8))
		if r.IntN(10) == 0 {
			a += uint64(r.IntN(8))
		}
		e := loadByOracle(t, l, regions, a, of, depth)
		met[e]++
		if v, _ := Load(l, regions, a, of, depth); oracleIsCut(v) {
			cut++
		} else if len(v.List) > 0 {
			long++
		}
	}
	if met[api.OK] < 5000 || met[api.ErrForm] < 3000 || met[api.ErrRange] < 3000 || cut < 300 || long < 1000 {
		t.Errorf("only %v, %d cut and %d with lists", met, cut, long)
	}
}

// What was stored is damaged at each word, or at some byte, and loaded.
func TestLoadOfDamagedMemory(t *testing.T) {
	r := rule(5)
	met := map[api.Errno]int{}
	for range 1500 {
		l := someTable(r)
		of := r.IntN(len(l))
		v := someValue(r, l, of, mostDepth, 4)
		heap, b, e := oracleStore(l, over(firstAddress), mostHeap, of, v)
		if e != api.OK || len(heap.Bytes) > 300 {
			continue
		}
		for _, target := range [][]byte{b, heap.Bytes} {
			for i := 0; i < len(target); i += among(r, 1, 3, 8) {
				kept := target[i]
				target[i] = among(r, 0, 1, 2, 8, 17, 65, kept+1, kept+8, 255)
				met[loadByOracle(t, l, []api.Region{heap, over(8, b...)}, 8, of, r.IntN(4))]++
				target[i] = kept
			}
		}
	}
	if met[api.OK] < 3000 || met[api.ErrForm] < 1000 || met[api.ErrRange] < 1000 {
		t.Errorf("only %v", met)
	}
}
