package sample

import (
	"bytes"
	"fmt"
	"math"
	"math/rand/v2"
	"reflect"
	"slices"
	"testing"

	"wreckage/api"
	"wreckage/check"
	"wreckage/image"
	"wreckage/script"
)

// The oracle says what the chapter says, in other ways than the program.

// in is an instruction; operands that are left out are 0.
func in(op uint8, operands ...int) api.Instr {
	l := append(operands, 0, 0, 0)
	return api.Instr{Op: op, A: l[0], B: l[1], C: l[2]}
}

func end() api.Instr {
	return in(api.OpReturn, -1)
}

func field(name string, t int) api.Field {
	return api.Field{Name: name, Type: t}
}

// split is x in parts: what it is modulo 32, and v. It counts up with the bits of x.
func split(x int) (kind, v int) {
	if x < 0 {
		return 0, 0
	}
	for i := range 5 {
		kind |= x & (1 << i)
		v |= x >> 5 & (1 << i)
	}
	return kind, v
}

// oracleCode is the code of a number of a recipe, if there are some instructions before.
func oracleCode(x, before int) []api.Instr {
	kind, v := split(x)
	switch kind {
	case 0:
		return []api.Instr{in(api.OpInt, 0, v)}
	case 24:
		return []api.Instr{in(api.OpArg, 0), in(api.OpCall, 0, 1)}
	case 25:
		return []api.Instr{in(api.OpArg, 0), in(api.OpDefer, []int{2, 4, 7}[v%3])}
	case 26:
		return []api.Instr{in(api.OpDefer, 5+v&1)}
	case 27:
		return []api.Instr{in(api.OpArg, 7), in(api.OpGo, 3)}
	case 28:
		return []api.Instr{[]api.Instr{in(api.OpWake, 1, 7), in(api.OpCopy, 7, 0), in(api.OpText, 2, 1), in(api.OpRecover, 1, 0)}[v&3]}
	case 29:
		return []api.Instr{in(api.OpBranch, 1, before+2), in(api.OpPanic, 0)}
	case 30:
		return []api.Instr{in(api.OpBranch, 1, before+2), in(api.OpExit)}
	case 31:
		return []api.Instr{in(api.OpBranch, 1, before+2), in(api.OpBlock, 7)}
	}
	return []api.Instr{map[int]api.Instr{
		1:  in(api.OpAdd, 0, 0, 7),
		2:  in(api.OpSub, 7, 7, 0),
		3:  in(api.OpMul, 0, 0, 7),
		4:  in(api.OpDiv, 0, 0, 7),
		5:  in(api.OpLess, 1, 0, 7),
		6:  in(api.OpNot, 1, 1),
		7:  in(api.OpSame, 1, 0, 7),
		8:  in(api.OpStore, 3, 0),
		9:  in(api.OpLoad, 0, 3),
		10: in(api.OpNew, 3),
		11: in(api.OpZero, 3),
		12: in(api.OpPut, 4, 0, 0),
		13: in(api.OpField, 7, 4, 0),
		14: in(api.OpPut, 4, 2, 3),
		15: in(api.OpNew, 8),
		16: in(api.OpStore, 8, 4),
		17: in(api.OpLoad, 4, 8),
		18: in(api.OpMake, 6, 7),
		19: in(api.OpSet, 6, 7, 0),
		20: in(api.OpAt, 0, 6, 7),
		21: in(api.OpSet, 5, 7, 0),
		22: in(api.OpAt, 0, 5, 7),
		23: in(api.OpLen, 7, 6),
	}[kind]}
}

// opening is the code with which main begins.
func opening() []api.Instr {
	return []api.Instr{
		in(api.OpInt, 0, 5), in(api.OpBool, 1, 1), in(api.OpText, 2, 0), in(api.OpNew, 3), in(api.OpZero, 4),
		in(api.OpZero, 5), in(api.OpInt, 7, 2), in(api.OpMake, 6, 7), in(api.OpNew, 8),
	}
}

// oracleMain is the code of main.
func oracleMain(l []int) []api.Instr {
	code := opening()
	for _, x := range l {
		code = append(code, oracleCode(x, len(code))...)
	}
	return append(code, end())
}

// oracleOthers are the functions behind main, with their tables, which are written out here.
func oracleOthers() []api.Func {
	n, k, on := field("n", 0), field("k", 0), field("on", 1)
	return []api.Func{
		{
			Name: "work", Params: 1, Result: 0, Slots: []api.Field{n, k, on},
			Code: []api.Instr{
				in(api.OpInt, 1, 1), in(api.OpLess, 2, 0, 1), in(api.OpBranch, 2, 8), in(api.OpSub, 1, 0, 1), in(api.OpArg, 1),
				in(api.OpCall, 1, 1), in(api.OpAdd, 1, 1, 0), in(api.OpReturn, 1), in(api.OpReturn, 0), end(),
			},
			Sizes: []api.Run{{From: 0, Value: 0}, {From: 5, Value: 8}, {From: 6, Value: 0}},
			Lives: []api.Run{{From: 0, Value: 1}, {From: 1, Value: 3}, {From: 2, Value: 7}, {From: 9, Value: 0}},
		},
		{
			Name: "late", Params: 1, Result: -1, Slots: []api.Field{n, on, k},
			Code: []api.Instr{
				in(api.OpRecover, 1, 2), in(api.OpBranch, 1, 4), in(api.OpLess, 1, 0, 2), in(api.OpBranch, 1, 5), end(), in(api.OpPanic, 0), end(),
			},
			Sizes: []api.Run{{}},
			Lives: []api.Run{{From: 0, Value: 1}, {From: 1, Value: 7}, {From: 6, Value: 0}},
		},
		{
			Name: "task", Params: 1, Result: -1, Slots: []api.Field{k, on},
			Code:  []api.Instr{in(api.OpYield), in(api.OpWake, 1, 0), in(api.OpBranch, 1, 4), in(api.OpBlock, 0), end()},
			Sizes: []api.Run{{}},
			Lives: []api.Run{{From: 0, Value: 1}, {From: 2, Value: 3}, {From: 4, Value: 0}},
		},
		{
			Name: "fail", Params: 1, Result: -1, Slots: []api.Field{n},
			Code:  []api.Instr{in(api.OpPanic, 0), end()},
			Sizes: []api.Run{{}},
			Lives: []api.Run{{From: 0, Value: 1}, {From: 1, Value: 0}},
		},
		{
			Name: "leave", Params: 0, Result: -1,
			Code:  []api.Instr{in(api.OpExit), end()},
			Sizes: []api.Run{{}}, Lives: []api.Run{{}},
		},
		{
			Name: "quiet", Params: 0, Result: -1, Slots: []api.Field{on, n},
			Code:  []api.Instr{in(api.OpRecover, 0, 1), end()},
			Sizes: []api.Run{{}}, Lives: []api.Run{{}},
		},
		{
			Name: "again", Params: 1, Result: -1, Slots: []api.Field{n, on, k},
			Code:  []api.Instr{in(api.OpRecover, 1, 2), in(api.OpPanic, 0), end()},
			Sizes: []api.Run{{}},
			Lives: []api.Run{{From: 0, Value: 1}, {From: 1, Value: 7}, {From: 2, Value: 0}},
		},
	}
}

func oracleTypes() []api.Type {
	return []api.Type{
		{Kind: api.KindInt},
		{Kind: api.KindBool},
		{Kind: api.KindText},
		{Kind: api.KindPointer, Elem: 0},
		{Kind: api.KindStruct, Fields: []api.Field{field("n", 0), field("on", 1), field("at", 3)}},
		{Kind: api.KindArray, Elem: 0, Len: 3},
		{Kind: api.KindSlice, Elem: 0},
		{Kind: api.KindPointer, Elem: 4},
	}
}

// oracleMake is the image of a recipe, but for the tables of main.
func oracleMake(l []int) api.Image {
	main := api.Func{
		Name: "main", Params: 0, Result: -1, Code: oracleMain(l),
		Slots: []api.Field{
			field("n", 0), field("on", 1), field("s", 2), field("p", 3), field("r", 4), field("a", 5), field("l", 6), field("k", 0), field("q", 7),
		},
	}
	return api.Image{
		Types: oracleTypes(),
		Texts: []string{"late", "task", "boom"},
		Funcs: append([]api.Func{main}, oracleOthers()...),
	}
}

// oracleChain is the chain of some numbers, made from the last function on, but for its tables.
func oracleChain(l []int, recovers []bool) api.Image {
	names := []string{
		"main", "f1", "f2", "f3", "f4", "f5", "f6", "f7", "f8", "f9", "f10",
		"f11", "f12", "f13", "f14", "f15", "f16", "f17", "f18", "f19",
	}
	m := api.Image{Types: []api.Type{{Kind: api.KindInt}, {Kind: api.KindBool}}}
	for i := len(l) - 1; i >= 0; i-- {
		code := []api.Instr{in(api.OpInt, 0, l[i]), in(api.OpPanic, 0), end()}
		if i != len(l)-1 {
			code = slices.Insert(code, 0, in(api.OpDefer, i+1))
		}
		if i != 0 && recovers[i-1] {
			code = slices.Insert(code, 0, in(api.OpRecover, 1, 2))
		}
		m.Funcs = slices.Insert(m.Funcs, 0, api.Func{
			Name: names[i], Params: 0, Result: -1, Code: code,
			Slots: []api.Field{field("n", 0), field("on", 1), field("k", 0)},
		})
	}
	return m
}

// rule gives different numbers, the same ones in each run of the tests.
func rule(seed uint64) *rand.Rand {
	return rand.New(rand.NewPCG(seed, 12))
}

// someRecipe has up to most numbers, of all kinds.
func someRecipe(r *rand.Rand, most int) []int {
	l := make([]int, r.IntN(most+1))
	for i := range l {
		switch r.IntN(8) {
		case 0:
			l[i] = int(r.Uint64())
		case 1:
			l[i] = 24 + r.IntN(8)
		default:
			l[i] = r.IntN(1024)
		}
	}
	return l
}

// sameFunc leaves the tables out, unless the function that is wanted has some.
func sameFunc(f, want api.Func) bool {
	if len(want.Sizes) > 0 && !slices.Equal(f.Sizes, want.Sizes) || len(want.Lives) > 0 && !slices.Equal(f.Lives, want.Lives) {
		return false
	}
	return f.Name == want.Name && f.Params == want.Params && f.Result == want.Result &&
		slices.Equal(f.Slots, want.Slots) && slices.Equal(f.Code, want.Code)
}

func sameType(a, b api.Type) bool {
	return a.Kind == b.Kind && a.Elem == b.Elem && a.Len == b.Len && slices.Equal(a.Fields, b.Fields)
}

func same(m, want api.Image) bool {
	return slices.EqualFunc(m.Types, want.Types, sameType) && slices.Equal(m.Texts, want.Texts) && slices.EqualFunc(m.Funcs, want.Funcs, sameFunc)
}

// told is what is told of an image.
func told(m api.Image) string {
	s := fmt.Sprintf("%v, %q", m.Types, m.Texts)
	for _, f := range m.Funcs {
		s += fmt.Sprintf("\n%+v", f)
	}
	return s[:min(len(s), 4000)]
}

// checkSample checks what is promised of each sample: it is accepted, which its tables are a part of, and has bytes.
func checkSample(t *testing.T, m api.Image) {
	t.Helper()
	if f, i, e := check.Fault(m); f != 0 || i != 0 || e != api.OK {
		t.Fatalf("Fault: %d, %d, error %d, of %s", f, i, e, told(m))
	}
	b, e := image.Encode(m)
	if e != api.OK || len(b) == 0 {
		t.Fatalf("%d bytes, error %d, of %s", len(b), e, told(m))
	}
	if again, e := image.Decode(b); e != api.OK || !same(again, m) {
		t.Fatalf("read again: error %d, %s, not %s", e, told(again), told(m))
	}
}

func checkMake(t *testing.T, l []int) api.Image {
	t.Helper()
	m, e := Make(l)
	if want := oracleMake(l); e != api.OK || !same(m, want) {
		t.Fatalf("Make of %v: error %d, %s, not %s", l, e, told(m), told(want))
	}
	checkSample(t, m)
	return m
}

func checkMakeOfTooMany(t *testing.T, l []int) {
	t.Helper()
	if m, e := Make(l); e != api.ErrMany || !reflect.DeepEqual(m, api.Image{}) {
		t.Errorf("Make of %d numbers: error %d, %s", len(l), e, told(m))
	}
}

func checkChain(t *testing.T, l []int, recovers ...bool) api.Image {
	t.Helper()
	m, e := Chain(l, recovers)
	if want := oracleChain(l, recovers); e != api.OK || !same(m, want) {
		t.Fatalf("Chain of %v and %v: error %d, %s, not %s", l, recovers, e, told(m), told(want))
	}
	checkSample(t, m)
	return m
}

func checkChainError(t *testing.T, l []int, recovers []bool) {
	t.Helper()
	if m, e := Chain(l, recovers); e != api.ErrArg || !reflect.DeepEqual(m, api.Image{}) {
		t.Errorf("Chain of %d numbers and %d truth values: error %d, %s", len(l), len(recovers), e, told(m))
	}
}

func checkRuns(t *testing.T, l []api.Run, want ...api.Run) {
	t.Helper()
	if !slices.Equal(l, want) {
		t.Errorf("%v, not %v", l, want)
	}
}

// All promises

func TestTheChaptersExamples(t *testing.T) {
	main := checkMake(t, nil).Funcs[0]
	if len(main.Code) != 10 {
		t.Errorf("%d instructions", len(main.Code))
	}
	checkRuns(t, main.Sizes, api.Run{})
	checkRuns(t, main.Lives,
		api.Run{From: 0, Value: 0}, api.Run{From: 1, Value: 1}, api.Run{From: 2, Value: 3}, api.Run{From: 3, Value: 7}, api.Run{From: 4, Value: 15},
		api.Run{From: 5, Value: 31}, api.Run{From: 6, Value: 63}, api.Run{From: 7, Value: 191}, api.Run{From: 8, Value: 255}, api.Run{From: 9, Value: 0})

	main = checkMake(t, []int{24}).Funcs[0]
	if len(main.Code) != 12 || main.Code[9] != in(api.OpArg, 0) || main.Code[10] != in(api.OpCall, 0, 1) {
		t.Errorf("%v", main.Code)
	}
	checkRuns(t, main.Sizes, api.Run{From: 0, Value: 0}, api.Run{From: 10, Value: 8}, api.Run{From: 11, Value: 0})

	m := checkChain(t, []int{1, 2, 3}, true, false)
	if !slices.Equal(m.Funcs[0].Code, []api.Instr{in(api.OpDefer, 1), in(api.OpInt, 0, 1), in(api.OpPanic, 0), end()}) {
		t.Errorf("%v", m.Funcs[0].Code)
	}
	if !slices.Equal(m.Funcs[1].Code, []api.Instr{in(api.OpRecover, 1, 2), in(api.OpDefer, 2), in(api.OpInt, 0, 2), in(api.OpPanic, 0), end()}) {
		t.Errorf("%v", m.Funcs[1].Code)
	}
	if !slices.Equal(m.Funcs[2].Code, []api.Instr{in(api.OpInt, 0, 3), in(api.OpPanic, 0), end()}) {
		t.Errorf("%v", m.Funcs[2].Code)
	}
	checkRuns(t, m.Funcs[1].Lives, api.Run{From: 0, Value: 0}, api.Run{From: 1, Value: 6}, api.Run{From: 3, Value: 7}, api.Run{From: 4, Value: 0})
}

// P12.1

func TestRecipesOfOneNumber(t *testing.T) {
	for x := -3; x < 1030; x++ {
		checkMake(t, []int{x})
	}
	for _, x := range []int{1055, 2047, 2048, 65535, 65536, 1 << 31, 1<<32 + 25 + 32*7, 1<<62 + 31, math.MaxInt, math.MaxInt - 3, -32, -1 << 32, math.MinInt, math.MinInt + 31} {
		checkMake(t, []int{x})
	}
}

func TestNegativeNumbersCountAsZero(t *testing.T) {
	want := checkMake(t, []int{0})
	for _, x := range []int{-1, -5, -7, -31, -32, -33, -1000, math.MinInt, math.MinInt + 1} {
		if m := checkMake(t, []int{x}); !same(m, want) {
			t.Errorf("%d: %s", x, told(m))
		}
	}
}

// Each kind stands behind each other one, so that the branches lead to other instructions.
func TestRecipesOfTwoNumbers(t *testing.T) {
	for x := range 32 {
		for y := range 32 {
			checkMake(t, []int{x, y + 64})
		}
	}
}

func TestTheNumberOfNumbers(t *testing.T) {
	for kind := range 32 {
		for _, n := range []int{59, 60} {
			checkMake(t, slices.Repeat([]int{kind + 992}, n))
		}
		checkMakeOfTooMany(t, slices.Repeat([]int{kind}, 61))
	}
	for n := range 61 {
		checkMake(t, make([]int, n, n+9))
	}
	for _, n := range []int{61, 62, 128, 256, 60 + 256, 65536, 1000000} {
		checkMakeOfTooMany(t, make([]int, n))
		checkMakeOfTooMany(t, slices.Repeat([]int{-1}, n))
	}
}

func TestSomeRecipes(t *testing.T) {
	r := rule(1)
	for range 1500 {
		checkMake(t, someRecipe(r, 60))
	}
}

// P12.2

func TestEachExhibit(t *testing.T) {
	recipes := [][]int{1: nil, 2: {6, 29}, 3: {6, 31}, 4: {992, 24}, 5: nil, 6: {27, 27, 27}, 7: nil, 8: nil}
	picks := []int{0, 20, 20, 20, 200, 20, 20, 20, 3}
	limits := slices.Repeat([]api.Limits{{Steps: 1000, Stack: 2048, Heap: 4096, Routines: 4}}, 9)
	limits[4].Stack, limits[5].Heap, limits[6].Routines, limits[7].Steps = 600, 40, 2, 5
	for out := 1; out <= 8; out++ {
		m, s, e := Exhibit(uint8(out))
		if want := oracleMake(recipes[out]); e != api.OK || !same(m, want) {
			t.Errorf("Exhibit of %d: error %d, %s, not %s", out, e, told(m), told(want))
		}
		if s.Limits != limits[out] || !slices.Equal(s.Picks, make([]int, picks[out])) {
			t.Errorf("Exhibit of %d: %v, not %v with %d picks", out, s, limits[out], picks[out])
		}
		checkSample(t, m)
		if e := script.Check(s); e != api.OK {
			t.Errorf("Exhibit of %d: %v, error %d", out, s, e)
		}
	}
}

func TestExhibitsThatAreNotThere(t *testing.T) {
	for out := range 256 {
		if out >= 1 && out <= 8 {
			continue
		}
		m, s, e := Exhibit(uint8(out))
		if e != api.ErrArg || !reflect.DeepEqual(m, api.Image{}) || !reflect.DeepEqual(s, api.Script{}) {
			t.Errorf("Exhibit of %d: %v, error %d, %s", out, s, e, told(m))
		}
	}
}

func TestChainsOfEachLength(t *testing.T) {
	for n := 1; n <= 20; n++ {
		l, recovers := make([]int, n), make([]bool, n-1)
		checkChain(t, l, recovers...)
		for i := range l {
			l[i] = i*i - 7
		}
		checkChain(t, l, recovers...)
		for i := range recovers {
			recovers[i] = true
			checkChain(t, l, recovers...)
		}
		for i := range recovers {
			recovers[i] = false
			checkChain(t, l, recovers...)
		}
	}
}

func TestChainsWithAllTruthValues(t *testing.T) {
	for n := 1; n <= 7; n++ {
		for mask := range 1 << (n - 1) {
			var l []int
			var recovers []bool
			for i := range n {
				l = append(l, 10*i+mask)
				if i > 0 {
					recovers = append(recovers, mask>>(i-1)%2 == 1)
				}
			}
			checkChain(t, l, recovers...)
		}
	}
}

func TestChainsOfAnyNumbers(t *testing.T) {
	numbers := []int{0, 1, -1, 63, 64, -64, -65, 20, 1 << 31, -1 << 31, 1<<32 + 5, math.MaxInt, math.MinInt}
	for _, n := range numbers {
		checkChain(t, []int{n})
		checkChain(t, []int{3, n, 4}, true, false)
	}
	checkChain(t, numbers, make([]bool, 12)...)
	checkChain(t, slices.Repeat([]int{math.MinInt}, 20), slices.Repeat([]bool{true}, 19)...)
}

func TestChainsThatAreNotThere(t *testing.T) {
	sizes := []int{0, 1, 2, 3, 18, 19, 20, 21, 22, 32, 33, 255, 256, 257, 65536, 65537}
	for _, n := range sizes {
		for _, k := range append(sizes, n-1, n+1) {
			if n >= 1 && n <= 20 && k == n-1 || k < 0 {
				continue
			}
			checkChainError(t, make([]int, n), make([]bool, k))
		}
	}
	checkChainError(t, nil, nil)
	checkChainError(t, []int{1}, []bool{false})
	checkChainError(t, []int{1, 2}, nil)
	checkChainError(t, make([]int, 21), make([]bool, 20))
}

// P12.3

func TestRecipesOfTheSameCodeHaveTheSameImage(t *testing.T) {
	r := rule(2)
	for range 300 {
		l := someRecipe(r, 20)
		other := slices.Clone(l)
		for i, x := range other {
			kind, v := split(x)
			switch kind {
			case 0:
				other[i] = []int{x, 32 * v, 32*v + 1024*r.IntN(100)}[r.IntN(3)]
				if v == 0 {
					other[i] = -r.IntN(100)
				}
			case 25:
				other[i] = 25 + 32*(v%3+3*r.IntN(9))
			case 26:
				other[i] = 26 + 32*(v%2+2*r.IntN(15))
			case 28:
				other[i] = 28 + 32*(v%4+4*r.IntN(7))
			default:
				other[i] = kind + 32*r.IntN(1<<20)
			}
		}
		if m, n := checkMake(t, l), checkMake(t, other); !reflect.DeepEqual(m, n) {
			t.Fatalf("of %v: %s, and of %v: %s", l, told(m), other, told(n))
		}
	}
}

func TestALongerRecipeGoesOnWhereAShorterOneEnds(t *testing.T) {
	r := rule(3)
	for range 30 {
		l := someRecipe(r, 60)
		whole := checkMake(t, l)
		for n := range l {
			m := checkMake(t, l[:n])
			code := m.Funcs[0].Code
			if !slices.Equal(code[:len(code)-1], whole.Funcs[0].Code[:len(code)-1]) {
				t.Fatalf("%v, and of %d of them %v", whole.Funcs[0].Code, n, code)
			}
			if !reflect.DeepEqual(m.Funcs[1:], whole.Funcs[1:]) || !reflect.DeepEqual(m.Types, whole.Types) || !reflect.DeepEqual(m.Texts, whole.Texts) {
				t.Fatalf("%s, and of %d of them %s", told(whole), n, told(m))
			}
		}
	}
}

// Different code is told by different bytes.
func TestOtherRecipesHaveOtherImages(t *testing.T) {
	met := map[string]int{}
	for x := range 1024 {
		b, e := image.Encode(checkMake(t, []int{x}))
		if e != api.OK {
			t.Fatalf("error %d", e)
		}
		met[string(b)]++
	}
	// 32 of kind 0, 23 of one text each, 24, 3 of kind 25, 2 of 26, 27, 4 of 28, and 29 to 31.
	if len(met) != 32+23+1+3+2+1+4+3 {
		t.Errorf("%d images", len(met))
	}
}

// R2: arguments are only read, and results share no memory.

func TestArgumentsAreOnlyRead(t *testing.T) {
	l, recovers := []int{992, 24, -5, 29, 77, 88, 99}, []bool{true, false, true, true, true}
	keptL, keptRecovers := slices.Clone(l), slices.Clone(recovers)
	for range 2 {
		checkMake(t, l[:4])
		checkChain(t, l[:4], recovers[:3]...)
		checkChainError(t, l[:4], recovers[:4])
		checkChainError(t, l[:4], recovers[:2])
	}
	if !slices.Equal(l, keptL) || !slices.Equal(recovers, keptRecovers) {
		t.Errorf("the arguments have become %v and %v", l, recovers)
	}
}

// span is memory that a list has, all of its room too. The list is kept, so that no later one gets the same memory.
type span struct {
	from, end uintptr
	list      any
}

func spanOf[E any](l []E) span {
	from := reflect.ValueOf(l).Pointer()
	return span{from, from + uintptr(cap(l))*reflect.TypeFor[E]().Size(), l}
}

// spansOf is the memory of all lists of an image.
func spansOf(m api.Image) []span {
	l := []span{spanOf(m.Types), spanOf(m.Texts), spanOf(m.Funcs)}
	for _, t := range m.Types {
		l = append(l, spanOf(t.Fields))
	}
	for _, f := range m.Funcs {
		l = append(l, spanOf(f.Slots), spanOf(f.Code), spanOf(f.Sizes), spanOf(f.Lives))
	}
	return l
}

func TestResultsShareNoMemory(t *testing.T) {
	l, recovers := []int{27, 24, 31, 1}, []bool{true, true, false}
	all := []span{spanOf(l), spanOf(recovers)}
	for range 2 {
		m, _ := Make(l)
		c, _ := Chain(l, recovers)
		all = append(append(all, spansOf(m)...), spansOf(c)...)
		for out := uint8(1); out <= 8; out++ {
			m, s, _ := Exhibit(out)
			all = append(append(all, spansOf(m)...), spanOf(s.Picks))
		}
	}
	slices.SortFunc(all, func(a, b span) int { return int(a.from) - int(b.from) })
	all = slices.DeleteFunc(all, func(a span) bool { return a.from == a.end })
	if len(all) < 500 {
		t.Errorf("only %d lists", len(all))
	}
	for i, y := range all[1:] {
		if x := all[i]; y.from < x.end {
			t.Errorf("%x to %x and %x to %x are the same memory", x.from, x.end, y.from, y.end)
		}
	}
}

// What is done with a result is not seen in the next one.
func TestNothingIsKept(t *testing.T) {
	for range 2 {
		for out := uint8(1); out <= 8; out++ {
			m, s, e := Exhibit(out)
			if e != api.OK {
				t.Fatalf("error %d", e)
			}
			checkSample(t, m)
			spoil(m)
			for i := range s.Picks {
				s.Picks[i] = 9
			}
		}
		spoil(checkMake(t, []int{25, 57, 89}))
		spoil(checkChain(t, []int{1, 2}, true))
	}
	TestEachExhibit(t)
}

// spoil changes all lists of an image.
func spoil(m api.Image) {
	for i := range m.Types {
		clear(m.Types[i].Fields)
	}
	clear(m.Types)
	clear(m.Texts)
	for _, f := range m.Funcs {
		clear(f.Slots)
		clear(f.Code)
		clear(f.Sizes)
		clear(f.Lives)
	}
	clear(m.Funcs)
}

func TestEmptyAndNilAreTheSame(t *testing.T) {
	if m, n := checkMake(t, nil), checkMake(t, []int{}); !reflect.DeepEqual(m, n) {
		t.Errorf("%s and %s", told(m), told(n))
	}
	if m, n := checkChain(t, []int{5}), checkChain(t, []int{5}, []bool{}...); !reflect.DeepEqual(m, n) {
		t.Errorf("%s and %s", told(m), told(n))
	}
	checkChainError(t, []int{}, []bool{})
}

// R7

func TestAnyArguments(t *testing.T) {
	r := rule(4)
	for range 300 {
		l := make([]int, r.IntN(70))
		for i := range l {
			l[i] = int(r.Uint64())
		}
		if len(l) > 60 {
			checkMakeOfTooMany(t, l)
		} else {
			checkMake(t, l)
		}
		l, recovers := l[:r.IntN(min(len(l), 24)+1)], make([]bool, r.IntN(24))
		for i := range recovers {
			recovers[i] = r.IntN(2) == 0
		}
		if len(l) < 1 || len(l) > 20 || len(recovers) != len(l)-1 {
			checkChainError(t, l, recovers)
			continue
		}
		checkChain(t, l, recovers...)
	}
}

// The same arguments have the same bytes each time.
func TestTheSameAgain(t *testing.T) {
	r := rule(5)
	for range 20 {
		l := someRecipe(r, 60)
		a, _ := image.Encode(checkMake(t, l))
		b, _ := image.Encode(checkMake(t, slices.Clone(l)))
		if !bytes.Equal(a, b) {
			t.Errorf("%v has different bytes", l)
		}
	}
}
