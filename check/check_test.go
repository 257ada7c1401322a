package check

import (
	"fmt"
	"math"
	"reflect"
	"slices"
	"strings"
	"testing"

	"wreckage/api"
	"wreckage/flow"
	"wreckage/image"
	"wreckage/layout"
	"wreckage/ops"
	"wreckage/tables"
)

// told is what is told of an image.
func told(m api.Image) string {
	s := ""
	for _, f := range m.Funcs {
		s += fmt.Sprintf("%+v\n", f)
	}
	if len(s) > 3000 {
		s = s[:3000] + " .."
	}
	return fmt.Sprintf("%d types, %q,\n%s", len(m.Types), m.Texts, s)
}

func checkFault(t *testing.T, m api.Image, f, i int, e api.Errno) {
	t.Helper()
	if g, k, have := Fault(m); g != f || k != i || have != e {
		t.Fatalf("Fault: %d, %d, error %d, not %d, %d, error %d, of %s", g, k, have, f, i, e, told(m))
	}
	if have := Check(m); have != e {
		t.Fatalf("Check: error %d, not %d, of %s", have, e, told(m))
	}
}

func checkAccepted(t *testing.T, m api.Image) {
	t.Helper()
	checkFault(t, m, 0, 0, api.OK)
}

func checkTypes(t *testing.T, m api.Image, f, i int, reads, writes []int, e api.Errno) {
	t.Helper()
	if r, w, have := Types(m, f, i); have != e || !slices.Equal(r, reads) || !slices.Equal(w, writes) {
		t.Fatalf("Types of %d, %d: %v, %v, error %d, not %v, %v, error %d, of %s", f, i, r, w, have, reads, writes, e, told(m))
	}
}

// equal reports whether two functions are the same, if nil is the same as empty.
func equal(f, g api.Func) bool {
	return f.Name == g.Name && f.Params == g.Params && f.Result == g.Result && slices.Equal(f.Slots, g.Slots) &&
		slices.Equal(f.Code, g.Code) && slices.Equal(f.Sizes, g.Sizes) && slices.Equal(f.Lives, g.Lives)
}

func checkTables(t *testing.T, m api.Image, f int, want api.Func, e api.Errno) {
	t.Helper()
	if g, have := Tables(m, f); have != e || !equal(g, want) {
		t.Fatalf("Tables of %d: %+v, error %d, not %+v, error %d, of %s", f, g, have, want, e, told(m))
	}
}

// noIndices are numbers that are no index of n things.
func noIndices(n int) []int {
	return []int{-1, n, n + 1, 32, 200, 256, 1 << 32, -1 << 32, math.MinInt, math.MaxInt}
}

// checkAsTheOracle calls all functions with an image.
func checkAsTheOracle(t *testing.T, m api.Image) (int, api.Errno) {
	t.Helper()
	f, i, e := oracleFault(m)
	checkFault(t, m, f, i, e)
	if bad := image.Check(m); bad != api.OK {
		checkNotValid(t, m, bad)
		return i, e
	}
	for f, g := range m.Funcs {
		want, e := oracleTables(m, f)
		checkTables(t, m, f, want, e)
		for i := range g.Code {
			reads, writes, e := oracleTypes(m, f, i)
			checkTypes(t, m, f, i, reads, writes, e)
		}
		checkTypes(t, m, f, len(g.Code), nil, nil, api.ErrArg)
	}
	checkTypes(t, m, len(m.Funcs), 0, nil, nil, api.ErrArg)
	checkTables(t, m, len(m.Funcs), api.Func{}, api.ErrArg)
	return i, e
}

// checkNotValid calls all functions with an image that is not valid: nothing comes before image.Check's error.
func checkNotValid(t *testing.T, m api.Image, e api.Errno) {
	t.Helper()
	checkFault(t, m, 0, 0, e)
	for _, i := range append(noIndices(0), 0, 1, 2) {
		checkTypes(t, m, i, 0, nil, nil, e)
		checkTypes(t, m, 0, i, nil, nil, e)
		checkTables(t, m, i, api.Func{}, e)
	}
}

// example is the chapter's.
func example() api.Image {
	main := function("main", 0, -1, []api.Field{{Name: "n", Type: 0}},
		op(api.OpInt, 0, 7), op(api.OpArg, 0), op(api.OpCall, -1, 1))
	main.Sizes = []api.Run{{From: 0, Value: 0}, {From: 2, Value: 8}, {From: 3, Value: 0}}
	main.Lives = []api.Run{{From: 0, Value: 0}, {From: 1, Value: 1}, {From: 3, Value: 0}}
	return api.Image{
		Types: []api.Type{{Kind: api.KindInt}},
		Funcs: []api.Func{main, function("f", 1, -1, []api.Field{{Name: "n", Type: 0}})},
	}
}

func TestExampleOfTheChapter(t *testing.T) {
	m := example()
	checkAccepted(t, m)
	checkTables(t, m, 0, m.Funcs[0], api.OK)
	checkTables(t, m, 1, m.Funcs[1], api.OK)
	checkTypes(t, m, 0, 0, nil, []int{0}, api.OK)
	checkTypes(t, m, 0, 1, []int{0}, nil, api.OK)
	checkTypes(t, m, 0, 2, nil, nil, api.OK)
	m.Funcs[0].Code[1] = op(api.OpYield)
	checkFault(t, m, 0, -1, api.ErrState)
	checkTables(t, m, 0, api.Func{}, api.ErrState)
}

// P10.1

// world is an accepted image in which each kind of thing can be spoiled.
func world() api.Image {
	return tabled(api.Image{
		Types: someTypes(),
		Texts: []string{"hi"},
		Funcs: []api.Func{
			function("main", 0, -1, slots(tInt, tBool, tText),
				op(api.OpInt, 0, 7), op(api.OpArg, 0), op(api.OpCall, 1, 1), op(api.OpText, 2, 0)),
			function("test", 1, tBool, slots(tInt, tBool, tStruct),
				op(api.OpLess, 1, 0, 0), op(api.OpBranch, 1, 3), op(api.OpJump, 4), op(api.OpYield), op(api.OpReturn, 1)),
			function("late", 0, -1, slots(tPointer),
				op(api.OpNew, 0), op(api.OpDefer, 2), op(api.OpExit)),
		},
	})
}

func TestEachFault(t *testing.T) {
	checkAccepted(t, world())
	for _, c := range []struct {
		what   string
		f, i   int
		e      api.Errno
		change func(m *api.Image)
	}{
		{"a jump out of the code", 1, -1, api.ErrForm, func(m *api.Image) { m.Funcs[1].Code[2].A = 6 }},
		{"a branch out of the code", 1, -1, api.ErrForm, func(m *api.Image) { m.Funcs[1].Code[1].B = 6 }},
		{"no return at the end", 2, -1, api.ErrForm, func(m *api.Image) { m.Funcs[2].Code[3] = op(api.OpExit) }},
		{"a return of a slot at the end", 1, -1, api.ErrForm, func(m *api.Image) { m.Funcs[1].Code[5] = op(api.OpReturn, 1) }},
		{"main with a parameter", 0, -1, api.ErrType, func(m *api.Image) { m.Funcs[0].Params = 1 }},
		{"main with a result", 0, -1, api.ErrType, func(m *api.Image) { m.Funcs[0].Result = tInt }},
		{"main with a result that has a greater index", 0, -1, api.ErrType, func(m *api.Image) { m.Funcs[0].Result = tBool }},
		{"a slot that is not there", 0, 0, api.ErrRange, func(m *api.Image) { m.Funcs[0].Code[0].A = 3 }},
		{"a slot read that is not there", 1, 0, api.ErrRange, func(m *api.Image) { m.Funcs[1].Code[0].C = 3 }},
		{"a text that is not there", 0, 3, api.ErrRange, func(m *api.Image) { m.Texts = nil }},
		{"a function that is not there", 0, 2, api.ErrRange, func(m *api.Image) { m.Funcs[0].Code[2].B = 3 }},
		{"a deferred function that is not there", 2, 1, api.ErrRange, func(m *api.Image) { m.Funcs[2].Code[1].A = 3 }},
		{"a started function that is not there", 2, 1, api.ErrRange, func(m *api.Image) { m.Funcs[2].Code[1] = op(api.OpGo, 3) }},
		{"an instruction that is not reached", 1, 3, api.ErrNone, func(m *api.Image) { m.Funcs[1].Code[1].B = 2 }},
		{"an int for a bool", 0, 2, api.ErrType, func(m *api.Image) { m.Funcs[0].Code[2].A = 0 }},
		{"a result of a function without one", 1, 4, api.ErrType, func(m *api.Image) { m.Funcs[0].Code[2].A, m.Funcs[1].Result = -1, -1 }},
		{"an argument more", 0, -1, api.ErrState, func(m *api.Image) { m.Funcs[0].Code[3] = op(api.OpArg, 0) }},
		{"an argument less", 0, -1, api.ErrState, func(m *api.Image) { m.Funcs[0].Code[1] = op(api.OpYield) }},
		{"an argument of another type", 0, -1, api.ErrState, func(m *api.Image) { m.Funcs[1].Slots[0].Type = tInt2 }},
		{"a slot that is not written", 0, 1, api.ErrLive, func(m *api.Image) { m.Funcs[0].Code[0] = op(api.OpYield) }},
		{"a slot that is no parameter", 2, 0, api.ErrLive, func(m *api.Image) {
			m.Funcs[2].Code[0] = op(api.OpLoad, 1, 0)
			m.Funcs[2].Slots = slots(tPointer, tInt)
		}},
		{"other sizes", 0, -1, api.ErrOrder, func(m *api.Image) { m.Funcs[0].Sizes[1].Value = 16 }},
		{"sizes from elsewhere on", 0, -1, api.ErrOrder, func(m *api.Image) { m.Funcs[0].Sizes[1].From = 1 }},
		{"sizes that end early", 0, -1, api.ErrOrder, func(m *api.Image) { m.Funcs[0].Sizes = m.Funcs[0].Sizes[:2] }},
		{"sizes at the end", 1, -1, api.ErrOrder, func(m *api.Image) { m.Funcs[1].Sizes = []api.Run{{}, {From: 5, Value: 8}} }},
		{"sizes and no scratch", 2, -1, api.ErrOrder, func(m *api.Image) { m.Funcs[2].Sizes[0].Value = 8 }},
		{"other lives", 2, -1, api.ErrOrder, func(m *api.Image) { m.Funcs[2].Lives[1].Value = 3 }},
		{"fewer lives", 1, -1, api.ErrOrder, func(m *api.Image) { m.Funcs[1].Lives[1].Value = 2 }},
		{"lives of a slot that is not there", 1, -1, api.ErrOrder, func(m *api.Image) { m.Funcs[1].Lives[0].Value |= 1 << 63 }},
		{"lives at the end", 2, -1, api.ErrOrder, func(m *api.Image) { m.Funcs[2].Lives = m.Funcs[2].Lives[:2] }},
	} {
		m := world()
		c.change(&m)
		if c.f > 0 {
			// What another function does to main is told elsewhere.
			m.Funcs[0] = tabled(m).Funcs[0]
		}
		f, i, e := oracleFault(m)
		if f != c.f || i != c.i || e != c.e {
			t.Fatalf("%s: the oracle says %d, %d, error %d", c.what, f, i, e)
		}
		checkAsTheOracle(t, m)
	}
}

// faulty are changes of the function 1 of the world, from the fault that is told first on, and where it is told.
func faulty() []struct {
	i      int
	e      api.Errno
	change func(g *api.Func)
} {
	return []struct {
		i      int
		e      api.Errno
		change func(g *api.Func)
	}{
		{-1, api.ErrForm, func(g *api.Func) { g.Code[2].A = 6 }},
		{0, api.ErrRange, func(g *api.Func) { g.Code[0].B = 9 }},
		{3, api.ErrNone, func(g *api.Func) { g.Code[1].B = 4 }},
		{4, api.ErrType, func(g *api.Func) { g.Code[4].A = 0 }},
		{-1, api.ErrState, func(g *api.Func) { g.Code[3] = op(api.OpArg, 0) }},
		{0, api.ErrLive, func(g *api.Func) { g.Params = 0 }},
		{-1, api.ErrOrder, func(g *api.Func) { g.Lives = []api.Run{{Value: 77}} }},
	}
}

func TestTheFirstFaultOfAFunctionIsTold(t *testing.T) {
	for a, c := range faulty() {
		for b, d := range faulty()[a+1:] {
			if c.i == 3 && d.e == api.ErrState {
				// Both are at the instruction 3.
				continue
			}
			m := world()
			// main has no fault for which the other function's parameters matter.
			m.Funcs[0] = function("main", 0, -1, nil)
			g := &m.Funcs[1]
			d.change(g)
			c.change(g)
			if _, i, e := oracleFault(m); i != c.i || e != c.e {
				t.Fatalf("%d before %d: the oracle says %d, error %d", a, a+1+b, i, e)
			}
			checkFault(t, m, 1, c.i, c.e)
			checkAsTheOracle(t, m)
		}
	}
}

func TestTheFirstFunctionWithAFaultIsTold(t *testing.T) {
	for _, c := range faulty() {
		for _, d := range faulty() {
			m := world()
			m.Funcs[0] = function("main", 0, -1, nil)
			m.Funcs[2] = copied(m).Funcs[1]
			m.Funcs[2].Name = "other"
			c.change(&m.Funcs[1])
			d.change(&m.Funcs[2])
			checkFault(t, m, 1, c.i, c.e)
			m.Funcs[1], m.Funcs[2] = world().Funcs[1], m.Funcs[1]
			m.Funcs[2].Name = "other"
			checkFault(t, m, 2, c.i, c.e)
			m.Funcs[0] = function("main", 0, tInt, nil)
			checkFault(t, m, 0, -1, api.ErrType)
		}
	}
}

// single is an image with a function of some instructions.
func single(l []api.Field, code ...api.Instr) api.Image {
	return tabled(api.Image{
		Types: someTypes(),
		Texts: []string{"hi"},
		Funcs: []api.Func{
			function("main", 0, -1, l, code...),
			function("none", 0, -1, nil),
			function("one", 1, -1, slots(tInt)),
			function("two", 2, tBool, slots(tInt, tText, tBool), op(api.OpBool, 2, 1), op(api.OpReturn, 2)),
		},
	})
}

func TestTheFirstWrongInstructionIsTold(t *testing.T) {
	wrong := []struct {
		x api.Instr
		e api.Errno
	}{
		{op(api.OpInt, 1), api.ErrType},
		{op(api.OpInt, 2), api.ErrRange},
		{op(api.OpText, 0, 1), api.ErrRange},
		{op(api.OpBool, 0), api.ErrType},
		{op(api.OpCall, 0, 4), api.ErrRange},
		{op(api.OpCall, 0, 3), api.ErrType},
	}
	for _, c := range wrong {
		for _, d := range wrong {
			m := single(slots(tInt, tBool), op(api.OpYield), c.x, op(api.OpYield), d.x)
			checkFault(t, m, 0, 1, c.e)
			// What is behind an exit is not reached, which is told in the place of its types, but not of its range.
			m.Funcs[0].Code[0] = op(api.OpExit)
			e := c.e
			if e == api.ErrType {
				e = api.ErrNone
			}
			checkFault(t, m, 0, 1, e)
			checkTypes(t, m, 0, 1, nil, nil, c.e)
			// One that is right is not reached before the other one is wrong.
			m.Funcs[0].Code[1] = op(api.OpYield)
			checkFault(t, m, 0, 1, api.ErrNone)
		}
	}
}

func TestMainHasNoParametersAndNoResult(t *testing.T) {
	for params := range 3 {
		for result := -1; result < tCount; result++ {
			m := single(slots(tInt, tBool), op(api.OpZero, 0), op(api.OpZero, 1))
			m.Funcs[0].Params, m.Funcs[0].Result = params, result
			m = tabled(m)
			if params == 0 && result == -1 {
				checkAsTheOracle(t, m)
				continue
			}
			checkFault(t, m, 0, -1, api.ErrType)
			checkTables(t, m, 0, api.Func{}, api.ErrType)
			// Code that is not valid is told first.
			m.Funcs[0].Code[2] = op(api.OpExit)
			checkFault(t, m, 0, -1, api.ErrForm)
			// Each other function may have them.
			m = single(nil)
			m.Funcs[3] = function("other", params, result, slots(tInt, tBool), op(api.OpZero, 0), op(api.OpZero, 1))
			checkAccepted(t, tabled(m))
		}
	}
}

func TestTheLastInstructionIsReached(t *testing.T) {
	checkAccepted(t, single(nil))
	checkAccepted(t, single(nil, op(api.OpExit)))
	checkAccepted(t, single(nil, op(api.OpJump, 0)))
	checkAccepted(t, single(nil, end()))
	checkFault(t, single(nil, op(api.OpExit), op(api.OpYield)), 0, 1, api.ErrNone)
	checkFault(t, single(nil, op(api.OpJump, 2), op(api.OpYield)), 0, 1, api.ErrNone)
	checkFault(t, single(nil, end(), end()), 0, 1, api.ErrNone)
}

// P10.1: the scratch

// pushes is an image whose main has slots of each type, all live, and goes on with some code from the instruction 16 on.
func pushes(code ...api.Instr) api.Image {
	var zeros []api.Instr
	var types []int
	for s := range tCount {
		zeros = append(zeros, op(api.OpZero, s))
		types = append(types, s)
	}
	return single(slots(types...), append(zeros, code...)...)
}

func TestScratch(t *testing.T) {
	arg := func(s int) api.Instr { return op(api.OpArg, s) }
	one, two := op(api.OpCall, -1, 2), op(api.OpCall, -1, 3)
	yield, exit := op(api.OpYield), op(api.OpExit)
	for _, c := range []struct {
		what string
		e    api.Errno
		code []api.Instr
	}{
		{"a call", api.OK, []api.Instr{arg(tInt), one}},
		{"a call without its argument", api.ErrState, []api.Instr{one}},
		{"two arguments", api.OK, []api.Instr{arg(tInt), arg(tText), two}},
		{"two arguments in the other order", api.ErrState, []api.Instr{arg(tText), arg(tInt), two}},
		{"one of two arguments", api.ErrState, []api.Instr{arg(tText), two}},
		{"the other one of two arguments", api.ErrState, []api.Instr{arg(tInt), two}},
		{"an argument of a type that is alike", api.ErrState, []api.Instr{arg(tInt2), one}},
		{"an argument of as many bytes", api.ErrState, []api.Instr{arg(tPointer), one}},
		{"an argument of as many rounded bytes", api.ErrState, []api.Instr{arg(tBool), one}},
		{"two of an argument's bytes each", api.ErrState, []api.Instr{arg(tText), arg(tInt), two}},
		{"a call among arguments", api.OK, []api.Instr{arg(tInt), arg(tInt), one, arg(tText), two}},
		{"arguments under others", api.OK, []api.Instr{arg(tStruct), arg(tInt), one, exit}},
		{"arguments on top of others", api.ErrState, []api.Instr{arg(tInt), arg(tStruct), one, exit}},
		{"an argument that is left", api.ErrState, []api.Instr{arg(tInt)}},
		{"an argument that is left under others", api.ErrState, []api.Instr{arg(tInt), arg(tInt), one}},
		{"arguments at an exit", api.OK, []api.Instr{arg(tInt), exit}},
		{"arguments at a panic", api.OK, []api.Instr{arg(tNested), arg(tInt), op(api.OpPanic, tText)}},
		{"arguments at a return that is not the last one", api.OK, []api.Instr{arg(tInt), end()}},
		{"a deferred call", api.OK, []api.Instr{arg(tInt), op(api.OpDefer, 2)}},
		{"a deferred call without its argument", api.ErrState, []api.Instr{op(api.OpDefer, 2)}},
		{"a deferred call with another argument", api.ErrState, []api.Instr{arg(tPointer), op(api.OpDefer, 2)}},
		{"a deferred call of a function without parameters", api.OK, []api.Instr{op(api.OpDefer, 1)}},
		{"an argument for a function without parameters", api.ErrState, []api.Instr{arg(tInt), op(api.OpDefer, 1)}},
		{"a goroutine", api.OK, []api.Instr{arg(tInt), op(api.OpGo, 2)}},
		{"a goroutine without its argument", api.ErrState, []api.Instr{op(api.OpGo, 2)}},
		{"a goroutine with another argument", api.ErrState, []api.Instr{arg(tInt2), op(api.OpGo, 2)}},
		{"the same on two ways", api.OK, []api.Instr{op(api.OpBranch, tBool, 19), arg(tInt), op(api.OpJump, 20), arg(tInt), one}},
		{"the same of another slot's type", api.ErrState, []api.Instr{op(api.OpBranch, tBool, 19), arg(tInt), op(api.OpJump, 20), arg(tInt2), one}},
		{"other types on two ways", api.ErrState, []api.Instr{op(api.OpBranch, tBool, 19), arg(tInt2), op(api.OpJump, 20), arg(tPointer), exit}},
		{"other types on two ways, later", api.ErrState, []api.Instr{op(api.OpBranch, tBool, 19), arg(tPointer), op(api.OpJump, 20), arg(tBool), yield, yield, exit}},
		{"other orders on two ways", api.ErrState, []api.Instr{op(api.OpBranch, tBool, 20), arg(tInt), arg(tBool), op(api.OpJump, 22), arg(tBool), arg(tInt), exit}},
		{"more on one way", api.ErrState, []api.Instr{op(api.OpBranch, tBool, 18), arg(tInt), exit}},
		{"more on each round", api.ErrState, []api.Instr{arg(tInt), op(api.OpBranch, tBool, 16), exit}},
		{"less on each round", api.ErrState, []api.Instr{arg(tInt), arg(tInt), one, op(api.OpBranch, tBool, 18), exit}},
		{"a round with as much", api.OK, []api.Instr{arg(tInt), arg(tInt), one, op(api.OpBranch, tBool, 17), one}},
		{"a round with other types", api.ErrState, []api.Instr{arg(tInt), yield, one, arg(tPointer), op(api.OpBranch, tBool, 17), exit}},
		{"a round without an end", api.OK, []api.Instr{arg(tInt), op(api.OpJump, 17)}},
		{"a jump to the last one", api.ErrState, []api.Instr{arg(tInt), op(api.OpBranch, tBool, 19), one}},
		{"a branch to the next one", api.OK, []api.Instr{arg(tInt), op(api.OpBranch, tBool, 18), one}},
		{"what takes a result", api.OK, []api.Instr{arg(tInt), arg(tText), op(api.OpCall, tBool, 3)}},
	} {
		m := pushes(c.code...)
		if c.e == api.OK {
			checkAccepted(t, m)
		} else {
			checkFault(t, m, 0, -1, c.e)
		}
		if _, e := checkAsTheOracle(t, m); e != c.e {
			t.Errorf("%s: the oracle says error %d", c.what, e)
		}
	}
}

// What one way pushes on top of what was there before both is not seen on the other one.
func TestOtherTypesOnTopOfTheSame(t *testing.T) {
	for under := range 20 {
		code := slices.Repeat([]api.Instr{op(api.OpArg, tInt)}, under)
		on := 16 + under
		two := func(a, b int) api.Image {
			return pushes(append(slices.Clip(code), op(api.OpBranch, tBool, on+3), op(api.OpArg, a), op(api.OpJump, on+4), op(api.OpArg, b), op(api.OpYield), op(api.OpExit))...)
		}
		checkAccepted(t, two(tInt2, tInt2))
		checkFault(t, two(tInt2, tPointer), 0, -1, api.ErrState)
		checkFault(t, two(tPointer, tInt2), 0, -1, api.ErrState)
	}
}

// The first instruction can push a parameter.
func TestTheFirstInstructionPushes(t *testing.T) {
	for param := range tCount {
		m := single(nil)
		m.Funcs[1] = function("own", 1, -1, slots(param), op(api.OpArg, 0), op(api.OpCall, -1, 2))
		m = tabled(m)
		if param == tInt {
			checkAccepted(t, m)
		} else {
			checkFault(t, m, 1, -1, api.ErrState)
		}
	}
}

// great is an image with a type of 256 bytes, 5, and one of 249, 6, and with a function of 16 parameters of one of these.
func great(param int, code ...api.Instr) api.Image {
	m := api.Image{
		Types: []api.Type{
			{Kind: api.KindBool},
			{Kind: api.KindInt},
			{Kind: api.KindArray, Elem: 0, Len: 16},
			{Kind: api.KindArray, Elem: 0, Len: 9},
			{Kind: api.KindArray, Elem: 2, Len: 15},
			{Kind: api.KindArray, Elem: 2, Len: 16},
			{Kind: api.KindStruct, Fields: []api.Field{{Name: "a", Type: 4}, {Name: "b", Type: 3}}},
		},
		Funcs: []api.Func{
			function("main", 0, -1, slots(0, 1, 2, 3, 4, 5, 6), append([]api.Instr{
				op(api.OpZero, 0), op(api.OpZero, 1), op(api.OpZero, 2), op(api.OpZero, 3), op(api.OpZero, 4), op(api.OpZero, 5), op(api.OpZero, 6),
			}, code...)...),
			function("all", 16, -1, slots(slices.Repeat([]int{param}, 16)...)),
		},
	}
	return tabled(m)
}

func TestTheScratchHasAtMostMaxStackBytes(t *testing.T) {
	for _, param := range []int{5, 6} {
		args := slices.Repeat([]api.Instr{op(api.OpArg, param)}, 16)
		call := op(api.OpCall, -1, 1)
		m := great(param, append(slices.Clip(args), call)...)
		checkAccepted(t, m)
		if v, _ := tables.At(m.Funcs[0].Sizes, len(m.Funcs[0].Code), 23); v != 4096 {
			t.Errorf("%d bytes", v)
		}
		for more := range 7 {
			// One more, before them or behind them.
			arg := op(api.OpArg, more)
			m := great(param, slices.Concat([]api.Instr{arg}, args, []api.Instr{call, op(api.OpExit)})...)
			checkFault(t, m, 0, -1, api.ErrState)
			m = great(param, append(slices.Clip(args), arg, op(api.OpExit))...)
			checkFault(t, m, 0, -1, api.ErrState)
			// There is room for each in the place of the last one.
			m = great(param, append(slices.Clip(args[:15]), arg, op(api.OpExit))...)
			checkAccepted(t, m)
			checkAsTheOracle(t, m)
		}
	}
}

func TestTheBytesOfTypesAreRounded(t *testing.T) {
	for s, want := range []uint64{8, 8, 16, 16, 240, 256, 256} {
		m := great(5, op(api.OpArg, s), op(api.OpExit))
		checkAccepted(t, m)
		g, e := Tables(m, 0)
		v, _ := tables.At(g.Sizes, len(g.Code), 8)
		if e != api.OK || v != want {
			t.Errorf("%d: %d, error %d, not %d", s, v, e, want)
		}
	}
}

func TestManyArguments(t *testing.T) {
	args := slices.Repeat([]api.Instr{op(api.OpArg, tInt)}, 90)
	calls := slices.Repeat([]api.Instr{op(api.OpCall, -1, 2)}, 90)
	m := pushes(append(args, calls...)...)
	checkAccepted(t, m)
	checkAsTheOracle(t, m)
	m.Funcs[0].Code[50] = op(api.OpArg, tBool)
	checkFault(t, m, 0, -1, api.ErrState)
}

// P10.1: live slots

func TestLiveSlots(t *testing.T) {
	yield, exit := op(api.OpYield), op(api.OpExit)
	for _, c := range []struct {
		what   string
		params int
		i      int // 0: all are live where they are read
		code   []api.Instr
	}{
		{"a parameter", 1, 0, []api.Instr{yield, op(api.OpBlock, 0)}},
		{"a slot that is no parameter", 1, 1, []api.Instr{yield, op(api.OpBlock, 1)}},
		{"the second parameter", 2, 0, []api.Instr{yield, op(api.OpBlock, 1)}},
		{"a slot that was written", 0, 0, []api.Instr{op(api.OpInt, 1), op(api.OpBlock, 1)}},
		{"another slot that was written", 0, 1, []api.Instr{op(api.OpInt, 1), op(api.OpBlock, 0)}},
		{"a slot that is written and read", 0, 1, []api.Instr{yield, op(api.OpCopy, 1, 1)}},
		{"a slot that is written later", 0, 1, []api.Instr{yield, op(api.OpBlock, 1), op(api.OpInt, 1)}},
		{"one of two that are read", 1, 1, []api.Instr{yield, op(api.OpAdd, 2, 0, 1)}},
		{"the other one of two that are read", 1, 1, []api.Instr{yield, op(api.OpAdd, 2, 1, 0)}},
		{"the first one that is not live", 0, 2, []api.Instr{yield, yield, op(api.OpBlock, 2), op(api.OpBlock, 1)}},
		{"both slots of a recover", 0, 0, []api.Instr{op(api.OpRecover, 3, 1), op(api.OpBranch, 3, 2), op(api.OpBlock, 1)}},
		{"the slot of a call", 0, 0, []api.Instr{op(api.OpCall, 1, 1), op(api.OpBlock, 1)}},
		{"a call without a slot", 0, 1, []api.Instr{op(api.OpCall, -1, 1), op(api.OpBlock, 1)}},
		{"a wake writes", 1, 0, []api.Instr{op(api.OpWake, 3, 0), op(api.OpBranch, 3, 2)}},
		{"a put reads", 1, 1, []api.Instr{yield, op(api.OpPut, 4, 0, 0)}},
		{"a put does not write", 1, 0, []api.Instr{op(api.OpZero, 4), op(api.OpPut, 4, 0, 0), op(api.OpField, 0, 4, 0)}},
		{"a set reads", 1, 1, []api.Instr{yield, op(api.OpSet, 5, 0, 0)}},
		{"a store reads its pointer", 1, 1, []api.Instr{yield, op(api.OpStore, 6, 0)}},
		{"an argument", 0, 1, []api.Instr{yield, op(api.OpArg, 0), exit}},
		{"what is returned", 0, 1, []api.Instr{yield, op(api.OpReturn, 0)}},
		{"what a panic has", 0, 1, []api.Instr{yield, op(api.OpPanic, 0)}},
		{"a branch", 1, 1, []api.Instr{yield, op(api.OpBranch, 3, 2)}},
		{"written on both ways", 0, 0, []api.Instr{op(api.OpBool, 3), op(api.OpBranch, 3, 4), op(api.OpInt, 0), op(api.OpJump, 5), op(api.OpZero, 0), op(api.OpBlock, 0)}},
		{"written on one way", 0, 5, []api.Instr{op(api.OpBool, 3), op(api.OpBranch, 3, 4), op(api.OpInt, 0), op(api.OpJump, 5), yield, op(api.OpBlock, 0)}},
		{"written on the other way", 0, 5, []api.Instr{op(api.OpBool, 3), op(api.OpBranch, 3, 4), yield, op(api.OpJump, 5), op(api.OpInt, 0), op(api.OpBlock, 0)}},
		{"written on the only way that goes on", 0, 0, []api.Instr{op(api.OpBool, 3), op(api.OpBranch, 3, 3), exit, op(api.OpInt, 0), op(api.OpBlock, 0)}},
		{"written later in a round", 0, 1, []api.Instr{op(api.OpBool, 3), op(api.OpBlock, 0), op(api.OpInt, 0), op(api.OpBranch, 3, 1)}},
		{"written before a round", 0, 0, []api.Instr{op(api.OpBool, 3), op(api.OpInt, 0), op(api.OpBlock, 0), op(api.OpBranch, 3, 2)}},
		{"a round to the first instruction", 0, 1, []api.Instr{op(api.OpBool, 3), op(api.OpCopy, 0, 1), op(api.OpInt, 1), op(api.OpJump, 0)}},
	} {
		m := single(nil)
		l := slots(tInt, tInt, tInt, tBool, tStruct, tArray, tPointer)
		m.Funcs[1] = function("none", 0, tInt, slots(tInt), op(api.OpInt, 0), op(api.OpReturn, 0))
		m.Funcs[2] = function("live", c.params, tInt, l, c.code...)
		m = tabled(m)
		if c.i == 0 {
			checkAccepted(t, m)
		} else {
			checkFault(t, m, 2, c.i, api.ErrLive)
		}
		if i, e := checkAsTheOracle(t, m); i != c.i || (e == api.OK) != (c.i == 0) {
			t.Errorf("%s: the oracle says %d, error %d", c.what, i, e)
		}
	}
	// At the first instruction, too.
	checkFault(t, single(slots(tInt), op(api.OpBlock, 0)), 0, 0, api.ErrLive)
}

// P10.2

// eachInstr gives out all valid instructions with some operands; A may also be -1.
func eachInstr(operands ...int) func(yield func(x api.Instr) bool) {
	return func(yield func(x api.Instr) bool) {
		for o := api.OpInt; o <= api.OpReturn; o++ {
			for _, a := range append([]int{-1}, operands...) {
				for _, b := range operands {
					for _, c := range operands {
						x := op(o, a, b, c)
						if ops.Check(x) == api.OK && !yield(x) {
							return
						}
					}
				}
			}
		}
	}
}

// sixteen has a slot of each type, and functions of all sorts; the function 1 is the one with the instruction.
func sixteen(result int) api.Image {
	var types []int
	for s := range tCount {
		types = append(types, s)
	}
	m := api.Image{Types: someTypes(), Texts: slices.Repeat([]string{"t"}, 32)}
	m.Funcs = []api.Func{function("main", 0, -1, nil), function("own", 0, result, slots(types...))}
	for i := range 30 {
		g := function(fmt.Sprintf("f%d", i), 0, -1, slots(tInt, tInt, tInt))
		switch {
		case i < tCount:
			g.Slots[0].Type, g.Params = i, 1
		case i == 16:
			g.Params = 2
		case i == 17:
			g.Params, g.Result = 1, tInt
		case i > 18:
			g.Result = i - 19
		}
		m.Funcs = append(m.Funcs, g)
	}
	return m
}

func TestTypesOfEachInstruction(t *testing.T) {
	right, wrong := map[uint8]int{}, map[uint8]int{}
	m := sixteen(tBool)
	var operands []int
	for n := range 32 {
		operands = append(operands, n)
	}
	for x := range eachInstr(operands...) {
		m.Funcs[1].Code[0] = x
		reads, writes, e := oracleTypes(m, 1, 0)
		checkTypes(t, m, 1, 0, reads, writes, e)
		switch e {
		case api.OK:
			right[x.Op]++
		case api.ErrType:
			wrong[x.Op]++
		default:
			t.Fatalf("error %d of %+v", e, x)
		}
	}
	for o := api.OpInt; o <= api.OpReturn; o++ {
		any := slices.Contains([]uint8{api.OpZero, api.OpJump, api.OpArg, api.OpExit, api.OpYield}, o)
		if right[o] == 0 || any != (wrong[o] == 0) {
			t.Errorf("operation %d: %d are right, and %d not", o, right[o], wrong[o])
		}
	}
}

func TestTypesOfReturns(t *testing.T) {
	for result := -1; result < tCount; result++ {
		m := sixteen(result)
		for slot := range tCount {
			m.Funcs[1].Code[0] = op(api.OpReturn, slot)
			if slot == result {
				checkTypes(t, m, 1, 0, []int{slot}, nil, api.OK)
			} else {
				checkTypes(t, m, 1, 0, nil, nil, api.ErrType)
			}
		}
		m.Funcs[1].Code[0] = end()
		checkTypes(t, m, 1, 0, nil, nil, api.OK)
	}
}

// The example of each operation, by hand.
func TestTypesInTheOrderOfSlots(t *testing.T) {
	m := sixteen(tBool)
	for _, c := range []struct {
		x             api.Instr
		reads, writes []int
	}{
		{op(api.OpInt, tInt2, -5), nil, []int{tInt2}},
		{op(api.OpText, tText2, 31), nil, []int{tText2}},
		{op(api.OpCopy, tNested, tNested), []int{tNested}, []int{tNested}},
		{op(api.OpAdd, tInt, tInt2, tInt), []int{tInt2, tInt}, []int{tInt}},
		{op(api.OpLess, tBool2, tInt, tInt2), []int{tInt, tInt2}, []int{tBool2}},
		{op(api.OpSame, tBool, tPointer2, tPointer2), []int{tPointer2, tPointer2}, []int{tBool}},
		{op(api.OpNot, tBool, tBool2), []int{tBool2}, []int{tBool}},
		{op(api.OpField, tPointer, tStruct2, 2), []int{tStruct2}, []int{tPointer}},
		{op(api.OpPut, tNested, 1, tStruct), []int{tNested, tStruct}, nil},
		{op(api.OpNew, tList), nil, []int{tList}},
		{op(api.OpLoad, tStruct, tList), []int{tList}, []int{tStruct}},
		{op(api.OpStore, tList, tStruct), []int{tList, tStruct}, nil},
		{op(api.OpMake, tBools, tInt2), []int{tInt2}, []int{tBools}},
		{op(api.OpAt, tBool, tNine, tInt2), []int{tNine, tInt2}, []int{tBool}},
		{op(api.OpSet, tSlice, tInt2, tInt), []int{tSlice, tInt2, tInt}, nil},
		{op(api.OpLen, tInt2, tText), []int{tText}, []int{tInt2}},
		{op(api.OpJump, 199), nil, nil},
		{op(api.OpBranch, tBool2, 199), []int{tBool2}, nil},
		{op(api.OpArg, tNested), []int{tNested}, nil},
		{op(api.OpCall, tStruct, 21+tStruct), nil, []int{tStruct}},
		{op(api.OpCall, -1, 0), nil, nil},
		{op(api.OpPanic, tText2), []int{tText2}, nil},
		{op(api.OpRecover, tBool, tInt2), nil, []int{tBool, tInt2}},
		{op(api.OpBlock, tInt2), []int{tInt2}, nil},
		{op(api.OpWake, tBool, tInt2), []int{tInt2}, []int{tBool}},
		{op(api.OpReturn, tBool), []int{tBool}, nil},
	} {
		m.Funcs[1].Code[0] = c.x
		checkTypes(t, m, 1, 0, c.reads, c.writes, api.OK)
	}
}

func TestTypesNeedTheRange(t *testing.T) {
	ranges := map[api.Errno]int{}
	for _, have := range []struct{ slots, texts, funcs int }{{0, 0, 1}, {1, 1, 2}, {2, 3, 4}, {16, 0, 1}, {3, 2, 3}, {15, 31, 31}} {
		m := sixteen(tInt)
		m.Funcs = append(m.Funcs[1:2], m.Funcs[2:have.funcs+1]...)
		m.Funcs[0].Slots, m.Texts = m.Funcs[0].Slots[:have.slots], m.Texts[:have.texts]
		for x := range eachInstr(0, 1, 2, 3, 4, 6, 14, 15, 30, 31) {
			m.Funcs[0].Code[0] = x
			reads, writes, e := oracleTypes(m, 0, 0)
			checkTypes(t, m, 0, 0, reads, writes, e)
			ranges[e]++
		}
	}
	if ranges[api.OK] < 300 || ranges[api.ErrRange] < 10000 || ranges[api.ErrType] < 1000 {
		t.Error(ranges)
	}
	// Slots of other functions, and operands that are something else, do not matter.
	m := sixteen(tInt)
	m.Funcs[1].Code[0] = op(api.OpJump, 199)
	checkTypes(t, m, 1, 0, nil, nil, api.OK)
	m.Funcs[0].Code[0] = op(api.OpReturn, 0)
	checkTypes(t, m, 0, 0, nil, nil, api.ErrRange)
	m.Funcs[1].Code[0] = op(api.OpPut, tStruct, 7, tInt)
	checkTypes(t, m, 1, 0, nil, nil, api.ErrType)
	m.Funcs[1].Code[0] = op(api.OpInt, tInt, 1<<40)
	checkTypes(t, m, 1, 0, nil, []int{tInt}, api.OK)
}

func TestTypesOfWhatIsNotThere(t *testing.T) {
	m := world()
	for _, f := range noIndices(len(m.Funcs)) {
		for _, i := range append(noIndices(0), 0) {
			checkTypes(t, m, f, i, nil, nil, api.ErrArg)
		}
		checkTables(t, m, f, api.Func{}, api.ErrArg)
	}
	for f := range m.Funcs {
		for _, i := range noIndices(len(m.Funcs[f].Code)) {
			checkTypes(t, m, f, i, nil, nil, api.ErrArg)
		}
	}
}

// Types asks for no more than the chapter says.
func TestTypesOfFunctionsWithFaults(t *testing.T) {
	for _, c := range faulty() {
		if c.e == api.ErrRange || c.e == api.ErrType {
			continue
		}
		m := world()
		c.change(&m.Funcs[1])
		checkTypes(t, m, 0, 2, nil, []int{tBool}, api.OK)
		checkTypes(t, m, 1, 0, []int{tInt, tInt}, []int{tBool}, api.OK)
		checkTypes(t, m, 1, 4, []int{tBool}, nil, api.OK)
	}
	// Neither the code nor the function have to be right.
	m := single(slots(tInt))
	m.Funcs[0].Params, m.Funcs[0].Result = 1, tInt
	m.Funcs[0].Code[0] = op(api.OpReturn, 0)
	checkTypes(t, m, 0, 0, []int{tInt}, nil, api.OK)
}

// P10.3

func TestTablesOfFunctionsWithFaults(t *testing.T) {
	for _, c := range faulty() {
		m := world()
		m.Funcs[0] = function("main", 0, tInt, nil)
		c.change(&m.Funcs[1])
		if c.e == api.ErrOrder {
			checkTables(t, m, 1, world().Funcs[1], api.OK)
		} else {
			checkTables(t, m, 1, api.Func{}, c.e)
		}
		// The faults of another function do not matter.
		checkTables(t, m, 0, api.Func{}, api.ErrType)
		checkTables(t, m, 2, world().Funcs[2], api.OK)
	}
}

func TestTablesOfTheSameCode(t *testing.T) {
	want := world()
	for f := range want.Funcs {
		m := world()
		for _, l := range [][]api.Run{{{Value: 1}}, {{Value: math.MaxUint64}, {From: 1, Value: 3}}, m.Funcs[f].Sizes, m.Funcs[f].Lives} {
			m.Funcs[f].Sizes, m.Funcs[f].Lives = l, l
			checkTables(t, m, f, want.Funcs[f], api.OK)
		}
	}
	// By hand.
	main := want.Funcs[0]
	if !slices.Equal(main.Sizes, []api.Run{{}, {From: 2, Value: 8}, {From: 3}}) {
		t.Error(main.Sizes)
	}
	if !slices.Equal(main.Lives, []api.Run{{}, {From: 1, Value: 1}, {From: 3, Value: 3}, {From: 4}}) {
		t.Error(main.Lives)
	}
}

// The last instruction has no scratch and no live slots, even if no way leads to it.
func TestTablesWhereNoWayLeads(t *testing.T) {
	m := single(nil)
	m.Funcs[2] = function("one", 1, -1, slots(tInt, tNested), op(api.OpZero, 1), op(api.OpArg, 1), op(api.OpExit))
	want := m.Funcs[2]
	want.Sizes = []api.Run{{}, {From: 2, Value: 40}, {From: 3}}
	want.Lives = []api.Run{{Value: 1}, {From: 1, Value: 3}, {From: 3}}
	checkTables(t, m, 2, want, api.OK)
	m.Funcs[2] = want
	checkAccepted(t, m)
}

// All of it

func TestAllIsAsTheChapterSays(t *testing.T) {
	r := rule(1)
	found := map[string]int{}
	for range 800 {
		m := someImage(r)
		if _, _, e := oracleFault(m); e != api.OK {
			t.Fatalf("error %d of %s", e, told(m))
		}
		checkAsTheOracle(t, m)
		for range 3 {
			n := spoiled(r, m)
			if r.IntN(4) == 0 && image.Check(n) == api.OK {
				n = spoiled(r, n)
			}
			i, e := checkAsTheOracle(t, n)
			found[fmt.Sprint(i < 0, e)]++
		}
	}
	for _, s := range []string{"false wreckage: error 00", "false wreckage: error 08", "true wreckage: error 12", "true wreckage: error 30", "false wreckage: error 16",
		"false wreckage: error 06", "false wreckage: error 30", "true wreckage: error 36", "false wreckage: error 38", "true wreckage: error 32"} {
		if found[s] < 20 {
			t.Errorf("only %d times %q", found[s], s)
		}
	}
	if len(found) != 10 {
		t.Error(found)
	}
}

func TestImagesThatAreNotValid(t *testing.T) {
	for _, change := range []func(m *api.Image){
		func(m *api.Image) { *m = api.Image{} },
		func(m *api.Image) { m.Funcs = nil },
		func(m *api.Image) { m.Types[0].Kind = 0 },
		func(m *api.Image) { m.Types[tPointer].Elem = 99 },
		func(m *api.Image) { m.Types = append(m.Types, api.Type{Kind: api.KindArray, Elem: tNested, Len: 7}) },
		func(m *api.Image) { m.Texts[0] = strings.Repeat("t", 65) },
		func(m *api.Image) { m.Funcs[1].Name = "main" },
		func(m *api.Image) { m.Funcs[1].Name = "" },
		func(m *api.Image) { m.Funcs[1].Params = 4 },
		func(m *api.Image) { m.Funcs[1].Params = -1 },
		func(m *api.Image) { m.Funcs[1].Result = -2 },
		func(m *api.Image) { m.Funcs[1].Result = tCount },
		func(m *api.Image) { m.Funcs[1].Slots[0].Type = -1 },
		func(m *api.Image) { m.Funcs[1].Code = nil },
		func(m *api.Image) { m.Funcs[1].Code[0].Op = 35 },
		func(m *api.Image) { m.Funcs[1].Code[0].A = -1 },
		func(m *api.Image) { m.Funcs[2].Code[1].A = 32 },
		func(m *api.Image) { m.Funcs[1].Sizes = nil },
		func(m *api.Image) { m.Funcs[1].Lives = []api.Run{{From: 1}} },
		func(m *api.Image) { m.Funcs[2].Lives = append(m.Funcs[2].Lives, api.Run{From: 200, Value: 1}) },
	} {
		m := world()
		change(&m)
		checkNotValid(t, m, api.ErrBad)
	}
}

// ofPairs is an image with some functions whose tables have about two runs for each two instructions, and so many texts' bytes.
func ofPairs(funcs, instrs, bytes int) api.Image {
	m := single(nil)
	pairs := slices.Repeat([]api.Instr{op(api.OpArg, 0), op(api.OpCall, -1, 2)}, instrs/2)
	for i := range funcs {
		m.Funcs = append(m.Funcs, function(fmt.Sprintf("p%d", i), 1, -1, slots(tInt), pairs...))
	}
	for ; bytes > 0; bytes -= min(bytes, 65) {
		m.Texts = append(m.Texts, strings.Repeat("t", min(bytes, 65)-1))
	}
	return m
}

func bytesOf(t *testing.T, m api.Image) int {
	b, e := image.Encode(m)
	if e != api.OK {
		t.Fatalf("error %d", e)
	}
	return len(b)
}

func TestImagesHaveAtMostMaxImageBytes(t *testing.T) {
	m := tabled(ofPairs(21, 198, 0))
	left := 20000 - bytesOf(t, m)
	if left < 0 || left > 2000 {
		t.Fatalf("%d bytes are left", left)
	}
	m = tabled(ofPairs(21, 198, left))
	if n := bytesOf(t, m); n != 20000 {
		t.Fatalf("%d bytes", n)
	}
	checkAccepted(t, m)
	m.Texts[1] += "t"
	checkNotValid(t, m, api.ErrBad)
	m = tabled(ofPairs(21, 198, left))
	m.Texts = append(m.Texts, "")
	checkNotValid(t, m, api.ErrMany)
	// Each of these functions has its tables, but there is no room for all of them.
	m = ofPairs(28, 198, 0)
	checkFault(t, m, 4, -1, api.ErrOrder)
	for f := range m.Funcs {
		want, _ := oracleTables(m, f)
		checkTables(t, m, f, want, api.OK)
	}
	checkNotValid(t, tabled(m), api.ErrMany)
}

// P10.4

// checkWalk walks along the code of an accepted function, and sees what its tables say on the way.
func checkWalk(t *testing.T, m api.Image, f int, choose func(n int) int) {
	t.Helper()
	g := m.Funcs[f]
	n := len(g.Code)
	written := uint64(1<<g.Params - 1)
	var pushed []int
	for i, steps := 0, 0; steps < 100; steps++ {
		bytes := 0
		for _, p := range pushed {
			size, _, _ := layout.Size(m.Types, p)
			size, _ = layout.Round(size)
			bytes += size
		}
		if v, e := tables.At(g.Sizes, n, i); e != api.OK || v != uint64(bytes) {
			t.Fatalf("%d bytes, and the table of %d says %d at %d of %s", bytes, f, v, i, told(m))
		}
		if v, e := tables.At(g.Lives, n, i); e != api.OK || v&^written != 0 || i == n-1 && v != 0 {
			t.Fatalf("%b written, and the table of %d says %b at %d of %s", written, f, v, i, told(m))
		}
		x := g.Code[i]
		reads, writes, _ := ops.Slots(x)
		for _, s := range reads {
			if written>>s%2 == 0 {
				t.Fatalf("%d reads %d, which nothing wrote, at %d of %s", f, s, i, told(m))
			}
		}
		for _, s := range writes {
			written |= 1 << s
		}
		if types, _, e := Types(m, f, i); e != api.OK {
			t.Fatalf("Types of %d, %d: error %d of %s", f, i, e, told(m))
		} else if x.Op == api.OpArg {
			pushed = append(pushed, types...)
		}
		if h := map[uint8]int{api.OpCall: x.B, api.OpDefer: x.A, api.OpGo: x.A}[x.Op]; x.Op >= api.OpCall && x.Op <= api.OpGo {
			params := typesOf(m.Funcs[h].Slots[:m.Funcs[h].Params])
			from := len(pushed) - len(params)
			if from < 0 || !slices.Equal(pushed[from:], params) {
				t.Fatalf("%v pushed, and not %v, at %d, %d of %s", pushed, params, f, i, told(m))
			}
			pushed = pushed[:from]
		}
		next, _ := flow.Next(g.Code, i)
		if len(next) == 0 {
			return
		}
		i = next[choose(len(next))]
	}
}

func TestWalksAlongAcceptedCode(t *testing.T) {
	r := rule(2)
	walked := 0
	for range 1000 {
		m := someImage(r)
		for range 2 {
			if Check(m) == api.OK {
				walked++
				for f := range m.Funcs {
					checkWalk(t, m, f, r.IntN)
					checkWalk(t, m, f, r.IntN)
				}
			}
			m = spoiled(r, m)
		}
	}
	if walked < 1100 {
		t.Errorf("only %d", walked)
	}
}

func TestRightFunctionsAreAcceptedWithTheirTables(t *testing.T) {
	r := rule(3)
	for range 500 {
		m := someImage(r)
		want := copied(m)
		for f := range m.Funcs {
			m.Funcs[f].Sizes, m.Funcs[f].Lives = []api.Run{{Value: r.Uint64()}}, []api.Run{{Value: r.Uint64()}}
		}
		checkFault(t, m, 0, -1, api.ErrOrder)
		for f := range m.Funcs {
			g, e := Tables(m, f)
			if e != api.OK || !equal(g, want.Funcs[f]) {
				t.Fatalf("%+v, error %d, not %+v", g, e, want.Funcs[f])
			}
			m.Funcs[f] = g
		}
		checkAccepted(t, m)
	}
}

func TestATextOrAFunctionMore(t *testing.T) {
	r := rule(4)
	for range 500 {
		m := someImage(r)
		for i := range 4 {
			if i%2 == 0 {
				m.Texts = append(slices.Clone(m.Texts), pick(r, "", "more", "\xff"))
			} else {
				m.Funcs = append(slices.Clone(m.Funcs), function(fmt.Sprintf("more%d", i), 0, -1, slots(tInt), op(api.OpZero, 0), op(api.OpDefer, len(m.Funcs))))
				m = tabled(m)
			}
			checkAccepted(t, m)
		}
	}
}

// R2 and R3: arguments are only read, results share no memory, and nil is as good as empty.

func TestNilIsAsGoodAsEmpty(t *testing.T) {
	m := api.Image{Types: []api.Type{}, Texts: []string{}, Funcs: []api.Func{function("m", 0, -1, []api.Field{})}}
	n := api.Image{Funcs: []api.Func{function("m", 0, -1, nil)}}
	for _, m := range []api.Image{m, n} {
		checkAccepted(t, m)
		checkTypes(t, m, 0, 0, nil, nil, api.OK)
		checkTables(t, m, 0, m.Funcs[0], api.OK)
	}
}

// roomy is a list with room behind it, in which there is something.
func roomy[T any](l []T, more ...T) []T {
	return append(slices.Clone(l), more...)[:len(l)]
}

// roomyImage is an image with room behind all of its lists.
func roomyImage(m api.Image) api.Image {
	m = copied(m)
	m.Types = roomy(m.Types, api.Type{Kind: 77})
	m.Texts = roomy(m.Texts, "room")
	m.Funcs = roomy(m.Funcs, function("room", 0, -1, nil))
	for i := range m.Types {
		m.Types[i].Fields = roomy(m.Types[i].Fields, api.Field{Name: "room"})
	}
	for i := range m.Funcs {
		f := &m.Funcs[i]
		f.Slots = roomy(f.Slots, api.Field{Name: "room"})
		f.Code = roomy(f.Code, op(77), op(78))
		f.Sizes = roomy(f.Sizes, api.Run{From: 77}, api.Run{From: 78})
		f.Lives = roomy(f.Lives, api.Run{From: 77}, api.Run{From: 78})
	}
	return m
}

// all is an image with all that is behind the lengths of its lists.
func all(m api.Image) api.Image {
	m.Types, m.Texts, m.Funcs = m.Types[:cap(m.Types)], m.Texts[:cap(m.Texts)], m.Funcs[:cap(m.Funcs)]
	m = copied(m)
	for i := range m.Types {
		t := &m.Types[i]
		t.Fields = t.Fields[:cap(t.Fields)]
	}
	for i := range m.Funcs {
		f := &m.Funcs[i]
		f.Slots, f.Code, f.Sizes, f.Lives = f.Slots[:cap(f.Slots)], f.Code[:cap(f.Code)], f.Sizes[:cap(f.Sizes)], f.Lives[:cap(f.Lives)]
	}
	return m
}

func TestArgumentsAreOnlyRead(t *testing.T) {
	images := []api.Image{world(), example(), pushes(op(api.OpArg, tInt), op(api.OpBranch, tBool, 18), op(api.OpCall, -1, 2))}
	for _, c := range faulty() {
		m := world()
		c.change(&m.Funcs[1])
		images = append(images, m)
	}
	for _, m := range images {
		m = roomyImage(m)
		kept := all(m)
		for range 2 {
			checkAsTheOracle(t, m)
		}
		if !reflect.DeepEqual(all(m), kept) {
			t.Errorf("the image has become %s", told(m))
		}
	}
}

// span is memory that a list has, all of its room too. The list is kept, so that no later one gets the same memory.
type span struct {
	from, end uintptr
	list      any
}

// spans are those of all lists in some value.
func spans(v reflect.Value) []span {
	var l []span
	switch v.Kind() {
	case reflect.Struct:
		for i := range v.NumField() {
			l = append(l, spans(v.Field(i))...)
		}
	case reflect.Slice:
		if size := uintptr(v.Cap()) * v.Type().Elem().Size(); size > 0 {
			l = append(l, span{v.Pointer(), v.Pointer() + size, v})
		}
		for i := range v.Len() {
			l = append(l, spans(v.Index(i))...)
		}
	}
	return l
}

func TestResultsShareNoMemory(t *testing.T) {
	m := roomyImage(world())
	l := spans(reflect.ValueOf(m))
	for range 2 {
		for f := range m.Funcs {
			g, e := Tables(m, f)
			if e != api.OK {
				t.Fatalf("error %d", e)
			}
			l = append(l, spans(reflect.ValueOf(g))...)
			for i := range m.Funcs[f].Code {
				reads, writes, _ := Types(m, f, i)
				l = append(l, spans(reflect.ValueOf(reads))...)
				l = append(l, spans(reflect.ValueOf(writes))...)
			}
		}
	}
	for i, s := range l {
		for _, u := range l[:i] {
			if s.from < u.end && u.from < s.end {
				t.Errorf("%x to %x and %x to %x are the same memory", s.from, s.end, u.from, u.end)
			}
		}
	}
}

// R7

func TestAnyArguments(t *testing.T) {
	r := rule(5)
	number := func() int { return pick(r, -1, 0, 0, 1, 2, r.IntN(300)-20, math.MinInt, math.MaxInt) }
	fields := func() []api.Field {
		var l []api.Field
		for range r.IntN(4) {
			l = append(l, api.Field{Name: pick(r, "", "a", "b", "c"), Type: number()})
		}
		return l
	}
	runs := func() []api.Run {
		l := []api.Run{{}}
		for range r.IntN(3) {
			l = append(l, api.Run{From: number(), Value: r.Uint64()})
		}
		return l[r.IntN(len(l)):]
	}
	for range 5000 {
		var m api.Image
		for range r.IntN(5) {
			m.Types = append(m.Types, api.Type{Kind: uint8(r.IntN(9)), Elem: number(), Len: number(), Fields: fields()})
		}
		for range r.IntN(4) {
			f := api.Func{Name: pick(r, "", "a", "b", "c"), Params: number(), Result: number(), Slots: fields(), Sizes: runs(), Lives: runs()}
			for range r.IntN(4) {
				f.Code = append(f.Code, op(uint8(r.IntN(36)), number(), number(), number()))
			}
			m.Funcs = append(m.Funcs, f)
		}
		f, i, e := Fault(m)
		if e == api.OK && (f != 0 || i != 0) || Check(m) != e {
			t.Fatalf("%d, %d, error %d of %s", f, i, e, told(m))
		}
		bad := image.Check(m)
		if _, _, e := Types(m, number(), number()); bad != api.OK && e != bad {
			t.Fatalf("error %d, not %d, of %s", e, bad, told(m))
		}
		if _, e := Tables(m, number()); bad != api.OK && e != bad {
			t.Fatalf("error %d, not %d, of %s", e, bad, told(m))
		}
	}
}
