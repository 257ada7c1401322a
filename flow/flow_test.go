package flow

import (
	"fmt"
	"math"
	"math/rand/v2"
	"slices"
	"testing"

	"wreckage/api"
	"wreckage/ops"
)

// The instructions that the tests need most.

func end() api.Instr {
	return api.Instr{Op: api.OpReturn, A: -1}
}

func yield() api.Instr {
	return api.Instr{Op: api.OpYield}
}

func exit() api.Instr {
	return api.Instr{Op: api.OpExit}
}

func jump(to int) api.Instr {
	return api.Instr{Op: api.OpJump, A: to}
}

func branch(slot, to int) api.Instr {
	return api.Instr{Op: api.OpBranch, A: slot, B: to}
}

func zero(slot int) api.Instr {
	return api.Instr{Op: api.OpZero, A: slot}
}

func copied(to, from int) api.Instr {
	return api.Instr{Op: api.OpCopy, A: to, B: from}
}

func code(l ...api.Instr) []api.Instr {
	return l
}

// yields is code of n instructions, of which just the last one does something.
func yields(n int) []api.Instr {
	l := slices.Repeat(code(yield()), n)
	l[n-1] = end()
	return l
}

// example is the chapter's.
func example() []api.Instr {
	return code(branch(0, 3), api.Instr{Op: api.OpInt, A: 1, B: 7}, jump(4), zero(1), copied(2, 1), end())
}

// The oracle says what the chapter says, in other ways than the program.

func oracleValid(l []api.Instr) bool {
	if len(l) < 1 || len(l) > 200 {
		return false
	}
	for _, x := range l {
		switch {
		case ops.Check(x) != api.OK:
			return false
		case x.Op == api.OpJump && x.A >= len(l):
			return false
		case x.Op == api.OpBranch && x.B >= len(l):
			return false
		}
	}
	return l[len(l)-1] == api.Instr{Op: 34, A: -1}
}

// oracleComes reports whether k comes behind i.
func oracleComes(l []api.Instr, i, k int) bool {
	switch x := l[i]; x.Op {
	case 22:
		return k == x.A
	case 23:
		return k == i+1 || k == x.B
	case 34, 28, 30:
		return false
	}
	return k == i+1
}

func oracleNext(l []api.Instr, i int) []int {
	var next []int
	for k := range l {
		if oracleComes(l, i, k) {
			next = append(next, k)
		}
	}
	return next
}

// oracleLeads returns where ways lead that go on only behind instructions for which on is true.
func oracleLeads(l []api.Instr, on func(i int) bool) []bool {
	leads := make([]bool, len(l))
	leads[0] = true
	for range l {
		for i := range l {
			if !leads[i] || !on(i) {
				continue
			}
			for _, k := range oracleNext(l, i) {
				leads[k] = true
			}
		}
	}
	return leads
}

func always(int) bool {
	return true
}

func writes(x api.Instr, slot int) bool {
	_, w, _ := ops.Slots(x)
	return slices.Contains(w, slot)
}

// oracleMasks takes each slot from where a way leads on which nothing writes it.
func oracleMasks(l []api.Instr, params, slots int) []uint64 {
	masks := make([]uint64, len(l))
	leads := oracleLeads(l, always)
	for s := range slots {
		without := oracleLeads(l, func(i int) bool { return !writes(l[i], s) })
		for i := range len(l) - 1 {
			if leads[i] && (s < params || !without[i]) {
				masks[i] += 1 << s
			}
		}
	}
	return masks
}

// oracleDepths tries the depths that there are before each instruction, until one is not right.
func oracleDepths(l []api.Instr, by []int) ([]int, api.Errno) {
	found := make([]map[int]bool, len(l))
	for i := range found {
		found[i] = map[int]bool{}
	}
	found[0][0] = true
	for range l {
		for i := range l {
			for d := range found[i] {
				for _, k := range oracleNext(l, i) {
					found[k][d+by[i]] = true
				}
			}
		}
		for i, all := range found {
			for d := range all {
				if len(all) > 1 || d < 0 || d > 4096 || i == len(l)-1 && d != 0 {
					return nil, api.ErrState
				}
			}
		}
	}
	depths := make([]int, len(l))
	for i, all := range found {
		for d := range all {
			depths[i] = d
		}
	}
	return depths, api.OK
}

// rule gives different numbers, the same ones in each run.
func rule(seed uint64) *rand.Rand {
	return rand.New(rand.NewPCG(seed, 7))
}

// someInstr is a valid instruction in code of n, with slots below slots, at least one.
func someInstr(r *rand.Rand, n, slots int) api.Instr {
	s := func() int { return r.IntN(slots) }
	switch r.IntN(16) {
	case 0, 1:
		return jump(r.IntN(n))
	case 2, 3, 4, 5:
		return branch(s(), r.IntN(n))
	case 6, 7, 8:
		return zero(s())
	case 9:
		return api.Instr{Op: api.OpRecover, A: s(), B: s()}
	case 10:
		return api.Instr{Op: api.OpCall, A: s() - 1, B: r.IntN(32)}
	case 11:
		return []api.Instr{exit(), end(), {Op: api.OpPanic, A: s()}, {Op: api.OpReturn, A: s()}}[r.IntN(4)]
	case 12:
		return api.Instr{Op: api.OpPut, A: s(), C: s()}
	case 13:
		return api.Instr{Op: api.OpAdd, A: s(), B: s(), C: s()}
	}
	return yield()
}

func someCode(r *rand.Rand, most, slots int) []api.Instr {
	n := 1 + r.IntN(most)
	l := make([]api.Instr, n)
	for i := range l {
		l[i] = someInstr(r, n, slots)
	}
	l[n-1] = end()
	return l
}

// someBy are numbers for code, which are right quite often.
func someBy(r *rand.Rand, l []api.Instr) []int {
	by := make([]int, len(l))
	depths := make([]int, len(l))
	for i := range l[:len(l)-1] {
		if r.IntN(3) == 0 {
			depths[i] = r.IntN(3) * 8
		}
	}
	depths[0] = 0
	for i := range by {
		if next := oracleNext(l, i); len(next) > 0 {
			by[i] = depths[next[r.IntN(len(next))]] - depths[i]
		} else {
			by[i] = r.IntN(9) - 4
		}
	}
	return by
}

func checkCheck(t *testing.T, l []api.Instr, want api.Errno) {
	t.Helper()
	if e := Check(l); e != want {
		t.Errorf("Check of %s: error %d, not %d", told(l), e, want)
	}
}

// told is what is told of code that may be long.
func told(l []api.Instr) string {
	if len(l) > 12 {
		return fmt.Sprintf("%d instructions, %v and so on to %v", len(l), l[:6], l[len(l)-3:])
	}
	return fmt.Sprint(l)
}

// checkNotValid calls all functions with code, and with arguments that are wrong too: ErrBad is first.
func checkNotValid(t *testing.T, l []api.Instr) {
	t.Helper()
	checkCheck(t, l, api.ErrBad)
	for _, i := range []int{0, -1, len(l)} {
		checkNextError(t, l, i, api.ErrBad)
	}
	if r, e := Reached(l); e != api.ErrBad || len(r) != 0 {
		t.Errorf("Reached of %s: %v, error %d", told(l), r, e)
	}
	for _, slots := range []int{16, 0, -1} {
		checkMasksError(t, l, 0, slots, api.ErrBad)
	}
	checkDepthsError(t, l, make([]int, len(l)), api.ErrBad)
	checkDepthsError(t, l, make([]int, len(l)+1), api.ErrBad)
	checkDepthsError(t, l, slices.Repeat([]int{1}, len(l)), api.ErrBad)
}

func checkNext(t *testing.T, l []api.Instr, i int, want ...int) {
	t.Helper()
	if next, e := Next(l, i); e != api.OK || !slices.Equal(next, want) {
		t.Errorf("Next of %s, %d: %v, error %d, not %v", told(l), i, next, e, want)
	}
}

func checkNextError(t *testing.T, l []api.Instr, i int, want api.Errno) {
	t.Helper()
	if next, e := Next(l, i); e != want || len(next) != 0 {
		t.Errorf("Next of %s, %d: %v, error %d, not %d", told(l), i, next, e, want)
	}
}

func checkReached(t *testing.T, l []api.Instr, want ...bool) {
	t.Helper()
	if r, e := Reached(l); e != api.OK || !slices.Equal(r, want) {
		t.Errorf("Reached of %s: %v, error %d, not %v", told(l), r, e, want)
	}
}

func checkMasks(t *testing.T, l []api.Instr, params, slots int, want ...uint64) {
	t.Helper()
	if m, e := Masks(l, params, slots); e != api.OK || !slices.Equal(m, want) {
		t.Errorf("Masks of %s, %d, %d: %v, error %d, not %v", told(l), params, slots, m, e, want)
	}
}

func checkMasksError(t *testing.T, l []api.Instr, params, slots int, want api.Errno) {
	t.Helper()
	if m, e := Masks(l, params, slots); e != want || len(m) != 0 {
		t.Errorf("Masks of %s, %d, %d: %v, error %d, not %d", told(l), params, slots, m, e, want)
	}
}

func checkDepths(t *testing.T, l []api.Instr, by []int, want ...int) {
	t.Helper()
	if d, e := Depths(l, by); e != api.OK || !slices.Equal(d, want) {
		t.Errorf("Depths of %s, %v: %v, error %d, not %v", told(l), by, d, e, want)
	}
}

func checkDepthsError(t *testing.T, l []api.Instr, by []int, want api.Errno) {
	t.Helper()
	if d, e := Depths(l, by); e != want || len(d) != 0 {
		t.Errorf("Depths of %s, %d numbers: %v, error %d, not %d", told(l), len(by), d, e, want)
	}
}

// P7.1

func TestCodeThatIsValid(t *testing.T) {
	for _, l := range [][]api.Instr{
		code(end()),
		example(),
		yields(199),
		yields(200),
		code(jump(0), end()),
		code(jump(1), end()),
		code(branch(15, 1), end()),
		code(branch(0, 0), end()),
		code(end(), end(), end()),
		code(api.Instr{Op: api.OpReturn, A: 3}, end()),
		code(api.Instr{Op: api.OpInt, A: 1, B: math.MinInt}, end()),
		code(api.Instr{Op: api.OpDefer, A: 31}, api.Instr{Op: api.OpText, B: 31}, end()),
		append(code(jump(199), branch(0, 199)), yields(198)...),
	} {
		checkCheck(t, l, api.OK)
	}
}

func TestCodeThatIsNotValid(t *testing.T) {
	for _, l := range [][]api.Instr{
		nil,
		{},
		yields(201),
		yields(100000),
		code(yield()),
		code(end(), yield()),
		code(exit()),
		code(jump(0)),
		code(yield(), jump(0)),
		code(branch(0, 0)),
		code(yield(), branch(0, 0)),
		code(api.Instr{Op: api.OpPanic}),
		code(api.Instr{Op: api.OpReturn}),
		code(api.Instr{Op: api.OpReturn, A: 1}),
		code(end(), api.Instr{Op: api.OpReturn, A: 15}),
		code(api.Instr{Op: api.OpReturn, A: -2}),
		code(api.Instr{Op: api.OpReturn, A: -1, B: 1}),
		code(api.Instr{Op: api.OpReturn, A: -1, C: 1}),
		code(jump(2), end()),
		code(jump(-1), end()),
		code(jump(199), end()),
		code(jump(200), end()),
		code(branch(0, 2), end()),
		code(branch(0, -1), end()),
		code(branch(16, 0), end()),
		code(branch(-1, 0), end()),
		code(end(), jump(3), end()),
		code(end(), branch(0, 3), end()),
		code(end(), api.Instr{}, end()),
		code(end(), api.Instr{Op: 35}, end()),
		code(zero(16), end()),
		code(yield(), api.Instr{Op: api.OpYield, C: 1}, end()),
		code(api.Instr{}),
		append(code(jump(200)), yields(199)...),
	} {
		checkNotValid(t, l)
	}
}

// Each place is checked, also one that cannot be reached.
func TestAnInstructionThatIsNotValidAtEachPlace(t *testing.T) {
	for i := range 200 {
		for _, x := range []api.Instr{{}, {Op: 255}, zero(16), jump(200), branch(0, 200), jump(-1), {Op: api.OpText, B: 32}} {
			l := yields(200)
			l[0] = end()
			l[i] = x
			checkCheck(t, l, api.ErrBad)
		}
	}
}

func TestOperandsThatAreInstructionsAreIndices(t *testing.T) {
	for n := 2; n <= 200; n++ {
		for _, x := range []api.Instr{jump(n - 1), branch(15, n-1)} {
			l := yields(n)
			l[n-2] = x
			checkCheck(t, l, api.OK)
		}
		for _, x := range []api.Instr{jump(n), branch(0, n), jump(n + 1), branch(0, n+1)} {
			l := yields(n)
			l[n-2] = x
			checkCheck(t, l, api.ErrBad)
		}
	}
}

// Operands that are no instructions may be greater than all indices.
func TestOperandsThatAreNoInstructions(t *testing.T) {
	for _, x := range []api.Instr{
		{Op: api.OpInt, A: 15, B: 1000},
		{Op: api.OpCall, A: 15, B: 31},
		{Op: api.OpGo, A: 31},
		{Op: api.OpField, A: 14, B: 15, C: 7},
		{Op: api.OpReturn, A: 15},
		{Op: api.OpArg, A: 15},
	} {
		checkCheck(t, code(x, end()), api.OK)
	}
}

func TestNextOfEachOperation(t *testing.T) {
	for op := uint8(1); op <= 34; op++ {
		l := code(yield(), api.Instr{Op: op}, yield(), end())
		switch op {
		case api.OpJump:
			checkNext(t, l, 1, 0)
		case api.OpBranch:
			checkNext(t, l, 1, 0, 2)
		case api.OpReturn, api.OpPanic, api.OpExit:
			checkNext(t, l, 1)
		default:
			checkNext(t, l, 1, 2)
		}
	}
}

func TestNextOfJumpsAndBranches(t *testing.T) {
	l := code(jump(3), jump(1), jump(0), branch(0, 4), branch(0, 4), branch(9, 0), branch(1, 8), branch(2, 7), yield(), end())
	checkNext(t, l, 0, 3)
	checkNext(t, l, 1, 1)
	checkNext(t, l, 2, 0)
	checkNext(t, l, 3, 4)
	checkNext(t, l, 4, 4, 5)
	checkNext(t, l, 5, 0, 6)
	checkNext(t, l, 6, 7, 8)
	checkNext(t, l, 7, 7, 8)
	checkNext(t, l, 8, 9)
	checkNext(t, l, 9)
	checkNext(t, code(branch(0, 2), yield(), end()), 0, 1, 2)
}

func TestNextOfNoIndex(t *testing.T) {
	for _, n := range []int{1, 2, 199, 200} {
		for _, i := range []int{-1, n, n + 1, 256, 1 << 32, math.MinInt, math.MaxInt, -n} {
			checkNextError(t, yields(n), i, api.ErrArg)
		}
		checkNext(t, yields(n), n-1)
	}
}

func TestReachedOfExamples(t *testing.T) {
	checkReached(t, code(end()), true)
	checkReached(t, example(), true, true, true, true, true, true)
	checkReached(t, code(exit(), yield(), end()), true, false, true)
	checkReached(t, code(jump(2), yield(), exit(), end()), true, false, true, true)
	checkReached(t, code(jump(0), end()), true, true)
	checkReached(t, code(end(), jump(1), branch(0, 1), end()), true, false, false, true)
	checkReached(t, code(branch(0, 0), yield(), end()), true, true, true)
	checkReached(t, code(api.Instr{Op: api.OpPanic}, zero(1), end()), true, false, true)
	// What comes behind one that is not reached is not reached by it.
	checkReached(t, code(jump(3), jump(2), yield(), exit(), end()), true, false, false, true, true)
	// A way back.
	checkReached(t, code(jump(4), yield(), yield(), exit(), jump(1), yield(), end()), true, true, true, true, true, false, true)
	// A call, a deferred one or a go leads nowhere but on.
	checkReached(t, code(api.Instr{Op: api.OpCall, A: -1, B: 2}, exit(), yield(), end()), true, true, false, true)
}

func TestCheckNextAndReachedAreThoseOfTheChapter(t *testing.T) {
	r := rule(1)
	valid := 0
	for range 20000 {
		l := someCode(r, 12, 16)
		if r.IntN(3) == 0 {
			l[r.IntN(len(l))] = someInstr(r, len(l)+r.IntN(2), 16+r.IntN(2))
		}
		if !oracleValid(l) {
			checkNotValid(t, l)
			continue
		}
		valid++
		checkCheck(t, l, api.OK)
		for i := range l {
			checkNext(t, l, i, oracleNext(l, i)...)
		}
		want := oracleLeads(l, always)
		want[len(l)-1] = true
		checkReached(t, l, want...)
	}
	if valid < 10000 {
		t.Errorf("only %d were valid", valid)
	}
}

// P7.2

func TestMasksOfExamples(t *testing.T) {
	l := example()
	checkMasks(t, l, 1, 3, 1, 1, 3, 1, 3, 0)
	l[3] = yield()
	checkMasks(t, l, 1, 3, 1, 1, 3, 1, 1, 0)
}

func TestMasksOfASingleInstruction(t *testing.T) {
	for slots := range 17 {
		for params := range slots + 1 {
			checkMasks(t, code(end()), params, slots, 0)
		}
	}
}

func TestParametersAreLiveUpToTheLastInstruction(t *testing.T) {
	for slots := range 17 {
		for params := range slots + 1 {
			p := uint64(1)<<params - 1
			checkMasks(t, code(yield(), yield(), end()), params, slots, p, p, 0)
			checkMasks(t, code(yield(), exit(), yield(), end()), params, slots, p, p, 0, 0)
		}
	}
}

func TestMasksOfWrites(t *testing.T) {
	// Before the instruction that writes it a slot is not live yet.
	checkMasks(t, code(zero(0), zero(2), zero(15), yield(), end()), 0, 16, 0, 1, 5, 32773, 0)
	// Both slots of an OpRecover are written, and none of a call without one.
	checkMasks(t, code(api.Instr{Op: api.OpRecover, A: 3, B: 1}, yield(), end()), 0, 4, 0, 10, 0)
	checkMasks(t, code(api.Instr{Op: api.OpCall, A: -1}, api.Instr{Op: api.OpCall, A: 1}, yield(), end()), 0, 2, 0, 0, 2, 0)
	// Slots that are only read, or of which a part is changed, are not written.
	checkMasks(t, code(copied(0, 1), api.Instr{Op: api.OpPut, A: 2, C: 3}, api.Instr{Op: api.OpSet, A: 2}, yield(), end()), 0, 4, 0, 1, 1, 1, 0)
	// Writing a parameter, or a slot again, changes nothing.
	checkMasks(t, code(zero(0), zero(1), zero(1), yield(), end()), 1, 2, 1, 1, 3, 3, 0)
}

func TestMasksWhereWaysMeet(t *testing.T) {
	// On each way, but not at the same place.
	checkMasks(t, code(branch(0, 3), zero(1), jump(4), zero(1), yield(), end()), 1, 2, 1, 1, 3, 1, 3, 0)
	// On one way only.
	checkMasks(t, code(branch(0, 2), zero(1), yield(), end()), 1, 2, 1, 1, 1, 0)
	// Different ones on different ways.
	checkMasks(t, code(branch(0, 4), zero(1), zero(2), jump(6), zero(2), zero(3), yield(), end()), 1, 4, 1, 1, 3, 7, 1, 5, 5, 0)
	// A way that ends in a panic, a return or an exit takes nothing from others.
	for _, x := range []api.Instr{exit(), end(), {Op: api.OpPanic}, {Op: api.OpReturn}} {
		checkMasks(t, code(branch(0, 3), zero(1), jump(4), x, yield(), end()), 1, 2, 1, 1, 3, 1, 3, 0)
	}
}

func TestMasksOfLoops(t *testing.T) {
	// What the loop writes is not live at its beginning: the first time it was not written.
	checkMasks(t, code(yield(), zero(1), branch(0, 0), yield(), end()), 1, 2, 1, 1, 3, 3, 0)
	// What was written before stays live, however often the loop goes round.
	checkMasks(t, code(zero(1), yield(), zero(2), branch(0, 1), yield(), end()), 1, 3, 1, 3, 3, 7, 7, 0)
	// A loop that is entered in its middle.
	checkMasks(t, code(jump(3), zero(1), yield(), branch(0, 1), yield(), end()), 1, 2, 1, 1, 3, 1, 1, 0)
	// One that never ends.
	checkMasks(t, code(zero(0), zero(1), jump(1), end()), 0, 2, 0, 1, 3, 0)
	// A jump back to the instruction 0, before which just the parameters are live.
	checkMasks(t, code(zero(1), jump(0), end()), 1, 2, 1, 3, 0)
}

func TestMasksWhereNoWayLeads(t *testing.T) {
	// No slot is live there, not even a parameter.
	checkMasks(t, code(exit(), yield(), end()), 2, 2, 3, 0, 0)
	// What an instruction there writes, or leaves out, does not matter where ways lead.
	checkMasks(t, code(zero(1), jump(3), zero(2), yield(), end()), 1, 3, 1, 3, 0, 3, 0)
	checkMasks(t, code(zero(1), jump(4), zero(2), jump(2), yield(), end()), 1, 3, 1, 3, 0, 0, 3, 0)
	checkMasks(t, code(zero(1), yield(), exit(), branch(0, 1), end()), 1, 2, 1, 3, 3, 0, 0)
	// The last one has none, even if no way leads there.
	checkMasks(t, code(zero(1), jump(1), end()), 1, 2, 1, 3, 0)
}

func TestMasksNeedGoodCounts(t *testing.T) {
	for _, c := range [][2]int{
		{0, -1}, {0, 17}, {16, 17}, {17, 17}, {-1, 0}, {-1, 3}, {1, 0}, {4, 3}, {17, 16}, {-1, -1},
		{0, math.MaxInt}, {0, math.MinInt}, {math.MinInt, 16}, {math.MaxInt, 16}, {math.MaxInt, math.MaxInt}, {0, 1 << 32}, {1 << 32, 16},
		{math.MinInt, math.MinInt},
	} {
		checkMasksError(t, code(end()), c[0], c[1], api.ErrArg)
		// Before what is out of range.
		checkMasksError(t, code(zero(15), end()), c[0], c[1], api.ErrArg)
	}
	for _, c := range [][2]int{{0, 0}, {0, 1}, {1, 1}, {0, 16}, {16, 16}} {
		checkMasks(t, code(end()), c[0], c[1], 0)
	}
}

func TestMasksNeedSlotsInRange(t *testing.T) {
	for slots := range 16 {
		for _, x := range []api.Instr{
			zero(slots),
			copied(slots, 0),
			copied(0, slots),
			{Op: api.OpAdd, C: slots},
			{Op: api.OpSet, C: slots},
			{Op: api.OpRecover, A: slots},
			{Op: api.OpRecover, B: slots},
			{Op: api.OpReturn, A: slots},
			{Op: api.OpCall, A: slots},
			{Op: api.OpPut, A: slots},
			{Op: api.OpPut, C: slots},
			{Op: api.OpPanic, A: slots},
			{Op: api.OpArg, A: slots},
			branch(slots, 1),
		} {
			checkMasksError(t, code(x, end()), 0, slots, api.ErrRange)
			checkMasksError(t, code(x, end()), slots, slots, api.ErrRange)
			// Also where no way leads.
			checkMasksError(t, code(exit(), yield(), x, end()), 0, slots, api.ErrRange)
			checkMasks(t, code(exit(), x, end()), slots, slots+1, uint64(1)<<slots-1, 0, 0)
		}
	}
}

// Operands that are no slots may be as great as they like.
func TestMasksDoNotLookAtOtherOperands(t *testing.T) {
	for _, x := range []api.Instr{
		{Op: api.OpInt, B: 100},
		{Op: api.OpText, B: 31},
		{Op: api.OpCall, A: 0, B: 31},
		{Op: api.OpField, C: 7},
	} {
		checkMasks(t, code(x, yield(), end()), 0, 1, 0, 1, 0)
	}
	checkMasks(t, code(api.Instr{Op: api.OpPut, B: 7}, end()), 0, 1, 0, 0)
	for _, x := range []api.Instr{{Op: api.OpDefer, A: 31}, {Op: api.OpGo, A: 31}, {Op: api.OpCall, A: -1, B: 31}, jump(1), yield()} {
		checkMasks(t, code(x, yield(), end()), 0, 0, 0, 0, 0)
	}
}

func TestMasksAreThoseOfTheChapter(t *testing.T) {
	r := rule(2)
	for range 30000 {
		slots := 1 + r.IntN(16)
		params := r.IntN(slots + 1)
		l := someCode(r, 14, slots)
		checkMasks(t, l, params, slots, oracleMasks(l, params, slots)...)
	}
	for range 30 {
		l := someCode(r, 200, 16)
		checkMasks(t, l, 2, 16, oracleMasks(l, 2, 16)...)
	}
}

// P7.3

func TestDepthsOfExamples(t *testing.T) {
	checkDepths(t, code(end()), []int{0}, 0)
	checkDepths(t, code(end()), []int{4096}, 0)
	checkDepths(t, code(yield(), yield(), yield(), end()), []int{8, 16, -24, -5}, 0, 8, 24, 0)
	checkDepths(t, code(branch(0, 3), yield(), jump(4), yield(), yield(), end()), []int{0, 8, 0, 8, -8, 0}, 0, 0, 8, 0, 8, 0)
	checkDepths(t, code(yield(), branch(0, 0), end()), []int{8, -8, 0}, 0, 8, 0)
	checkDepths(t, code(yield(), exit(), end()), []int{8, -9, 0}, 0, 8, 0)
	checkDepths(t, code(yield(), jump(1), end()), []int{8, 0, 0}, 0, 8, 0)
}

func TestDepthsNeedANumberForEachInstruction(t *testing.T) {
	l := yields(3)
	checkDepthsError(t, l, nil, api.ErrArg)
	checkDepthsError(t, l, []int{0, 0}, api.ErrArg)
	checkDepthsError(t, l, []int{0, 0, 0, 0}, api.ErrArg)
	checkDepthsError(t, l, make([]int, 100000), api.ErrArg)
	checkDepths(t, l, []int{0, 0, 0}, 0, 0, 0)
	// Before a depth that is not right.
	checkDepthsError(t, l, []int{-1, 0}, api.ErrArg)
}

func TestDepthsNeedNumbersThatAreNotTooGreat(t *testing.T) {
	for _, n := range []int{4097, -4097, 8192, 1 << 32, -1 << 32, math.MaxInt, math.MinInt, math.MinInt + 1} {
		for i := range 4 {
			by := make([]int, 4)
			by[i] = n
			checkDepthsError(t, code(yield(), jump(3), yield(), end()), by, api.ErrArg)
			// Before a depth that is not right, wherever that is.
			by[(i+1)%4] = -1
			checkDepthsError(t, code(yield(), jump(3), yield(), end()), by, api.ErrArg)
		}
	}
	for _, n := range []int{4096, -4096} {
		checkDepths(t, code(exit(), yield(), end()), []int{n, n, n}, 0, 0, 0)
	}
}

func TestDepthsFromNothingToAllOfTheStack(t *testing.T) {
	l := yields(4)
	checkDepths(t, l, []int{4096, 0, -4096, 0}, 0, 4096, 4096, 0)
	checkDepths(t, l, []int{4095, 1, -4096, 0}, 0, 4095, 4096, 0)
	checkDepthsError(t, l, []int{4096, 1, -4096, 0}, api.ErrState)
	checkDepthsError(t, l, []int{4095, 2, -4096, 0}, api.ErrState)
	checkDepthsError(t, l, []int{4096, 4096, -4096, 0}, api.ErrState)
	checkDepthsError(t, l, []int{-1, 1, 0, 0}, api.ErrState)
	checkDepthsError(t, l, []int{8, -9, 1, 0}, api.ErrState)
	checkDepthsError(t, l, []int{-4096, 4096, 0, 0}, api.ErrState)
	// Also where nothing comes behind.
	checkDepthsError(t, code(yield(), exit(), end()), []int{-1, 0, 0}, api.ErrState)
	checkDepthsError(t, code(yield(), yield(), exit(), end()), []int{4096, 1, 0, 0}, api.ErrState)
}

func TestTheDepthBeforeTheLastInstructionIsNothing(t *testing.T) {
	checkDepthsError(t, yields(2), []int{1, 0}, api.ErrState)
	checkDepthsError(t, yields(2), []int{-1, 0}, api.ErrState)
	checkDepthsError(t, yields(3), []int{8, 8, 0}, api.ErrState)
	checkDepthsError(t, yields(3), []int{8, 0, -8}, api.ErrState)
	checkDepthsError(t, code(yield(), jump(3), exit(), end()), []int{8, 0, 0, 0}, api.ErrState)
	checkDepthsError(t, code(yield(), branch(0, 3), exit(), end()), []int{8, 0, 0, 0}, api.ErrState)
	// Other returns may be at any depth.
	checkDepths(t, code(yield(), end(), end()), []int{8, 0, 0}, 0, 8, 0)
	// If no way leads there it is nothing, whatever the others are.
	checkDepths(t, code(yield(), jump(1), yield(), end()), []int{8, 0, 9, 9}, 0, 8, 0, 0)
}

func TestDepthsDoNotDependOnTheWay(t *testing.T) {
	l := code(branch(0, 2), yield(), exit(), end())
	checkDepths(t, l, []int{8, 0, 0, 0}, 0, 8, 8, 0)
	checkDepthsError(t, l, []int{8, 8, 0, 0}, api.ErrState)
	checkDepthsError(t, l, []int{8, -8, 0, 0}, api.ErrState)
	// A loop must add nothing.
	loop := code(yield(), yield(), branch(0, 0), yield(), end())
	checkDepths(t, loop, []int{8, -8, 0, 0, 0}, 0, 8, 0, 0, 0)
	checkDepthsError(t, loop, []int{8, 0, 0, -8, 0}, api.ErrState)
	checkDepthsError(t, loop, []int{8, -7, 0, -1, 0}, api.ErrState)
	checkDepthsError(t, code(jump(0), end()), []int{1, 0}, api.ErrState)
	checkDepths(t, code(jump(0), end()), []int{0, 1}, 0, 0)
	checkDepthsError(t, code(yield(), jump(1), end()), []int{8, 8, 0}, api.ErrState)
	// A branch to the next instruction adds once.
	checkDepths(t, code(branch(0, 1), exit(), end()), []int{8, 0, 0}, 0, 8, 0)
}

func TestDepthsWhereNoWayLeads(t *testing.T) {
	checkDepths(t, code(exit(), yield(), yield(), end()), []int{0, 100, -4096, 7}, 0, 0, 0, 0)
	checkDepths(t, code(yield(), jump(4), yield(), yield(), exit(), end()), []int{8, 8, 5, 5, 0, 0}, 0, 8, 0, 0, 16, 0)
	checkDepths(t, code(exit(), jump(1), end()), []int{0, 1, 0}, 0, 0, 0)
}

func TestDepthsAreThoseOfTheChapter(t *testing.T) {
	r := rule(3)
	right, wrong := 0, 0
	for range 30000 {
		l := someCode(r, 12, 16)
		by := someBy(r, l)
		if r.IntN(4) == 0 {
			by[r.IntN(len(by))] = (r.IntN(5) - 2) * (1 + 2047*r.IntN(2))
		}
		want, e := oracleDepths(l, by)
		if e != api.OK {
			wrong++
			checkDepthsError(t, l, by, e)
			continue
		}
		right++
		checkDepths(t, l, by, want...)
	}
	if right < 5000 || wrong < 5000 {
		t.Errorf("%d were right, %d wrong", right, wrong)
	}
}

// P7.4

// holds reports whether a list of masks is what the chapter says of them, where ways lead.
func holds(l []api.Instr, masks []uint64, params int) bool {
	leads := oracleLeads(l, always)
	if len(l) > 1 && masks[0] != 1<<params-1 {
		return false
	}
	for i, x := range l {
		if !leads[i] {
			continue
		}
		after := masks[i]
		for s := range 16 {
			if writes(x, s) {
				after |= 1 << s
			}
		}
		for _, to := range oracleNext(l, i) {
			if masks[to]&^after != 0 {
				return false
			}
		}
	}
	return true
}

func TestMasksAreTheGreatestThatHold(t *testing.T) {
	const slots = 2
	r := rule(4)
	for range 400 {
		l := someCode(r, 5, slots)
		params := r.IntN(slots + 1)
		m, e := Masks(l, params, slots)
		if e != api.OK || !holds(l, m, params) {
			t.Fatalf("%s: the masks %v do not hold, error %d", told(l), m, e)
		}
		leads := oracleLeads(l, always)
		other := make([]uint64, len(l))
		for n := range 1 << (slots * len(l)) {
			for i := range other {
				other[i] = uint64(n) >> (slots * i) % (1 << slots)
			}
			if !holds(l, other, params) {
				continue
			}
			for i := range len(l) - 1 {
				if leads[i] && other[i]&^m[i] != 0 {
					t.Fatalf("%s: %v hold too, and are greater than %v at %d", told(l), other, m, i)
				}
			}
		}
	}
}

// On walks all slots that are live have been written, and the depth is what was added.
func TestWalks(t *testing.T) {
	r := rule(5)
	deep := 0
	for range 20000 {
		l := someCode(r, 12, 4)
		by := someBy(r, l)
		m, e := Masks(l, 2, 4)
		if e != api.OK {
			t.Fatalf("%s: error %d", told(l), e)
		}
		d, right := Depths(l, by)
		written, sum := uint64(3), 0
		for i, n := 0, 0; n < 40; n++ {
			if m[i]&^written != 0 {
				t.Fatalf("%s: at %d %b is live, and %b was written", told(l), i, m[i], written)
			}
			if right == api.OK && d[i] != sum {
				t.Fatalf("%s, %v: at %d the depth is %d, and %d was added", told(l), by, i, d[i], sum)
			}
			if right == api.OK && sum != 0 {
				deep++
			}
			next, _ := Next(l, i)
			if len(next) == 0 {
				break
			}
			for s := range 4 {
				if writes(l[i], s) {
					written |= 1 << s
				}
			}
			sum += by[i]
			i = next[r.IntN(len(next))]
		}
	}
	if deep < 5000 {
		t.Errorf("only %d depths were not 0", deep)
	}
}

func TestWhatComesBehindAReachedInstructionIsReached(t *testing.T) {
	r := rule(6)
	for range 5000 {
		l := someCode(r, 20, 16)
		reached, e := Reached(l)
		if e != api.OK || !reached[0] || !reached[len(l)-1] {
			t.Fatalf("%s: %v, error %d", told(l), reached, e)
		}
		for i := range l {
			next, e := Next(l, i)
			if e != api.OK {
				t.Fatalf("%s: error %d", told(l), e)
			}
			for _, k := range next {
				if reached[i] && !reached[k] {
					t.Fatalf("%s: %d is reached, and %d is not", told(l), i, k)
				}
			}
		}
	}
}

// R2: arguments are only read, and results share no memory.

func TestArgumentsAreOnlyRead(t *testing.T) {
	room := append(example(), zero(9), jump(77))
	kept := slices.Clone(room)
	counts := []int{0, 8, 0, 8, -8, 0, 55, 66}
	keptCounts := slices.Clone(counts)
	l, by := room[:6], counts[:6]
	for range 2 {
		checkCheck(t, l, api.OK)
		checkNext(t, l, 0, 1, 3)
		checkReached(t, l, true, true, true, true, true, true)
		checkMasks(t, l, 1, 3, 1, 1, 3, 1, 3, 0)
		checkDepths(t, l, by, 0, 0, 8, 0, 8, 0)
	}
	if !slices.Equal(room, kept) || !slices.Equal(counts, keptCounts) {
		t.Errorf("the arguments have become %v and %v", room, counts)
	}
}

// spoil writes over all the memory that a slice has.
func spoil[E any](l []E, with E) {
	for i := range l[:cap(l)] {
		l[:cap(l)][i] = with
	}
}

func TestResultsShareNoMemory(t *testing.T) {
	l := example()
	by := []int{0, 8, 0, 8, -8, 0}
	for range 2 {
		next, _ := Next(l, 0)
		spoil(next, 99)
		reached, _ := Reached(l)
		spoil(reached, false)
		masks, _ := Masks(l, 1, 3)
		spoil(masks, 99)
		depths, _ := Depths(l, by)
		spoil(depths, 99)
	}
	if !slices.Equal(l, example()) || !slices.Equal(by, []int{0, 8, 0, 8, -8, 0}) {
		t.Errorf("the arguments have become %v and %v", l, by)
	}
	checkNext(t, l, 0, 1, 3)
	checkReached(t, l, true, true, true, true, true, true)
	checkMasks(t, l, 1, 3, 1, 1, 3, 1, 3, 0)
	checkDepths(t, l, by, 0, 0, 8, 0, 8, 0)
}

// R7: the longest code, with the most ways, is done in time.

func TestTheLongestCode(t *testing.T) {
	// Each slot is taken away at the end only, and each time that is told backwards through all of the code.
	l := yields(200)
	for i := 1; i < 199; i++ {
		l[i] = branch(0, i-1)
	}
	for s := range 16 {
		l[180+s] = zero(s)
	}
	checkMasks(t, l, 0, 16, oracleMasks(l, 0, 16)...)
	for i := range 198 {
		l[i] = branch(0, 198-i)
	}
	checkMasks(t, l, 3, 16, oracleMasks(l, 3, 16)...)
	checkDepths(t, l, make([]int, 200), make([]int, 200)...)
}
