package check

import (
	"math"
	"math/rand/v2"
	"slices"

	"wreckage/api"
	"wreckage/ops"
	"wreckage/tables"
)

// rule gives different numbers, the same ones in each run of the tests.
func rule(seed uint64) *rand.Rand {
	return rand.New(rand.NewPCG(seed, 10))
}

// pick is one of some things.
func pick[T any](r *rand.Rand, l ...T) T {
	return l[r.IntN(len(l))]
}

// Types of the images of the tests, most of them by their names; some are alike.
const (
	tInt = iota
	tBool
	tText
	tPointer // of tInt
	tStruct
	tArray // of three tInt
	tSlice // of tInt
	tList  // a pointer of tStruct
	tInt2
	tBool2
	tPointer2 // of tInt2
	tBools    // a slice of tBool
	tNine     // an array of nine tBool
	tStruct2
	tText2
	tNested
	tCount
)

func someTypes() []api.Type {
	fields := []api.Field{{Name: "n", Type: tInt}, {Name: "on", Type: tBool}, {Name: "at", Type: tPointer}}
	return []api.Type{
		{Kind: api.KindInt},
		{Kind: api.KindBool},
		{Kind: api.KindText},
		{Kind: api.KindPointer, Elem: tInt},
		{Kind: api.KindStruct, Fields: fields},
		{Kind: api.KindArray, Elem: tInt, Len: 3},
		{Kind: api.KindSlice, Elem: tInt},
		{Kind: api.KindPointer, Elem: tStruct},
		{Kind: api.KindInt},
		{Kind: api.KindBool},
		{Kind: api.KindPointer, Elem: tInt2},
		{Kind: api.KindSlice, Elem: tBool},
		{Kind: api.KindArray, Elem: tBool, Len: 9},
		{Kind: api.KindStruct, Fields: slices.Clone(fields)},
		{Kind: api.KindText},
		{Kind: api.KindStruct, Fields: []api.Field{{Name: "a", Type: tNine}, {Name: "s", Type: tStruct}}},
	}
}

// slots are slots of some types, named a, b and so on.
func slots(types ...int) []api.Field {
	var l []api.Field
	for i, t := range types {
		l = append(l, api.Field{Name: string(rune('a' + i)), Type: t})
	}
	return l
}

// function is one whose tables say nothing yet. Its last instruction is added.
func function(name string, params, result int, l []api.Field, code ...api.Instr) api.Func {
	return api.Func{
		Name: name, Params: params, Result: result, Slots: l,
		Code:  append(slices.Clip(code), end()),
		Sizes: []api.Run{{}}, Lives: []api.Run{{}},
	}
}

func end() api.Instr {
	return api.Instr{Op: api.OpReturn, A: -1}
}

// op is an instruction; operands that are left out are 0.
func op(op uint8, operands ...int) api.Instr {
	l := append(operands, 0, 0, 0)
	return api.Instr{Op: op, A: l[0], B: l[1], C: l[2]}
}

// tabled is the image with the tables that its functions have, for those that have some.
func tabled(m api.Image) api.Image {
	m.Funcs = slices.Clone(m.Funcs)
	for f := range m.Funcs {
		if g, e := oracleTables(m, f); e == api.OK {
			m.Funcs[f] = g
		}
	}
	return m
}

// copied is an image without memory of another one.
func copied(m api.Image) api.Image {
	m.Types, m.Texts, m.Funcs = slices.Clone(m.Types), slices.Clone(m.Texts), slices.Clone(m.Funcs)
	for i := range m.Types {
		m.Types[i].Fields = slices.Clone(m.Types[i].Fields)
	}
	for i := range m.Funcs {
		f := &m.Funcs[i]
		f.Slots, f.Code, f.Sizes, f.Lives = slices.Clone(f.Slots), slices.Clone(f.Code), slices.Clone(f.Sizes), slices.Clone(f.Lives)
	}
	return m
}

// maker makes code that is right for a function.
type maker struct {
	r    *rand.Rand
	in   oracle
	code []api.Instr
	live uint64
	deep int
}

func (k *maker) add(x api.Instr) {
	_, writes, _ := ops.Slots(x)
	for _, s := range writes {
		k.live |= 1 << s
	}
	k.code = append(k.code, x)
}

// liveOf are the live slots of a type.
func (k *maker) liveOf(t int) []int {
	var l []int
	for s, field := range k.in.f.Slots {
		if field.Type == t && k.live>>s%2 == 1 {
			l = append(l, s)
		}
	}
	return l
}

// simple adds an instruction behind which just the next one comes, if one is found.
func (k *maker) simple() {
	r := k.r
	for range 60 {
		x := op(uint8(1+r.IntN(34)), r.IntN(17)-1, r.IntN(16), r.IntN(16))
		switch x.Op {
		case api.OpInt:
			x.B = pick(r, 0, -1, math.MinInt, math.MaxInt)
		case api.OpJump, api.OpBranch, api.OpArg, api.OpCall, api.OpDefer, api.OpGo, api.OpPanic, api.OpExit, api.OpReturn:
			continue
		}
		x = withoutUnused(x)
		if ops.Check(x) == api.OK && k.in.hasRange(x) && k.in.hasTypes(x) && k.canRead(x) {
			k.add(x)
			return
		}
	}
	k.add(op(api.OpYield))
}

func (k *maker) canRead(x api.Instr) bool {
	reads, _, _ := ops.Slots(x)
	return !slices.ContainsFunc(reads, func(s int) bool { return k.live>>s%2 == 0 })
}

// withoutUnused is the instruction with 0 for what it does not use, if it is valid then.
func withoutUnused(x api.Instr) api.Instr {
	if ops.Check(x) == api.OK {
		return x
	}
	x.C = 0
	if ops.Check(x) == api.OK {
		return x
	}
	x.B = 0
	if ops.Check(x) == api.OK {
		return x
	}
	return op(x.Op)
}

// call adds a call of some kind with its arguments, if there are slots for them.
func (k *maker) call() {
	f := k.r.IntN(len(k.in.m.Funcs))
	g := k.in.m.Funcs[f]
	for _, p := range g.Slots[:g.Params] {
		if len(k.liveOf(p.Type)) == 0 {
			return
		}
	}
	for _, p := range g.Slots[:g.Params] {
		k.add(op(api.OpArg, pick(k.r, k.liveOf(p.Type)...)))
		if k.r.IntN(3) == 0 {
			k.part()
		}
	}
	if k.in.isLate(g) && k.r.IntN(2) == 0 {
		k.add(op(pick(k.r, api.OpDefer, api.OpGo), f))
		return
	}
	to := -1
	for s, field := range k.in.f.Slots {
		if field.Type == g.Result && k.r.IntN(2) == 0 {
			to = s
		}
	}
	k.add(op(api.OpCall, to, f))
}

// leave adds an instruction behind which nothing comes.
func (k *maker) leave() {
	x := pick(k.r, op(api.OpExit), end(), op(api.OpPanic, k.r.IntN(16)), op(api.OpReturn, k.r.IntN(16)))
	if !k.in.hasRange(x) || !k.in.hasTypes(x) || !k.canRead(x) {
		x = end()
	}
	k.add(x)
}

// part adds some instructions that leave the scratch as it is.
func (k *maker) part() {
	k.deep++
	defer func() { k.deep-- }()
	bools := k.liveOf(pick(k.r, tBool, tBool2))
	if k.deep > 3 || len(k.code) > 100 || len(bools) == 0 && k.r.IntN(3) > 0 {
		k.simple()
		return
	}
	if len(bools) == 0 {
		k.call()
		return
	}
	on, from, before := pick(k.r, bools...), len(k.code), k.live
	switch k.r.IntN(6) {
	case 0:
		k.call()
	case 1: // a loop
		k.parts()
		k.add(op(api.OpBranch, on, from))
	case 2, 3: // one way more
		k.add(op(api.OpBranch, on))
		k.parts()
		if k.r.IntN(2) == 0 {
			k.leave()
		}
		k.code[from].B = len(k.code)
		k.live = before
	case 4: // two ways
		k.add(op(api.OpBranch, on))
		k.parts()
		jump, live := len(k.code), k.live
		k.add(op(api.OpJump))
		k.code[from].B = len(k.code)
		k.live = before
		k.parts()
		k.code[jump].A = len(k.code)
		k.live &= live
	default:
		k.simple()
	}
}

func (k *maker) parts() {
	for range 1 + k.r.IntN(3) {
		k.part()
	}
}

// someImage is an image that is accepted.
func someImage(r *rand.Rand) api.Image {
	m := api.Image{Types: someTypes(), Texts: []string{"", "boom"}[:r.IntN(3)]}
	for i := range 1 + r.IntN(4) {
		g := function("f"+string(rune('0'+i)), 0, -1, nil)
		for range r.IntN(10) {
			g.Slots = slots(append(typesOf(g.Slots), pick(r, tInt, tBool, tPointer, r.IntN(tCount)))...)
		}
		if i > 0 {
			g.Params, g.Result = r.IntN(1+min(3, len(g.Slots))), pick(r, -1, tInt, r.IntN(tCount))
		}
		m.Funcs = append(m.Funcs, g)
	}
	for f, g := range m.Funcs {
		k := maker{r: r, in: oracle{m, g}, live: 1<<g.Params - 1}
		for range r.IntN(12) {
			k.part()
		}
		m.Funcs[f].Code = append(k.code, end())
	}
	return tabled(m)
}

// typesOf are the types of slots.
func typesOf(l []api.Field) []int {
	var types []int
	for _, s := range l {
		types = append(types, s.Type)
	}
	return types
}

// spoilInstr changes one thing of an instruction.
func spoilInstr(r *rand.Rand, m api.Image, x *api.Instr) {
	g := m.Funcs[r.IntN(len(m.Funcs))]
	switch r.IntN(5) {
	case 0:
		*pick(r, &x.A, &x.B, &x.C) += pick(r, -1, 1)
	case 1:
		*pick(r, &x.A, &x.B, &x.C) = r.IntN(17)
	case 2:
		x.Op = uint8(1 + r.IntN(34))
		*x = withoutUnused(*x)
	case 3:
		*x = pick(r, op(api.OpYield), op(api.OpExit), end(), op(api.OpZero, r.IntN(4)), op(api.OpArg, r.IntN(4)))
	default:
		*x = g.Code[r.IntN(len(g.Code))]
	}
}

// spoilRuns returns runs of which one thing is changed.
func spoilRuns(r *rand.Rand, l []api.Run) []api.Run {
	run := &l[r.IntN(len(l))]
	switch r.IntN(4) {
	case 0:
		run.From++
	case 1:
		run.Value += pick[uint64](r, 1, 8, 1<<63)
	case 2:
		return l[:max(1, len(l)-1)]
	default:
		return append(l, api.Run{From: l[len(l)-1].From + 1, Value: r.Uint64N(20)})
	}
	return l
}

// spoiled is an image like another one, of which one thing is changed, so that it may be accepted or not.
func spoiled(r *rand.Rand, m api.Image) api.Image {
	m = copied(m)
	g := &m.Funcs[r.IntN(len(m.Funcs))]
	i := r.IntN(len(g.Code))
	switch r.IntN(18) {
	case 0:
		g.Sizes = spoilRuns(r, g.Sizes)
	case 1:
		g.Lives = spoilRuns(r, g.Lives)
	case 2:
		g.Params += pick(r, -1, 1)
	case 3:
		g.Result = pick(r, -1, r.IntN(len(m.Types)))
	case 4:
		if len(g.Slots) > 0 {
			g.Slots[r.IntN(len(g.Slots))].Type = r.IntN(len(m.Types))
		}
	case 5:
		g.Slots = g.Slots[:r.IntN(len(g.Slots)+1)]
	case 6:
		m.Funcs = m.Funcs[:1+r.IntN(len(m.Funcs))]
	case 7:
		m.Texts = m.Texts[:r.IntN(len(m.Texts)+1)]
	case 8:
		g.Code = append(slices.Delete(g.Code, i, i+1), end())
	case 9:
		g.Code = slices.Insert(g.Code, i, pick(r, op(api.OpArg, r.IntN(3)), op(api.OpZero, r.IntN(3)), end()))
	case 10:
		g.Code = append(g.Code[:i+1], end())
	case 11, 12:
		i = slices.IndexFunc(g.Code, func(x api.Instr) bool {
			_, writes, _ := ops.Slots(x)
			return len(writes) > 0 && r.IntN(3) == 0
		})
		if i >= 0 {
			g.Code[i] = op(api.OpYield)
		}
	default:
		spoilInstr(r, m, &g.Code[i])
	}
	if r.IntN(3) > 0 {
		// With tables that are right something else can be seen.
		m = retabled(m)
	}
	return m
}

// retabled is tabled for an image that may not be valid.
func retabled(m api.Image) api.Image {
	for f, g := range m.Funcs {
		if tables.Check(g.Sizes, len(g.Code)) != api.OK || tables.Check(g.Lives, len(g.Code)) != api.OK {
			m.Funcs[f].Sizes, m.Funcs[f].Lives = []api.Run{{}}, []api.Run{{}}
		}
	}
	if _, _, e := oracleFault(m); e == api.ErrBad {
		return m
	}
	return tabled(m)
}
