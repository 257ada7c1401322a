package check

import (
	"slices"
	"strings"

	"wreckage/api"
	"wreckage/image"
	"wreckage/ops"
	"wreckage/tables"
)

// The oracle says what the chapter says, in other ways than the program. It takes what lower layers say for granted, but for
// ways, which it goes itself.

// right is the chapter's table of what is right, as conditions: "A:int|bool" is a slot of one of these kinds, "A=B" are slots of
// the same type, "A=*B" has the Elem of B, "A=B.C" the type of B's field C; "A<-B" is -1, or has the result of the function B, or
// that of its own function ("A<-own"); and with "late" the function A is one that can be deferred.
var right = map[uint8]string{
	api.OpInt: "A:int", api.OpText: "A:text", api.OpBool: "A:bool",
	api.OpZero: "", api.OpJump: "", api.OpArg: "", api.OpExit: "", api.OpYield: "",
	api.OpCopy: "A=B",
	api.OpAdd:  "A:int B:int C:int", api.OpSub: "A:int B:int C:int", api.OpMul: "A:int B:int C:int", api.OpDiv: "A:int B:int C:int",
	api.OpLess:   "A:bool B:int C:int",
	api.OpSame:   "A:bool B=C B:int|bool|pointer",
	api.OpNot:    "A:bool B:bool",
	api.OpField:  "B:struct A=B.C",
	api.OpPut:    "A:struct C=A.B",
	api.OpNew:    "A:pointer",
	api.OpLoad:   "B:pointer A=*B",
	api.OpStore:  "A:pointer B=*A",
	api.OpMake:   "A:slice B:int",
	api.OpAt:     "B:slice|array A=*B C:int",
	api.OpSet:    "A:slice|array C=*A B:int",
	api.OpLen:    "A:int B:text|slice|array",
	api.OpBranch: "A:bool",
	api.OpCall:   "A<-B",
	api.OpDefer:  "late", api.OpGo: "late",
	api.OpPanic:   "A:int|bool|text",
	api.OpRecover: "A:bool B:int", api.OpWake: "A:bool B:int",
	api.OpBlock:  "A:int",
	api.OpReturn: "A<-own",
}

var kindNames = []string{"none", "bool", "int", "text", "pointer", "struct", "array", "slice"}

// oracle is a function of a valid image.
type oracle struct {
	m api.Image
	f api.Func
}

func (o oracle) slotType(slot int) int { return o.f.Slots[slot].Type }

// holds reports whether a condition of the table holds for an instruction whose range is right.
func (o oracle) holds(condition string, x api.Instr) bool {
	operand := func(name string) int { return map[string]int{"A": x.A, "B": x.B, "C": x.C}[name] }
	if condition == "late" {
		return o.isLate(o.m.Funcs[x.A])
	}
	if slot, kinds, ok := strings.Cut(condition, ":"); ok {
		return slices.Contains(strings.Split(kinds, "|"), kindNames[o.m.Types[o.slotType(operand(slot))].Kind])
	}
	if slot, of, ok := strings.Cut(condition, "<-"); ok {
		result := o.f.Result
		if of != "own" {
			result = o.m.Funcs[operand(of)].Result
		}
		return operand(slot) == -1 || result >= 0 && o.slotType(operand(slot)) == result
	}
	slot, want, _ := strings.Cut(condition, "=")
	have := o.slotType(operand(slot))
	if of, ok := strings.CutPrefix(want, "*"); ok {
		return o.m.Types[o.slotType(operand(of))].Elem == have
	}
	if of, field, ok := strings.Cut(want, "."); ok {
		l := o.m.Types[o.slotType(operand(of))].Fields
		return operand(field) < len(l) && l[operand(field)].Type == have
	}
	return o.slotType(operand(want)) == have
}

func (o oracle) isLate(f api.Func) bool {
	var kinds string
	for _, s := range f.Slots[:f.Params] {
		kinds += kindNames[o.m.Types[s.Type].Kind] + "."
	}
	return f.Result == -1 && strings.Contains("(.int.)(.bool.)(.pointer.)(.)", "(."+kinds+")")
}

func (o oracle) hasTypes(x api.Instr) bool {
	for _, condition := range strings.Fields(right[x.Op]) {
		if !o.holds(condition, x) {
			return false
		}
	}
	return true
}

func (o oracle) hasRange(x api.Instr) bool {
	reads, writes, _ := ops.Slots(x)
	for _, s := range append(reads, writes...) {
		if s > len(o.f.Slots)-1 {
			return false
		}
	}
	switch x.Op {
	case 2:
		return x.B <= len(o.m.Texts)-1
	case 25:
		return x.B <= len(o.m.Funcs)-1
	case 26, 27:
		return x.A <= len(o.m.Funcs)-1
	}
	return true
}

// types are those of the slots that an instruction reads, and of those that it writes.
func (o oracle) types(x api.Instr) (reads, writes []int) {
	reads, writes, _ = ops.Slots(x)
	for i, s := range reads {
		reads[i] = o.slotType(s)
	}
	for i, s := range writes {
		writes[i] = o.slotType(s)
	}
	return reads, writes
}

func (o oracle) isCode() bool {
	n := len(o.f.Code)
	for _, x := range o.f.Code {
		if x.Op == 22 && x.A >= n || x.Op == 23 && x.B >= n {
			return false
		}
	}
	return o.f.Code[n-1] == api.Instr{Op: 34, A: -1}
}

// next are the instructions that come behind one.
func (o oracle) next(i int) []int {
	switch x := o.f.Code[i]; x.Op {
	case 22:
		return []int{x.A}
	case 23:
		return []int{i + 1, x.B}
	case 28, 30, 34:
		return nil
	}
	return []int{i + 1}
}

// leads returns where ways lead that go on only behind instructions for which on is true.
func (o oracle) leads(on func(x api.Instr) bool) []bool {
	leads := make([]bool, len(o.f.Code))
	leads[0] = true
	for more := true; more; {
		more = false
		for i, x := range o.f.Code {
			if !leads[i] || !on(x) {
				continue
			}
			for _, k := range o.next(i) {
				more = more || !leads[k]
				leads[k] = true
			}
		}
	}
	return leads
}

// lives are the masks: a slot that is no parameter is not live where a way leads on which nothing writes it.
func (o oracle) lives() []uint64 {
	l := make([]uint64, len(o.f.Code))
	leads := o.leads(func(api.Instr) bool { return true })
	for s := range o.f.Slots {
		without := o.leads(func(x api.Instr) bool {
			_, writes, _ := ops.Slots(x)
			return !slices.Contains(writes, s)
		})
		for i := range len(l) - 1 {
			if leads[i] && (s < o.f.Params || !without[i]) {
				l[i] += 1 << s
			}
		}
	}
	return l
}

// scratch returns the types of the scratch before each instruction, one rune for each, and whether it is right.
func (o oracle) scratch() ([]string, bool) {
	n := len(o.f.Code)
	found := make([]map[string]bool, n)
	for i := range found {
		found[i] = map[string]bool{}
	}
	found[0][""] = true
	for more := true; more; {
		more = false
		for i, x := range o.f.Code {
			for before := range found[i] {
				after, ok := o.goesOn(x, before)
				if !ok || len(found[i]) > 1 || o.bytes(before) > 4096 || i == n-1 && before != "" {
					return nil, false
				}
				for _, k := range o.next(i) {
					more = more || !found[k][after]
					found[k][after] = true
				}
			}
		}
	}
	l := make([]string, n)
	for i := range found {
		for s := range found[i] {
			l[i] = s
		}
	}
	return l, true
}

func (o oracle) goesOn(x api.Instr, before string) (string, bool) {
	if x.Op == 24 {
		return before + string(rune('A'+o.slotType(x.A))), true
	}
	if x.Op < 25 || x.Op > 27 {
		return before, true
	}
	f := x.A
	if x.Op == 25 {
		f = x.B
	}
	params := ""
	for _, s := range o.m.Funcs[f].Slots[:o.m.Funcs[f].Params] {
		params += string(rune('A' + s.Type))
	}
	return strings.CutSuffix(before, params)
}

// bytes is how many bytes there are in some scratch.
func (o oracle) bytes(scratch string) int {
	n := 0
	for _, t := range scratch {
		for size, _ := o.size(int(t - 'A')); size > 0; size -= 8 {
			n += 8
		}
	}
	return n
}

// size is how many bytes a type has, and its alignment.
func (o oracle) size(i int) (size, align int) {
	t := o.m.Types[i]
	switch t.Kind {
	case 1:
		return 1, 1
	case 3:
		return 16, 8
	case 7:
		return 24, 8
	case 6:
		size, align = o.size(t.Elem)
		return size * t.Len, align
	case 5:
		for _, f := range t.Fields {
			s, a := o.size(f.Type)
			size, align = (size+a-1)/a*a+s, max(align, a)
		}
		return (size + align - 1) / align * align, align
	}
	return 8, 8
}

// fault is that of the function with the index f, but for its tables.
func (o oracle) fault(f int) (i int, e api.Errno) {
	if !o.isCode() {
		return -1, api.ErrForm
	}
	if f == 0 && (o.f.Params != 0 || o.f.Result != -1) {
		return -1, api.ErrType
	}
	reached := o.leads(func(api.Instr) bool { return true })
	reached[len(reached)-1] = true
	for i, x := range o.f.Code {
		if !o.hasRange(x) {
			return i, api.ErrRange
		}
		if !reached[i] {
			return i, api.ErrNone
		}
		if !o.hasTypes(x) {
			return i, api.ErrType
		}
	}
	if _, ok := o.scratch(); !ok {
		return -1, api.ErrState
	}
	lives := o.lives()
	for i, x := range o.f.Code {
		reads, _, _ := ops.Slots(x)
		for _, s := range reads {
			if lives[i]>>s%2 == 0 {
				return i, api.ErrLive
			}
		}
	}
	return 0, api.OK
}

// sizes are the bytes of the scratch before each instruction, if it is right.
func (o oracle) sizes() []uint64 {
	scratch, _ := o.scratch()
	l := make([]uint64, len(scratch))
	for i, s := range scratch {
		l[i] = uint64(o.bytes(s))
	}
	return l
}

// oracleFault is the first fault of an image.
func oracleFault(m api.Image) (f, i int, e api.Errno) {
	if e := image.Check(m); e != api.OK {
		return 0, 0, e
	}
	for f, g := range m.Funcs {
		o := oracle{m, g}
		if i, e := o.fault(f); e != api.OK {
			return f, i, e
		}
		sizes, _ := tables.List(g.Sizes, len(g.Code))
		lives, _ := tables.List(g.Lives, len(g.Code))
		if !slices.Equal(sizes, o.sizes()) || !slices.Equal(lives, o.lives()) {
			return f, -1, api.ErrOrder
		}
	}
	return 0, 0, api.OK
}

// oracleTables is a function of a valid image, with its tables.
func oracleTables(m api.Image, f int) (api.Func, api.Errno) {
	g := m.Funcs[f]
	o := oracle{m, g}
	if _, e := o.fault(f); e != api.OK {
		return api.Func{}, e
	}
	g.Sizes, _ = tables.Make(o.sizes())
	g.Lives, _ = tables.Make(o.lives())
	return g, api.OK
}

func oracleTypes(m api.Image, f, i int) (reads, writes []int, e api.Errno) {
	o := oracle{m, m.Funcs[f]}
	x := o.f.Code[i]
	if !o.hasRange(x) {
		return nil, nil, api.ErrRange
	}
	if !o.hasTypes(x) {
		return nil, nil, api.ErrType
	}
	reads, writes = o.types(x)
	return reads, writes, api.OK
}
