package check

import (
	"slices"

	"wreckage/api"
	"wreckage/flow"
	"wreckage/ops"
)

// scope is what the instructions of a function are checked with: a valid image, and the function, which is one of it.
type scope struct {
	image api.Image
	own   api.Func
}

// firstWrong returns the first instruction of valid code that is wrong, and its error.
func (s scope) firstWrong() (int, api.Errno) {
	reached, _ := flow.Reached(s.own.Code)
	for i, x := range s.own.Code {
		switch {
		case !s.isInRange(x):
			return i, api.ErrRange
		case !reached[i]:
			return i, api.ErrNone
		case !s.fits(x):
			return i, api.ErrType
		}
	}
	return 0, api.OK
}

// isInRange reports whether the range of an instruction is right.
func (s scope) isInRange(x api.Instr) bool {
	read, written, _ := ops.Slots(x)
	for _, slot := range slices.Concat(read, written) {
		if slot >= len(s.own.Slots) {
			return false
		}
	}
	if f, ok := called(x); ok {
		return f < len(s.image.Funcs)
	}
	return x.Op != api.OpText || x.B < len(s.image.Texts)
}

// called returns the function that an instruction calls, defers or starts, if it does one of these.
func called(x api.Instr) (f int, ok bool) {
	switch x.Op {
	case api.OpCall:
		return x.B, true
	case api.OpDefer, api.OpGo:
		return x.A, true
	}
	return 0, false
}

// fits reports whether the types of an instruction that is in range are right.
func (s scope) fits(x api.Instr) bool {
	switch x.Op {
	case api.OpInt, api.OpBlock:
		return s.are(api.KindInt, x.A)
	case api.OpText:
		return s.are(api.KindText, x.A)
	case api.OpBool, api.OpBranch:
		return s.are(api.KindBool, x.A)
	case api.OpCopy:
		return s.typeOf(x.A) == s.typeOf(x.B)
	case api.OpAdd, api.OpSub, api.OpMul, api.OpDiv:
		return s.are(api.KindInt, x.A, x.B, x.C)
	case api.OpLess:
		return s.are(api.KindBool, x.A) && s.are(api.KindInt, x.B, x.C)
	case api.OpSame:
		return s.are(api.KindBool, x.A) && s.typeOf(x.B) == s.typeOf(x.C) && isSmall(s.kindOf(x.B))
	case api.OpNot:
		return s.are(api.KindBool, x.A, x.B)
	case api.OpField:
		return s.isField(x.A, x.B, x.C)
	case api.OpPut:
		return s.isField(x.C, x.A, x.B)
	case api.OpNew:
		return s.are(api.KindPointer, x.A)
	case api.OpLoad:
		return s.isElem(x.A, x.B, api.KindPointer)
	case api.OpStore:
		return s.isElem(x.B, x.A, api.KindPointer)
	case api.OpMake:
		return s.are(api.KindSlice, x.A) && s.are(api.KindInt, x.B)
	case api.OpAt:
		return s.isElem(x.A, x.B, api.KindSlice, api.KindArray) && s.are(api.KindInt, x.C)
	case api.OpSet:
		return s.isElem(x.C, x.A, api.KindSlice, api.KindArray) && s.are(api.KindInt, x.B)
	case api.OpLen:
		return s.are(api.KindInt, x.A) && isOne(s.kindOf(x.B), api.KindText, api.KindSlice, api.KindArray)
	case api.OpCall:
		return s.takesResult(x.A, s.image.Funcs[x.B])
	case api.OpDefer, api.OpGo:
		return s.canBeLeft(s.image.Funcs[x.A])
	case api.OpPanic:
		return isOne(s.kindOf(x.A), api.KindInt, api.KindBool, api.KindText)
	case api.OpRecover, api.OpWake:
		return s.are(api.KindBool, x.A) && s.are(api.KindInt, x.B)
	case api.OpReturn:
		return s.takesResult(x.A, s.own)
	}
	// The others have no slots, or ones of any types.
	return true
}

// typeOf returns the type of a slot.
func (s scope) typeOf(slot int) int {
	return s.own.Slots[slot].Type
}

// typesOf returns the types of slots.
func (s scope) typesOf(slots []int) []int {
	var l []int
	for _, slot := range slots {
		l = append(l, s.typeOf(slot))
	}
	return l
}

// kindOf returns the kind of the type of a slot.
func (s scope) kindOf(slot int) uint8 {
	return s.image.Types[s.typeOf(slot)].Kind
}

// are reports whether the types of slots are all of one kind.
func (s scope) are(kind uint8, slots ...int) bool {
	return !slices.ContainsFunc(slots, func(slot int) bool { return s.kindOf(slot) != kind })
}

// isOne reports whether a kind is one of some.
func isOne(kind uint8, kinds ...uint8) bool {
	return slices.Contains(kinds, kind)
}

// isSmall reports whether a kind is one whose values can be told apart, and be the argument of a call that is left for later.
func isSmall(kind uint8) bool {
	return isOne(kind, api.KindInt, api.KindBool, api.KindPointer)
}

// isField reports whether the type of a slot is that of a field of another one.
func (s scope) isField(slot, of, field int) bool {
	t := s.image.Types[s.typeOf(of)]
	// Types of other kinds have no fields.
	return field < len(t.Fields) && t.Fields[field].Type == s.typeOf(slot)
}

// isElem reports whether another slot is of one of some kinds, all of which have an Elem, and a slot is of the type of this.
func (s scope) isElem(slot, of int, kinds ...uint8) bool {
	return isOne(s.kindOf(of), kinds...) && s.image.Types[s.typeOf(of)].Elem == s.typeOf(slot)
}

// takesResult reports whether a slot, if it is one, is of the type of the result of a function.
func (s scope) takesResult(slot int, f api.Func) bool {
	// A function without a result has none as its Result, which is no type of a slot.
	return slot == none || s.typeOf(slot) == f.Result
}

// canBeLeft reports whether the call of a function can be left for later, or to another goroutine.
func (s scope) canBeLeft(f api.Func) bool {
	if f.Result != none || f.Params > 1 {
		return false
	}
	return f.Params == 0 || isSmall(s.image.Types[f.Slots[0].Type].Kind)
}
