package sample

import (
	"strconv"
	"strings"

	"wreckage/api"
	"wreckage/ops"
)

// Types of the images of recipes; a chain has the first two.
const (
	typeInt = iota
	typeBool
	typeText
	typePointer
	typeStruct
	typeArray
	typeSlice
	typeList
)

// types are those of the image of a recipe, in the order of their constants.
func types() []api.Type {
	return []api.Type{
		{Kind: api.KindInt},
		{Kind: api.KindBool},
		{Kind: api.KindText},
		{Kind: api.KindPointer, Elem: typeInt},
		{Kind: api.KindStruct, Fields: []api.Field{
			{Name: "n", Type: typeInt},
			{Name: "on", Type: typeBool},
			{Name: "at", Type: typePointer},
		}},
		{Kind: api.KindArray, Elem: typeInt, Len: 3},
		{Kind: api.KindSlice, Elem: typeInt},
		{Kind: api.KindPointer, Elem: typeStruct},
	}
}

// typeOf returns the type of the slots with a name, which is the same one in all functions.
func typeOf(name string) int {
	switch name {
	case "on":
		return typeBool
	case "s":
		return typeText
	case "p":
		return typePointer
	case "r":
		return typeStruct
	case "a":
		return typeArray
	case "l":
		return typeSlice
	case "q":
		return typeList
	}
	return typeInt
}

// function returns a function whose slots have some names. Its tables are valid, but not those of its code.
func function(name string, params, result int, slots string, code []api.Instr) api.Func {
	f := api.Func{Name: name, Params: params, Result: result, Code: code, Sizes: []api.Run{{}}, Lives: []api.Run{{}}}
	for slot := range strings.FieldsSeq(slots) {
		f.Slots = append(f.Slots, api.Field{Name: slot, Type: typeOf(slot)})
	}
	return f
}

// written returns code with the instructions of a text at its end. The text has them as the chapter writes them; the operand v
// stands for a number that is passed, and @ for the index of the second instruction behind its own.
func written(code []api.Instr, text string, v int) []api.Instr {
	for line := range strings.SplitSeq(text, "; ") {
		name, rest, _ := strings.Cut(line, " ")
		op, _ := ops.Op(name)
		l := operands(rest, v, len(code)+2)
		code = append(code, api.Instr{Op: op, A: l[0], B: l[1], C: l[2]})
	}
	return code
}

// operands returns the operands that stand in a text, where those at the end may be left out.
func operands(text string, v, at int) [3]int {
	var l [3]int
words:
	for i := range l {
		var word string
		word, text, _ = strings.Cut(text, " ")
		switch word {
		case "":
			break words
		case "v":
			l[i] = v
		case "@":
			l[i] = at
		default:
			l[i], _ = strconv.Atoi(word)
		}
	}
	return l
}
