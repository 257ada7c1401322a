package image

import (
	"wreckage/api"
	"wreckage/ops"
	"wreckage/tables"
	"wreckage/wire"
)

// The functions of this file append the bytes of parts of a valid image. All its numbers but the Result are at least 0, and
// nothing of it is refused by a lower layer.

func appendImage(b []byte, m api.Image) []byte {
	b = appendList(b, m.Types, appendType)
	b = appendList(b, m.Texts, appendText)
	return appendList(b, m.Funcs, appendFunc)
}

func appendType(b []byte, t api.Type) []byte {
	b = append(b, t.Kind)
	switch t.Kind {
	case api.KindPointer, api.KindSlice:
		b = appendNumber(b, t.Elem)
	case api.KindArray:
		b = appendNumber(b, t.Elem)
		b = appendNumber(b, t.Len)
	case api.KindStruct:
		b = appendList(b, t.Fields, appendField)
	}
	return b
}

func appendFunc(b []byte, f api.Func) []byte {
	b = appendText(b, f.Name)
	b = appendNumber(b, f.Params)
	b = append(b, wire.Signed(int64(f.Result))...)
	b = appendList(b, f.Slots, appendField)
	b = appendList(b, f.Code, appendInstr)
	b = appendRuns(b, f.Sizes, len(f.Code))
	return appendRuns(b, f.Lives, len(f.Code))
}

func appendField(b []byte, f api.Field) []byte {
	return appendNumber(appendText(b, f.Name), f.Type)
}

func appendInstr(b []byte, x api.Instr) []byte {
	coded, _ := ops.Encode(x)
	return append(b, coded...)
}

func appendRuns(b []byte, l []api.Run, n int) []byte {
	coded, _ := tables.Encode(l, n)
	return append(b, coded...)
}

func appendText(b []byte, s string) []byte {
	coded, _ := wire.Text(s)
	return append(b, coded...)
}

func appendNumber(b []byte, n int) []byte {
	return append(b, wire.Vary(uint64(n))...)
}

// appendList appends a list: how many things there are, and the bytes of each.
func appendList[T any](b []byte, l []T, appendOne func([]byte, T) []byte) []byte {
	b = appendNumber(b, len(l))
	for _, x := range l {
		b = appendOne(b, x)
	}
	return b
}
