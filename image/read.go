package image

import (
	"wreckage/api"
	"wreckage/ops"
	"wreckage/tables"
	"wreckage/wire"
)

// reader reads the parts of an image one behind the other. After an error the cursor has no bytes, so that nothing more is read;
// which error it was need not be told. Whether the parts are valid is looked at when all of them are there.
type reader struct {
	cursor api.Cursor
	failed bool
}

// moveTo goes on where a lower layer has stopped, and notes its error.
func (r *reader) moveTo(c api.Cursor, e api.Errno) {
	r.cursor = c
	r.failed = r.failed || e != api.OK
}

func (r *reader) image() api.Image {
	var m api.Image
	m.Types = readList(r, api.MaxTypes, (*reader).typeOfTable)
	m.Texts = readList(r, api.MaxTexts, (*reader).text)
	m.Funcs = readList(r, api.MaxFuncs, (*reader).function)
	return m
}

func (r *reader) typeOfTable() api.Type {
	t := api.Type{Kind: r.kind()}
	switch t.Kind {
	case api.KindPointer, api.KindSlice:
		t.Elem = r.number(api.MaxTypes)
	case api.KindArray:
		t.Elem = r.number(api.MaxTypes)
		t.Len = r.number(api.MaxLen)
	case api.KindStruct:
		t.Fields = readList(r, api.MaxFields, (*reader).field)
	}
	return t
}

func (r *reader) function() api.Func {
	var f api.Func
	f.Name = r.name()
	f.Params = r.number(api.MaxSlots)
	f.Result = r.signed()
	f.Slots = readList(r, api.MaxSlots, (*reader).field)
	f.Code = readList(r, api.MaxCode, (*reader).instr)
	f.Sizes = r.runs(len(f.Code))
	f.Lives = r.runs(len(f.Code))
	return f
}

func (r *reader) field() api.Field {
	var f api.Field
	f.Name = r.name()
	f.Type = r.number(api.MaxTypes)
	return f
}

func (r *reader) instr() api.Instr {
	c, x, e := ops.Decode(r.cursor)
	r.moveTo(c, e)
	return x
}

func (r *reader) runs(n int) []api.Run {
	c, l, e := tables.Decode(r.cursor, n)
	r.moveTo(c, e)
	return l
}

func (r *reader) name() string { return r.upTo(api.MaxName) }

func (r *reader) text() string { return r.upTo(api.MaxText) }

// upTo reads a string of at most some number of bytes.
func (r *reader) upTo(most int) string {
	c, s, e := wire.Untext(r.cursor, most)
	r.moveTo(c, e)
	return s
}

// number reads a number that is at most some number.
func (r *reader) number(most int) int {
	c, n, e := wire.Unvary(r.cursor, uint64(most))
	r.moveTo(c, e)
	return int(n)
}

func (r *reader) signed() int {
	c, n, e := wire.Unsigned(r.cursor)
	r.moveTo(c, e)
	return int(n)
}

func (r *reader) kind() uint8 {
	c, n, e := wire.Unfixed(r.cursor, 1)
	r.moveTo(c, e)
	return uint8(n)
}

// readList reads a list of at most some number of things.
func readList[T any](r *reader, most int, readOne func(*reader) T) []T {
	l := make([]T, r.number(most))
	for i := range l {
		l[i] = readOne(r)
	}
	return l
}
