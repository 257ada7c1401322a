package image

import (
	"bytes"
	"encoding/binary"
	"fmt"
	"math"
	"math/rand/v2"
	"reflect"
	"regexp"
	"slices"
	"strings"
	"testing"

	"wreckage/api"
	"wreckage/kinds"
	"wreckage/ops"
	"wreckage/tables"
)

const largest = math.MaxUint64

// aName is a name by the words of the chapter.
var aName = regexp.MustCompile(`\A[a-zA-Z][a-zA-Z0-9]{0,15}\z`)

// least is the chapter's example: the least image, and its bytes.
func least() (api.Image, []byte) {
	m := api.Image{Funcs: []api.Func{bare("m", 1)}}
	return m, []byte{0, 0, 1, 1, 109, 0, 1, 0, 1, 34, 1, 1, 0, 0, 1, 0, 0}
}

// bare is a function with some number of instructions that has nothing else.
func bare(name string, n int) api.Func {
	return api.Func{
		Name:   name,
		Result: -1,
		Code:   slices.Repeat([]api.Instr{{Op: api.OpReturn, A: -1}}, n),
		Sizes:  []api.Run{{}},
		Lives:  []api.Run{{}},
	}
}

// example has a type of each kind, texts, and functions with each thing that there may be in one.
func example() api.Image {
	return api.Image{
		Types: []api.Type{
			{Kind: api.KindInt},
			{Kind: api.KindBool},
			{Kind: api.KindText},
			{Kind: api.KindPointer, Elem: 4},
			{Kind: api.KindStruct, Fields: []api.Field{{Name: "a", Type: 0}, {Name: "next", Type: 3}}},
			{Kind: api.KindArray, Elem: 4, Len: 16},
			{Kind: api.KindSlice, Elem: 1},
		},
		Texts: []string{"", "hi", "\x00\xff\x80"},
		Funcs: []api.Func{
			{
				Name: "main", Result: -1,
				Slots: []api.Field{{Name: "x", Type: 0}, {Name: "y", Type: 5}},
				Code:  []api.Instr{{Op: api.OpInt, A: 0, B: -65}, {Op: api.OpArg, A: 0}, {Op: api.OpCall, A: -1, B: 1}, {Op: api.OpReturn, A: -1}},
				Sizes: []api.Run{{From: 0, Value: 0}, {From: 2, Value: 8}, {From: 3, Value: 0}},
				Lives: []api.Run{{From: 0, Value: 0}, {From: 1, Value: 1}, {From: 3, Value: 0}},
			},
			{
				Name: "f2", Params: 1, Result: 6,
				Slots: []api.Field{{Name: "x", Type: 6}},
				Code:  []api.Instr{{Op: api.OpReturn, A: 0}, {Op: api.OpReturn, A: -1}},
				Sizes: []api.Run{{From: 0, Value: 300}},
				Lives: []api.Run{{From: 0, Value: 1}, {From: 1, Value: largest}},
			},
		},
	}
}

// exampleBytes are the bytes of the example, put down by hand.
func exampleBytes() []byte {
	return slices.Concat(
		[]byte{7, 2, 1, 3, 4, 4, 5, 2, 1, 'a', 0, 4, 'n', 'e', 'x', 't', 3, 6, 4, 16, 7, 1},
		[]byte{3, 0, 2, 'h', 'i', 3, 0, 255, 128},
		[]byte{2},
		[]byte{4, 'm', 'a', 'i', 'n', 0, 1, 2, 1, 'x', 0, 1, 'y', 5},
		[]byte{4, 1, 0, 129, 1, 24, 0, 25, 1, 1, 34, 1},
		[]byte{3, 0, 0, 2, 8, 1, 0, 3, 0, 0, 1, 1, 2, 0},
		[]byte{2, 'f', '2', 1, 12, 1, 1, 'x', 6, 2, 34, 0, 34, 1},
		[]byte{1, 0, 172, 2, 2, 0, 1, 1, 255, 255, 255, 255, 255, 255, 255, 255, 255, 1},
	)
}

func copied(m api.Image) api.Image {
	m.Types, m.Texts, m.Funcs = slices.Clone(m.Types), slices.Clone(m.Texts), slices.Clone(m.Funcs)
	for i := range m.Types {
		m.Types[i].Fields = slices.Clone(m.Types[i].Fields)
	}
	for i := range m.Funcs {
		f := &m.Funcs[i]
		f.Slots, f.Code, f.Sizes, f.Lives = slices.Clone(f.Slots), slices.Clone(f.Code), slices.Clone(f.Sizes), slices.Clone(f.Lives)
	}
	return m
}

// equal reports whether two images are the same, if nil is the same as empty.
func equal(m, n api.Image) bool {
	types := slices.EqualFunc(m.Types, n.Types, func(t, u api.Type) bool {
		return t.Kind == u.Kind && t.Elem == u.Elem && t.Len == u.Len && slices.Equal(t.Fields, u.Fields)
	})
	funcs := slices.EqualFunc(m.Funcs, n.Funcs, func(f, g api.Func) bool {
		return f.Name == g.Name && f.Params == g.Params && f.Result == g.Result && slices.Equal(f.Slots, g.Slots) &&
			slices.Equal(f.Code, g.Code) && slices.Equal(f.Sizes, g.Sizes) && slices.Equal(f.Lives, g.Lives)
	})
	return types && slices.Equal(m.Texts, n.Texts) && funcs
}

// The oracle says what the chapter says, in other ways than the program.

// oracleSize is the size and the alignment of a type of a valid table.
func oracleSize(l []api.Type, i int) (size, align int) {
	t := l[i]
	switch t.Kind {
	case api.KindBool:
		return 1, 1
	case api.KindText:
		return 16, 8
	case api.KindSlice:
		return 24, 8
	case api.KindArray:
		size, align = oracleSize(l, t.Elem)
		return size * t.Len, align
	case api.KindStruct:
		align = 1
		for _, f := range t.Fields {
			s, a := oracleSize(l, f.Type)
			for size%a != 0 {
				size++
			}
			size, align = size+s, max(align, a)
		}
		for size%align != 0 {
			size++
		}
		return size, align
	}
	return 8, 8
}

// oracleNames reports whether these are names, and all different.
func oracleNames(l []string) bool {
	sorted := slices.Sorted(slices.Values(l))
	return !slices.ContainsFunc(l, func(s string) bool { return !aName.MatchString(s) }) && len(slices.Compact(sorted)) == len(l)
}

func oracleIsFunc(f api.Func, types int) bool {
	var names []string
	for _, s := range f.Slots {
		if s.Type < 0 || s.Type > types-1 {
			return false
		}
		names = append(names, s.Name)
	}
	for _, x := range f.Code {
		if ops.Check(x) != api.OK {
			return false
		}
	}
	switch n := len(f.Code); {
	case !aName.MatchString(f.Name), len(f.Slots) > 16, !oracleNames(names):
		return false
	case f.Params < 0, f.Params > len(f.Slots):
		return false
	case f.Result < -1, f.Result > types-1:
		return false
	case n < 1, n > 200:
		return false
	default:
		return tables.Check(f.Sizes, n) == api.OK && tables.Check(f.Lives, n) == api.OK
	}
}

func oracleIsValid(m api.Image) bool {
	if kinds.Check(m.Types) != api.OK || len(m.Texts) > 32 || len(m.Funcs) < 1 || len(m.Funcs) > 32 {
		return false
	}
	for i := range m.Types {
		if size, _ := oracleSize(m.Types, i); size > 256 {
			return false
		}
	}
	for _, s := range m.Texts {
		if len(s) > 64 {
			return false
		}
	}
	var names []string
	for _, f := range m.Funcs {
		if !oracleIsFunc(f, len(m.Types)) {
			return false
		}
		names = append(names, f.Name)
	}
	return oracleNames(names)
}

func oracleCheck(m api.Image) api.Errno {
	switch {
	case !oracleIsValid(m):
		return api.ErrBad
	case len(oracleBytes(m)) > 20000:
		return api.ErrMany
	}
	return api.OK
}

// oracleWriter writes images. The number with the index at is not written: instead of it comes what is there.
type oracleWriter struct {
	b       []byte
	numbers int
	at      int
	instead func(n uint64) []byte
}

func (w *oracleWriter) number(n int) { w.unsigned(uint64(n)) }

func (w *oracleWriter) unsigned(n uint64) {
	if w.numbers == w.at {
		w.b = append(w.b, w.instead(n)...)
	} else {
		w.b = binary.AppendUvarint(w.b, n)
	}
	w.numbers++
}

func (w *oracleWriter) signed(n int) {
	if n < 0 {
		w.unsigned(uint64(-2*n - 1))
	} else {
		w.unsigned(uint64(2 * n))
	}
}

func (w *oracleWriter) text(s string) {
	w.number(len(s))
	w.b = append(w.b, s...)
}

func (w *oracleWriter) fields(l []api.Field) {
	w.number(len(l))
	for _, f := range l {
		w.text(f.Name)
		w.number(f.Type)
	}
}

func (w *oracleWriter) runs(l []api.Run) {
	w.number(len(l))
	before := 0
	for _, r := range l {
		w.number(r.From - before)
		w.unsigned(r.Value)
		before = r.From
	}
}

func (w *oracleWriter) function(f api.Func) {
	w.text(f.Name)
	w.number(f.Params)
	w.signed(f.Result)
	w.fields(f.Slots)
	w.number(len(f.Code))
	for _, x := range f.Code {
		b, _ := ops.Encode(x)
		w.b = append(w.b, b...)
	}
	w.runs(f.Sizes)
	w.runs(f.Lives)
}

func (w *oracleWriter) image(m api.Image) {
	w.number(len(m.Types))
	for _, t := range m.Types {
		w.b = append(w.b, t.Kind)
		if t.Kind == 4 || t.Kind == 6 || t.Kind == 7 {
			w.number(t.Elem)
		}
		if t.Kind == 6 {
			w.number(t.Len)
		}
		if t.Kind == 5 {
			w.fields(t.Fields)
		}
	}
	w.number(len(m.Texts))
	for _, s := range m.Texts {
		w.text(s)
	}
	w.number(len(m.Funcs))
	for _, f := range m.Funcs {
		w.function(f)
	}
}

func oracleBytes(m api.Image) []byte {
	w := oracleWriter{at: -1}
	w.image(m)
	return w.b
}

// oracleReader takes an image off bytes, and panics where it cannot go on.
type oracleReader []byte

func (r *oracleReader) byte() byte {
	b := (*r)[0]
	*r = (*r)[1:]
	return b
}

func (r *oracleReader) unsigned() uint64 {
	n, size := binary.Uvarint(*r)
	if size < 1 || size > 1 && (*r)[size-1] == 0 {
		panic("no minimal number")
	}
	*r = (*r)[size:]
	return n
}

// number is a number, of which those that are great need not be told apart: none of an image is.
func (r *oracleReader) number() int { return int(min(r.unsigned(), 1<<30)) }

func (r *oracleReader) text() string {
	n := r.number()
	s := string((*r)[:n:len(*r)])
	*r = (*r)[n:]
	return s
}

func (r *oracleReader) fields() []api.Field {
	var l []api.Field
	for range r.number() {
		name := r.text()
		l = append(l, api.Field{Name: name, Type: r.number()})
	}
	return l
}

func (r *oracleReader) runs() []api.Run {
	var l []api.Run
	from := 0
	for range r.number() {
		from += r.number()
		l = append(l, api.Run{From: from, Value: r.unsigned()})
	}
	return l
}

func (r *oracleReader) instr() api.Instr {
	c, x, e := ops.Decode(api.Cursor{Bytes: *r})
	if e != api.OK {
		panic(e)
	}
	*r = (*r)[c.At:]
	return x
}

func (r *oracleReader) function() api.Func {
	var f api.Func
	f.Name = r.text()
	f.Params = r.number()
	if n := r.number(); n%2 == 0 {
		f.Result = n / 2
	} else {
		f.Result = -(n + 1) / 2
	}
	f.Slots = r.fields()
	for range r.number() {
		f.Code = append(f.Code, r.instr())
	}
	f.Sizes = r.runs()
	f.Lives = r.runs()
	return f
}

func (r *oracleReader) typeOf() api.Type {
	t := api.Type{Kind: r.byte()}
	if t.Kind == 4 || t.Kind == 6 || t.Kind == 7 {
		t.Elem = r.number()
	}
	if t.Kind == 6 {
		t.Len = r.number()
	}
	if t.Kind == 5 {
		t.Fields = r.fields()
	}
	return t
}

func (r *oracleReader) image() api.Image {
	var m api.Image
	for range r.number() {
		m.Types = append(m.Types, r.typeOf())
	}
	for range r.number() {
		m.Texts = append(m.Texts, r.text())
	}
	for range r.number() {
		m.Funcs = append(m.Funcs, r.function())
	}
	return m
}

func oracleDecode(b []byte) (m api.Image, e api.Errno) {
	if len(b) > 20000 {
		return api.Image{}, api.ErrMany
	}
	defer func() {
		if recover() != nil {
			m, e = api.Image{}, api.ErrForm
		}
	}()
	r := oracleReader(b)
	m = r.image()
	if len(r) > 0 || !oracleIsValid(m) {
		return api.Image{}, api.ErrForm
	}
	return m, api.OK
}

// rule gives different numbers, the same ones in each run of the tests.
func rule(seed uint64) *rand.Rand {
	return rand.New(rand.NewPCG(seed, 9))
}

// edges are numbers beside all limits of an image, and numbers that are equal to one of them but for some bits.
func edges() []int {
	l := []int{math.MinInt, math.MinInt + 1, -1 << 32, -257, -256, -3, -2, -1, 0, 1, 2, 3, 4, 5, 6}
	for _, n := range []int{8, 16, 32, 64, 200, 256, 1 << 16, 1 << 32} {
		l = append(l, n-1, n, n+1)
	}
	return append(l, math.MaxInt-1, math.MaxInt)
}

// pick is one of some things.
func pick[T any](r *rand.Rand, l ...T) T {
	return l[r.IntN(len(l))]
}

func someTypes(r *rand.Rand, most int) []api.Type {
	var l []api.Type
	for range r.IntN(most + 1) {
		n := len(l)
		t := api.Type{Kind: pick[uint8](r, 1, 2, 3, 4, 7)}
		if t.Kind == 4 || t.Kind == 7 {
			t.Elem = r.IntN(n + 1)
		}
		if n > 0 && r.IntN(2) == 0 {
			t = api.Type{Kind: 6, Elem: r.IntN(n), Len: 1 + r.IntN(16)}
			if r.IntN(2) == 0 {
				t = api.Type{Kind: 5, Fields: someFields(r, 1+r.IntN(3), n)}
			}
		}
		l = append(l, t)
		if size, _ := oracleSize(l, n); size > 256 || kinds.Check(l) != api.OK {
			l = l[:n]
		}
	}
	return l
}

// someFields are fields, or slots, with some number of types to choose from.
func someFields(r *rand.Rand, n, types int) []api.Field {
	var l []api.Field
	for i := range n {
		l = append(l, api.Field{Name: pick(r, "a", "Zz9", strings.Repeat("n", 15)) + string(rune('a'+i)), Type: r.IntN(types)})
	}
	return l
}

func someInstr(r *rand.Rand) api.Instr {
	for {
		operand := func() int { return pick(r, 0, 0, 0, 1, r.IntN(16), -1, int(r.Uint64())) }
		if x := (api.Instr{Op: uint8(1 + r.IntN(34)), A: operand(), B: operand(), C: operand()}); ops.Check(x) == api.OK {
			return x
		}
	}
}

func someRuns(r *rand.Rand, n int) []api.Run {
	v := make([]uint64, n)
	for i := range v {
		v[i] = pick(r, 0, 8, r.Uint64()>>r.IntN(64), v[max(0, i-1)])
	}
	l, _ := tables.Make(v)
	return l
}

func someFunc(r *rand.Rand, name string, types int) api.Func {
	f := api.Func{Name: name, Result: r.IntN(types+1) - 1}
	if types > 0 {
		f.Slots = someFields(r, r.IntN(4), types)
	}
	f.Params = r.IntN(len(f.Slots) + 1)
	n := pick(r, 1, 2, 1+r.IntN(10))
	for range n {
		f.Code = append(f.Code, someInstr(r))
	}
	f.Sizes, f.Lives = someRuns(r, n), someRuns(r, n)
	return f
}

// someImage is a valid image.
func someImage(r *rand.Rand) api.Image {
	m := api.Image{Types: someTypes(r, 6)}
	for range r.IntN(4) {
		b := make([]byte, pick(r, 0, 1, 3, 64))
		for i := range b {
			b[i] = byte(r.Uint32())
		}
		m.Texts = append(m.Texts, string(b))
	}
	for i := range 1 + r.IntN(3) {
		m.Funcs = append(m.Funcs, someFunc(r, "f"+string(rune('A'+i)), len(m.Types)))
	}
	return m
}

// otherName is a name, or what is none.
func otherName(r *rand.Rand) string {
	return pick(r, "", "a", "aa", "fA", "9a", "a_b", "\u00e9", "a\n", strings.Repeat("n", 16), strings.Repeat("n", 17))
}

// spoilField changes one thing of some fields, if there are any.
func spoilField(r *rand.Rand, l []api.Field) {
	if len(l) == 0 {
		return
	}
	f := &l[r.IntN(len(l))]
	if r.IntN(2) == 0 {
		f.Type = pick(r, edges()...)
	} else {
		f.Name = pick(r, otherName(r), l[0].Name)
	}
}

// spoilType changes one thing of a type.
func spoilType(r *rand.Rand, t *api.Type) {
	switch r.IntN(5) {
	case 0:
		t.Kind = uint8(r.IntN(9))
	case 1:
		t.Elem = pick(r, edges()...)
	case 2:
		t.Len = pick(r, edges()...)
	case 3:
		t.Fields = append(t.Fields, api.Field{Name: otherName(r)})
	default:
		spoilField(r, t.Fields)
	}
}

// spoilRuns returns runs of which one thing is changed.
func spoilRuns(r *rand.Rand, l []api.Run) []api.Run {
	run := &l[r.IntN(len(l))]
	switch r.IntN(4) {
	case 0:
		run.From = pick(r, edges()...)
	case 1:
		run.Value = pick(r, 0, 8, r.Uint64())
	case 2:
		return l[:len(l)-1]
	default:
		return append(l, api.Run{From: run.From + 1, Value: pick(r, 0, 8, r.Uint64())})
	}
	return l
}

// spoilInstr changes one thing of an instruction.
func spoilInstr(r *rand.Rand, x *api.Instr) {
	*pick(r, &x.A, &x.B, &x.C) = pick(r, edges()...)
	if r.IntN(2) == 0 {
		*x = api.Instr{Op: byte(r.IntN(256))}
	}
}

// spoilFunc changes one thing of a function.
func spoilFunc(r *rand.Rand, f *api.Func) {
	switch r.IntN(9) {
	case 0:
		f.Name = otherName(r)
	case 1:
		f.Params = pick(r, edges()...)
	case 2:
		f.Result = pick(r, edges()...)
	case 3:
		f.Slots = append(f.Slots, api.Field{Name: otherName(r), Type: pick(r, edges()...)})
	case 4:
		spoilField(r, f.Slots)
	case 5:
		f.Code = f.Code[:r.IntN(len(f.Code))]
	case 6:
		spoilInstr(r, &f.Code[r.IntN(len(f.Code))])
	case 7:
		f.Sizes = spoilRuns(r, f.Sizes)
	default:
		f.Lives = spoilRuns(r, f.Lives)
	}
}

// spoiled is an image like another one, of which one thing is changed, so that it may be valid, or not.
func spoiled(r *rand.Rand, m api.Image) api.Image {
	m = copied(m)
	switch r.IntN(8) {
	case 0:
		if len(m.Texts) > 0 {
			m.Texts[r.IntN(len(m.Texts))] = strings.Repeat("t", pick(r, 0, 1, 63, 64, 65, 128))
		}
	case 1:
		m.Types = append(m.Types, pick(r, api.Type{Kind: 2}, api.Type{Kind: 4, Elem: pick(r, edges()...)}))
	case 2, 3:
		if len(m.Types) > 0 {
			spoilType(r, &m.Types[r.IntN(len(m.Types))])
		}
	case 4:
		m.Funcs = slices.Repeat(m.Funcs, r.IntN(3))
	default:
		spoilFunc(r, &m.Funcs[r.IntN(len(m.Funcs))])
	}
	return m
}

// ofSize is an image that has some number of bytes, and nothing else that is wrong.
func ofSize(size int) api.Image {
	var m api.Image
	left := func() int { return size - len(oracleBytes(m)) }
	for left() > 2000 {
		n := 100
		if left() > 4000 {
			n = 200
		}
		f := bare(fmt.Sprintf("f%d", len(m.Funcs)), n)
		f.Code = slices.Repeat([]api.Instr{{Op: api.OpInt, B: math.MinInt}}, n)
		m.Funcs = append(m.Funcs, f)
	}
	for left() > 0 {
		m.Texts = append(m.Texts, strings.Repeat("t", min(left(), 65)-1))
	}
	return m
}

// told is what is told of an image.
func told(m api.Image) string {
	s := fmt.Sprintf("%+v", m)
	if len(s) > 1000 {
		return fmt.Sprintf("%s .. (%d types, %d texts, %d functions)", s[:1000], len(m.Types), len(m.Texts), len(m.Funcs))
	}
	return s
}

// toldBytes is what is told of bytes.
func toldBytes(b []byte) string {
	if len(b) > 200 {
		return fmt.Sprintf("%d bytes, from %v to %v", len(b), b[:100], b[len(b)-20:])
	}
	return fmt.Sprint(b)
}

// checkNotValid calls all functions with an image for which they have the error of Check, whatever else is wrong.
func checkNotValid(t *testing.T, m api.Image, want api.Errno) {
	t.Helper()
	if e := Check(m); e != want {
		t.Fatalf("Check of %s: error %d, not %d", told(m), e, want)
	}
	if b, e := Encode(m); e != want || len(b) != 0 {
		t.Fatalf("Encode of %s: %s, error %d, not %d", told(m), toldBytes(b), e, want)
	}
	for _, i := range []int{0, -1, 1, 200, math.MinInt, math.MaxInt} {
		checkAddressError(t, m, i, 0, want)
		checkAddressError(t, m, 0, i, want)
	}
	for _, a := range []uint64{0, 255, 256, 257, 512, 1 << 63, largest} {
		checkFindError(t, m, a, want)
	}
}

func checkAddressError(t *testing.T, m api.Image, f, i int, want api.Errno) {
	t.Helper()
	if a, e := Address(m, f, i); e != want || a != 0 {
		t.Fatalf("Address of %s for %d, %d: %d, error %d, not %d", told(m), f, i, a, e, want)
	}
}

func checkFindError(t *testing.T, m api.Image, a uint64, want api.Errno) {
	t.Helper()
	if f, i, e := Find(m, a); e != want || f != 0 || i != 0 {
		t.Fatalf("Find of %s for %d: %d, %d, error %d, not %d", told(m), a, f, i, e, want)
	}
}

func checkDecode(t *testing.T, b []byte, want api.Image) {
	t.Helper()
	if m, e := Decode(b); e != api.OK || !equal(m, want) {
		t.Fatalf("Decode of %s: %s, error %d, not %s", toldBytes(b), told(m), e, told(want))
	}
}

func checkDecodeError(t *testing.T, b []byte, want api.Errno) {
	t.Helper()
	if m, e := Decode(b); e != want || !equal(m, api.Image{}) {
		t.Fatalf("Decode of %s: %s, error %d, not %d", toldBytes(b), told(m), e, want)
	}
}

// checkValid checks that an image is valid, and what its bytes are, and reads these.
func checkValid(t *testing.T, m api.Image) {
	t.Helper()
	if e := Check(m); e != api.OK {
		t.Fatalf("Check of %s: error %d", told(m), e)
	}
	want := oracleBytes(m)
	if b, e := Encode(m); e != api.OK || !bytes.Equal(b, want) {
		t.Fatalf("Encode of %s: %s, error %d, not %s", told(m), toldBytes(b), e, toldBytes(want))
	}
	checkDecode(t, want, m)
}

// checkAsTheOracle checks an image that may be valid or not.
func checkAsTheOracle(t *testing.T, m api.Image) {
	t.Helper()
	if want := oracleCheck(m); want != api.OK {
		checkNotValid(t, m, want)
		return
	}
	checkValid(t, m)
}

// checkDecodeAsTheOracle reads bytes that may be those of an image or not, and writes again what was read.
func checkDecodeAsTheOracle(t *testing.T, b []byte) bool {
	t.Helper()
	want, e := oracleDecode(b)
	if e != api.OK {
		checkDecodeError(t, b, e)
		return false
	}
	checkDecode(t, b, want)
	if again, e := Encode(want); e != api.OK || !bytes.Equal(again, b) {
		t.Fatalf("%s were read, and give %s, error %d", toldBytes(b), toldBytes(again), e)
	}
	return true
}

// All promises

func TestTheChaptersExample(t *testing.T) {
	m, want := least()
	checkValid(t, m)
	if b, e := Encode(m); e != api.OK || !bytes.Equal(b, want) {
		t.Errorf("Encode: %v, error %d", b, e)
	}
	checkDecode(t, want, m)
	if a, e := Address(m, 0, 0); e != api.OK || a != 256 {
		t.Errorf("Address: %d, error %d", a, e)
	}
	if f, i, e := Find(m, 256); e != api.OK || f != 0 || i != 0 {
		t.Errorf("Find: %d, %d, error %d", f, i, e)
	}
}

func TestAnExampleOfAllParts(t *testing.T) {
	m, want := example(), exampleBytes()
	checkValid(t, m)
	if b, e := Encode(m); e != api.OK || !bytes.Equal(b, want) {
		t.Errorf("Encode: %v, error %d, not %v", b, e, want)
	}
	checkDecode(t, want, m)
}

// changes are named ways to change the example.
type changes map[string]func(m *api.Image)

// first and last are the functions of the example.
func first(m *api.Image) *api.Func { return &m.Funcs[0] }

func last(m *api.Image) *api.Func { return &m.Funcs[1] }

// checkChanges checks the example with each of the changes.
func checkChanges(t *testing.T, l changes, want api.Errno) {
	t.Helper()
	for name, change := range l {
		m := example()
		change(&m)
		if e := oracleCheck(m); e != want {
			t.Errorf("%s: the oracle has the error %d, not %d", name, e, want)
		}
		t.Run(name, func(t *testing.T) { checkAsTheOracle(t, m) })
	}
}

// bools are seven types, of which the last one is a struct of 256 bools.
func bools() []api.Type {
	return []api.Type{
		{Kind: api.KindBool},
		{Kind: api.KindArray, Elem: 0, Len: 16},
		{Kind: api.KindArray, Elem: 1, Len: 15},
		{Kind: api.KindPointer},
		{Kind: api.KindPointer},
		{Kind: api.KindPointer},
		sized(1, 2),
	}
}

func pointers(n int) []api.Type {
	return slices.Repeat([]api.Type{{Kind: api.KindPointer}}, n)
}

// P9.1: Check

func TestTypesOfImages(t *testing.T) {
	checkChanges(t, changes{
		"32 types":          func(m *api.Image) { m.Types = pointers(32) },
		"size 256 of bools": func(m *api.Image) { m.Types = bools() },
		"size 256 of texts": func(m *api.Image) {
			m.Types = append(m.Types, api.Type{Kind: api.KindArray, Elem: 2, Len: 16})
		},
		"a pointer of the last one": func(m *api.Image) { m.Types[3].Elem = 6 },
		"the same fields":           func(m *api.Image) { m.Types = append(m.Types, m.Types[4]) },
		"8 fields": func(m *api.Image) {
			m.Types[4].Fields = nil
			for i := range 8 {
				m.Types[4].Fields = append(m.Types[4].Fields, api.Field{Name: fmt.Sprintf("a%d", i), Type: i % 3})
			}
			m.Types[5].Len = 3
		},
		"a slot of the last of 32":    func(m *api.Image) { m.Types = pointers(32); last(m).Slots[0].Type = 31 },
		"a result of the last of 32":  func(m *api.Image) { m.Types = pointers(32); last(m).Result = 31 },
		"a pointer of the last of 32": func(m *api.Image) { m.Types = pointers(32); m.Types[0].Elem = 31 },
		"a slice of the last of 32":   func(m *api.Image) { m.Types = append(pointers(31), api.Type{Kind: api.KindSlice, Elem: 31}) },
		"an array of one before it":   func(m *api.Image) { m.Types = append(pointers(31), api.Type{Kind: api.KindArray, Elem: 30, Len: 16}) },
		"a field of one before it":    func(m *api.Image) { m.Types = append(pointers(31), sized(0, 30)) },
		"no types": func(m *api.Image) {
			*m, _ = least()
			m.Types = []api.Type{}
		},
	}, api.OK)
	checkChanges(t, changes{
		"33 types":                func(m *api.Image) { m.Types = pointers(33) },
		"fewer than are used":     func(m *api.Image) { m.Types = m.Types[:6] },
		"kind 0":                  func(m *api.Image) { m.Types[0].Kind = 0 },
		"kind 8":                  func(m *api.Image) { m.Types[0].Kind = 8 },
		"an array of itself":      func(m *api.Image) { m.Types[5].Elem = 5 },
		"an array of 17":          func(m *api.Image) { m.Types[5] = api.Type{Kind: api.KindArray, Elem: 1, Len: 17} },
		"a pointer of none":       func(m *api.Image) { m.Types[3].Elem = 7 },
		"an int with a field":     func(m *api.Image) { m.Types[0].Fields = []api.Field{{Name: "a"}} },
		"a struct without fields": func(m *api.Image) { m.Types[4].Fields = nil },
		"a field without a name":  func(m *api.Image) { m.Types[4].Fields[0].Name = "" },
		"two fields with a name":  func(m *api.Image) { m.Types[4].Fields[1].Name = "a" },
		"a slice with a length":   func(m *api.Image) { m.Types[6].Len = 1 },
		"a slice of wide things":  func(m *api.Image) { m.Types[6].Elem = 5; m.Types[3].Elem = 6 },
		"size 257 of bools": func(m *api.Image) {
			m.Types = bools()
			m.Types[6].Fields = append(m.Types[6].Fields, api.Field{Name: "c", Type: 0})
		},
		"size 264, the last one": func(m *api.Image) { m.Types = append(m.Types, sized(5, 0)) },
		"size 272, the last one": func(m *api.Image) { m.Types = append(m.Types, sized(5, 2)) },
		"size 384, a middle one": func(m *api.Image) {
			m.Types = append(m.Types, api.Type{Kind: api.KindArray, Elem: 6, Len: 16}, m.Types[0])
		},
		"size 512, that nobody has": func(m *api.Image) { m.Types = append(m.Types, sized(5, 5)) },
	}, api.ErrBad)
}

// sized is a struct of two types.
func sized(i, k int) api.Type {
	return api.Type{Kind: api.KindStruct, Fields: []api.Field{{Name: "a", Type: i}, {Name: "b", Type: k}}}
}

func TestTextsOfImages(t *testing.T) {
	checkChanges(t, changes{
		"none":         func(m *api.Image) { m.Texts = nil },
		"32 texts":     func(m *api.Image) { m.Texts = make([]string, 32) },
		"32 long ones": func(m *api.Image) { m.Texts = slices.Repeat([]string{strings.Repeat("t", 64)}, 32) },
		"64 bytes":     func(m *api.Image) { m.Texts[2] = strings.Repeat("\x00", 64) },
		"the same":     func(m *api.Image) { m.Texts[0] = m.Texts[1] },
		"any bytes":    func(m *api.Image) { m.Texts[0] = "\x00\n\"\xff\u2028 \\" },
	}, api.OK)
	checkChanges(t, changes{
		"33 texts":           func(m *api.Image) { m.Texts = make([]string, 33) },
		"65 bytes":           func(m *api.Image) { m.Texts[2] = strings.Repeat("t", 65) },
		"65 bytes, first":    func(m *api.Image) { m.Texts[0] = strings.Repeat("t", 65) },
		"64 runes of 2 each": func(m *api.Image) { m.Texts[1] = strings.Repeat("\u00e9", 64) },
		"a great many bytes": func(m *api.Image) { m.Texts[1] = strings.Repeat("t", 1<<20) },
		"a great many texts": func(m *api.Image) { m.Texts = make([]string, 1<<20) },
	}, api.ErrBad)
}

func TestFunctionsOfImages(t *testing.T) {
	some := func(n int) []api.Func {
		l := make([]api.Func, n)
		for i := range l {
			l[i] = bare(fmt.Sprintf("f%d", i), 1)
		}
		return l
	}
	checkChanges(t, changes{
		"one":                  func(m *api.Image) { m.Funcs = m.Funcs[:1] },
		"32 functions":         func(m *api.Image) { m.Funcs = some(32) },
		"no main":              func(m *api.Image) { first(m).Name = "z" },
		"one letter":           func(m *api.Image) { last(m).Name = "Z" },
		"16 bytes":             func(m *api.Image) { last(m).Name = "aZ09" + strings.Repeat("b", 12) },
		"the name in capitals": func(m *api.Image) { last(m).Name = "Main" },
		"the name of a slot":   func(m *api.Image) { last(m).Name = "x" },
		"alike but the name":   func(m *api.Image) { *last(m) = *first(m); last(m).Name = "f" },
	}, api.OK)
	checkChanges(t, changes{
		"none":                   func(m *api.Image) { m.Funcs = nil },
		"none, empty":            func(m *api.Image) { m.Funcs = []api.Func{} },
		"33 functions":           func(m *api.Image) { m.Funcs = some(33) },
		"a great many":           func(m *api.Image) { m.Funcs = make([]api.Func, 1<<16) },
		"the same name":          func(m *api.Image) { last(m).Name = "main" },
		"the same name, further": func(m *api.Image) { m.Funcs = append(some(5), bare("f0", 1)) },
		"the same name, last":    func(m *api.Image) { m.Funcs = append(some(5), bare("f4", 1)) },
		"no name":                func(m *api.Image) { last(m).Name = "" },
		"no name, first":         func(m *api.Image) { first(m).Name = "" },
		"17 bytes":               func(m *api.Image) { last(m).Name = strings.Repeat("b", 17) },
		"a digit first":          func(m *api.Image) { last(m).Name = "2f" },
		"a space":                func(m *api.Image) { last(m).Name = "f " },
		"a line end":             func(m *api.Image) { last(m).Name = "f\n" },
		"another letter":         func(m *api.Image) { last(m).Name = "\u00e9" },
		"a mark":                 func(m *api.Image) { first(m).Name = "a_b" },
	}, api.ErrBad)
}

func TestSlotsOfFunctions(t *testing.T) {
	some := func(n int) []api.Field {
		l := make([]api.Field, n)
		for i := range l {
			l[i] = api.Field{Name: fmt.Sprintf("s%d", i), Type: i % 7}
		}
		return l
	}
	checkChanges(t, changes{
		"none":           func(m *api.Image) { first(m).Slots = nil },
		"16 slots":       func(m *api.Image) { last(m).Slots = some(16) },
		"16 parameters":  func(m *api.Image) { last(m).Slots, last(m).Params = some(16), 16 },
		"no parameter":   func(m *api.Image) { last(m).Params = 0 },
		"all are some":   func(m *api.Image) { first(m).Params = 2 },
		"the last type":  func(m *api.Image) { last(m).Slots[0].Type = 6 },
		"a long name":    func(m *api.Image) { last(m).Slots[0].Name = strings.Repeat("Y", 16) },
		"result of main": func(m *api.Image) { first(m).Result = 0 },
		"the last one":   func(m *api.Image) { first(m).Result = 6 },
	}, api.OK)
	wrong := changes{
		"17 slots":       func(m *api.Image) { last(m).Slots = some(17) },
		"a great many":   func(m *api.Image) { last(m).Slots = some(1 << 16) },
		"the same name":  func(m *api.Image) { first(m).Slots[1].Name = "x" },
		"the same, last": func(m *api.Image) { last(m).Slots = append(some(9), api.Field{Name: "s0"}) },
	}
	for _, s := range []string{"", "1", "a b", "x-", "\u00e9", "x\x00", strings.Repeat("x", 17), strings.Repeat("x", 1<<16)} {
		wrong[fmt.Sprintf("the name %.20q", s)] = func(m *api.Image) { last(m).Slots[0].Name = s }
		wrong[fmt.Sprintf("the name %.20q, main's last", s)] = func(m *api.Image) { first(m).Slots[1].Name = s }
	}
	for _, n := range edges() {
		if n < 0 || n > 1 {
			wrong[fmt.Sprintf("%d parameters", n)] = func(m *api.Image) { last(m).Params = n }
		}
		if n < 0 || n > 6 {
			wrong[fmt.Sprintf("a slot of the type %d", n)] = func(m *api.Image) { last(m).Slots[0].Type = n }
			wrong[fmt.Sprintf("main's last slot of the type %d", n)] = func(m *api.Image) { first(m).Slots[1].Type = n }
		}
		if n < -1 || n > 6 {
			wrong[fmt.Sprintf("the result %d", n)] = func(m *api.Image) { last(m).Result = n }
			wrong[fmt.Sprintf("the result %d of main", n)] = func(m *api.Image) { first(m).Result = n }
		}
	}
	checkChanges(t, wrong, api.ErrBad)
}

// Without types there are neither slots nor results.
func TestFunctionsOfImagesWithoutTypes(t *testing.T) {
	m, _ := least()
	m.Funcs[0].Result = 0
	checkNotValid(t, m, api.ErrBad)
	m, _ = least()
	m.Funcs[0].Slots = []api.Field{{Name: "x", Type: 0}}
	checkNotValid(t, m, api.ErrBad)
	m.Types = []api.Type{{Kind: api.KindInt}}
	checkValid(t, m)
}

func TestCodeOfFunctions(t *testing.T) {
	code := func(l ...api.Instr) func(m *api.Image) {
		return func(m *api.Image) {
			last(m).Code, last(m).Sizes, last(m).Lives = l, []api.Run{{}}, []api.Run{{}}
		}
	}
	yields := func(n int) []api.Instr { return slices.Repeat([]api.Instr{{Op: api.OpYield}}, n) }
	// Whether the code makes sense is not told here: slots, texts, fields, functions and instructions need not be there.
	checkChanges(t, changes{
		"one":              code(yields(1)...),
		"199 instructions": code(yields(199)...),
		"200 instructions": code(yields(200)...),
		"no such slot":     code(api.Instr{Op: api.OpAdd, A: 15, B: 15, C: 15}),
		"no such text":     code(api.Instr{Op: api.OpText, B: 31}),
		"no such field":    code(api.Instr{Op: api.OpField, C: 7}),
		"no such function": code(api.Instr{Op: api.OpGo, A: 31}),
		"no such place":    code(api.Instr{Op: api.OpJump, A: 199}),
		"greatest int":     code(api.Instr{Op: api.OpInt, B: math.MaxInt}),
		"least int":        code(api.Instr{Op: api.OpInt, B: math.MinInt}),
	}, api.OK)
	wrong := changes{
		"none":             code(),
		"201 instructions": code(yields(201)...),
		"a great many":     code(yields(1 << 16)...),
	}
	for _, x := range []api.Instr{{}, {Op: 35}, {Op: 255}, {Op: api.OpYield, A: 1}, {Op: api.OpAdd, A: 16}, {Op: api.OpReturn, A: -2}, {Op: api.OpBool, B: 2}, {Op: api.OpJump, A: 200}} {
		for _, i := range []int{0, 1, 198, 199} {
			l := yields(200)
			l[i] = x
			wrong[fmt.Sprintf("%v at %d", x, i)] = code(l...)
		}
		wrong[fmt.Sprintf("%v in main", x)] = func(m *api.Image) { first(m).Code[3] = x }
	}
	checkChanges(t, wrong, api.ErrBad)
}

func TestTablesOfFunctions(t *testing.T) {
	right := [][]api.Run{
		{{From: 0, Value: 0}},
		{{From: 0, Value: largest}},
		{{From: 0, Value: 1}, {From: 1, Value: 0}},
		{{From: 0, Value: 1 << 63}, {From: 3, Value: 5}},
		{{From: 0, Value: 1}, {From: 1, Value: 2}, {From: 2, Value: 1}, {From: 3, Value: 2}},
	}
	wrong := [][]api.Run{
		nil,
		{},
		{{From: 1, Value: 0}},
		{{From: -1, Value: 0}},
		{{From: 0, Value: 1}, {From: 0, Value: 0}},
		{{From: 0, Value: 1}, {From: 1, Value: 1}},
		{{From: 0, Value: 1}, {From: 4, Value: 0}},
		{{From: 0, Value: 1}, {From: 200, Value: 0}},
		{{From: 0, Value: 1}, {From: 3, Value: 0}, {From: 2, Value: 1}},
		{{From: 0, Value: 1}, {From: 1, Value: 0}, {From: 3, Value: 0}},
		make([]api.Run, 1<<16),
	}
	for want, tables := range map[api.Errno][][]api.Run{api.OK: right, api.ErrBad: wrong} {
		l := changes{}
		for i, runs := range tables {
			l[fmt.Sprintf("sizes %d", i)] = func(m *api.Image) { first(m).Sizes = runs }
			l[fmt.Sprintf("lives %d", i)] = func(m *api.Image) { first(m).Lives = runs }
		}
		checkChanges(t, l, want)
	}
	// The last function has two instructions, so a table of the first one is none of its.
	checkChanges(t, changes{
		"sizes of another one": func(m *api.Image) { last(m).Sizes = first(m).Sizes },
		"lives of another one": func(m *api.Image) { last(m).Lives = first(m).Lives },
	}, api.ErrBad)
}

func TestManyBytes(t *testing.T) {
	for _, size := range []int{19000, 19998, 19999, 20000} {
		m := ofSize(size)
		checkValid(t, m)
		if b, e := Encode(m); e != api.OK || len(b) != size {
			t.Errorf("%d bytes, error %d, not %d", len(b), e, size)
		}
	}
	for _, size := range []int{20001, 20002, 21000, 30000, 50000} {
		m := ofSize(size)
		checkNotValid(t, m, api.ErrMany)
		checkDecodeError(t, oracleBytes(m), api.ErrMany)
	}
	// All that there may be.
	m := ofSize(77000)
	m.Texts = slices.Repeat([]string{strings.Repeat("t", 64)}, 32)
	checkNotValid(t, m, api.ErrMany)
	// What is not valid is so before it has too many bytes.
	m.Texts = append(m.Texts, "")
	checkNotValid(t, m, api.ErrBad)
	m = ofSize(20001)
	m.Funcs[len(m.Funcs)-1].Code[99] = api.Instr{}
	checkNotValid(t, m, api.ErrBad)
}

func TestCheckIsThatOfTheChapter(t *testing.T) {
	r := rule(1)
	right := 0
	for range 20000 {
		m := someImage(r)
		checkValid(t, m)
		for range 1 + r.IntN(2) {
			// Spoiling needs a function with code and runs.
			if oracleIsValid(m) {
				m = spoiled(r, m)
			}
		}
		checkAsTheOracle(t, m)
		if oracleIsValid(m) {
			right++
		}
	}
	if right < 2000 || right > 18000 {
		t.Errorf("%d of 20000 are valid", right)
	}
}

// P9.1: Address and Find

// placed are images with functions of different lengths.
func placed() []api.Image {
	m, _ := least()
	n := api.Image{Funcs: []api.Func{bare("a", 200), bare("b", 1), bare("c", 199), bare("d", 7)}}
	var all api.Image
	for i := range 32 {
		all.Funcs = append(all.Funcs, bare(fmt.Sprintf("f%d", i), 1+i*i%7))
	}
	all.Funcs[31] = bare("last", 200)
	return []api.Image{m, n, all, example()}
}

func TestAddressOfEachInstruction(t *testing.T) {
	for _, m := range placed() {
		for f := range m.Funcs {
			for i := range m.Funcs[f].Code {
				want := uint64(256*(f+1) + i)
				if a, e := Address(m, f, i); e != api.OK || a != want {
					t.Fatalf("Address of %d, %d: %d, error %d, not %d", f, i, a, e, want)
				}
				if g, k, e := Find(m, want); e != api.OK || g != f || k != i {
					t.Fatalf("Find of %d: %d, %d, error %d, not %d, %d", want, g, k, e, f, i)
				}
			}
		}
	}
	// The greatest one that there is.
	m := placed()[2]
	if a, e := Address(m, 31, 199); e != api.OK || a != 8391 {
		t.Errorf("the greatest address is %d, error %d", a, e)
	}
}

func TestAddressOfInstructionsThatAreNotThere(t *testing.T) {
	for _, m := range placed() {
		for _, n := range edges() {
			if n < 0 || n >= len(m.Funcs) {
				checkAddressError(t, m, n, 0, api.ErrArg)
				checkAddressError(t, m, n, n, api.ErrArg)
				checkAddressError(t, m, n, -1, api.ErrArg)
			}
			for f := range m.Funcs {
				if n < 0 || n >= len(m.Funcs[f].Code) {
					checkAddressError(t, m, f, n, api.ErrArg)
				}
			}
		}
	}
}

func TestFindOfEachAddress(t *testing.T) {
	for _, m := range placed() {
		there := map[uint64][2]int{}
		for f := range m.Funcs {
			for i := range m.Funcs[f].Code {
				there[uint64(256+256*f+i)] = [2]int{f, i}
			}
		}
		for a := range uint64(256 * 35) {
			want, ok := there[a]
			if !ok {
				checkFindError(t, m, a, api.ErrNone)
				continue
			}
			if f, i, e := Find(m, a); e != api.OK || f != want[0] || i != want[1] {
				t.Fatalf("Find of %d: %d, %d, error %d, not %v", a, f, i, e, want)
			}
		}
	}
}

func TestFindOfGreatAddresses(t *testing.T) {
	m, _ := least()
	for _, m := range append(placed(), m) {
		for bit := 14; bit < 64; bit++ {
			for _, low := range []uint64{0, 1, 255, 256, 257, 511, 512} {
				checkFindError(t, m, 1<<bit+low, api.ErrNone)
			}
		}
		for below := range uint64(1024) {
			checkFindError(t, m, largest-below, api.ErrNone)
		}
		checkFindError(t, m, 1<<63-1, api.ErrNone)
	}
}

// P9.2

func TestDecodeOfBytesThatEndTooEarly(t *testing.T) {
	for _, m := range append(placed(), ofSize(3000)) {
		b := oracleBytes(m)
		for have := range b {
			if have < 300 || have > len(b)-300 || have%97 == 0 {
				checkDecodeError(t, b[:have], api.ErrForm)
			}
		}
	}
	checkDecodeError(t, nil, api.ErrForm)
	checkDecodeError(t, []byte{}, api.ErrForm)
	// What is behind the length is not there.
	_, b := least()
	checkDecodeError(t, b[:len(b)-1:len(b)], api.ErrForm)
}

func TestDecodeOfBytesThatGoOn(t *testing.T) {
	for _, m := range placed() {
		b := oracleBytes(m)
		for _, more := range [][]byte{{0}, {1}, {34, 1}, {128}, {255}, {0, 0, 0}, b} {
			checkDecodeError(t, slices.Concat(b, more), api.ErrForm)
			checkDecodeAsTheOracle(t, slices.Concat(more, b))
		}
	}
}

func TestDecodeOfManyBytes(t *testing.T) {
	_, b := least()
	for _, size := range []int{20001, 20002, 25000, 200000, 200001, 1 << 20} {
		checkDecodeError(t, make([]byte, size), api.ErrMany)
		checkDecodeError(t, append(slices.Clone(b), make([]byte, size-len(b))...), api.ErrMany)
	}
	checkDecodeError(t, make([]byte, 20000), api.ErrForm)
	checkDecodeError(t, append(slices.Clone(b), make([]byte, 20000-len(b))...), api.ErrForm)
	checkDecodeError(t, append(oracleBytes(ofSize(20000)), 0), api.ErrMany)
}

// Each number of an image, written in another way, or another one in its place.
func TestDecodeOfOtherNumbers(t *testing.T) {
	for _, m := range []api.Image{example(), ofSize(3000)} {
		count := oracleWriter{at: -1}
		count.image(m)
		with := func(k int, instead func(n uint64) []byte) []byte {
			w := oracleWriter{at: k, instead: instead}
			w.image(m)
			return w.b
		}
		for k := range count.numbers {
			for _, zeros := range []int{1, 2, 8} {
				checkDecodeError(t, with(k, func(n uint64) []byte {
					b := binary.AppendUvarint(nil, n)
					b[len(b)-1] |= 128
					return append(append(b, bytes.Repeat([]byte{128}, zeros-1)...), 0)
				}), api.ErrForm)
			}
			for _, bit := range []int{0, 1, 3, 4, 5, 8, 16, 31, 32, 33, 62, 63} {
				checkDecodeAsTheOracle(t, with(k, func(n uint64) []byte { return binary.AppendUvarint(nil, n+1<<bit) }))
				checkDecodeAsTheOracle(t, with(k, func(n uint64) []byte { return binary.AppendUvarint(nil, n-1<<bit) }))
			}
			for _, b := range [][]byte{nil, {128}, bytes.Repeat([]byte{255}, 9), bytes.Repeat([]byte{255}, 10)} {
				checkDecodeAsTheOracle(t, with(k, func(uint64) []byte { return b }))
			}
		}
	}
}

// The bytes of images that are not valid are not those of an image.
func TestDecodeOfImagesThatAreNotValid(t *testing.T) {
	r := rule(2)
	wrong := 0
	for range 20000 {
		m := spoiled(r, someImage(r))
		if oracleIsValid(m) {
			continue
		}
		wrong++
		checkDecodeAsTheOracle(t, oracleBytes(m))
	}
	if wrong < 2000 {
		t.Errorf("only %d are not valid", wrong)
	}
	for _, change := range []func(m *api.Image){
		func(m *api.Image) { m.Types = pointers(33) },
		func(m *api.Image) { m.Texts = make([]string, 33) },
		func(m *api.Image) { m.Texts[0] = strings.Repeat("t", 65) },
		func(m *api.Image) { m.Funcs = nil },
		func(m *api.Image) { m.Types = append(m.Types, sized(5, 0)) },
		func(m *api.Image) { last(m).Name = "main" },
		func(m *api.Image) { last(m).Params = 2 },
		func(m *api.Image) { last(m).Result = 7 },
		func(m *api.Image) { last(m).Code, last(m).Sizes, last(m).Lives = nil, nil, nil },
		func(m *api.Image) { last(m).Code = slices.Repeat(last(m).Code, 101) },
		func(m *api.Image) { last(m).Lives = nil },
		func(m *api.Image) { first(m).Slots[1].Name = "x" },
	} {
		m := example()
		change(&m)
		checkDecodeError(t, oracleBytes(m), api.ErrForm)
	}
}

func TestDecodeOfEachByteChanged(t *testing.T) {
	_, b := least()
	read := 0
	for _, b := range [][]byte{b, exampleBytes()} {
		for i := range b {
			for x := range 256 {
				c := slices.Clone(b)
				c[i] = byte(x)
				if checkDecodeAsTheOracle(t, c) {
					read++
				}
				checkDecodeAsTheOracle(t, slices.Insert(slices.Clone(b), i, byte(x)))
			}
			checkDecodeAsTheOracle(t, slices.Delete(slices.Clone(b), i, i+1))
		}
	}
	if read < 1000 {
		t.Errorf("only %d were read", read)
	}
}

func TestDecodeIsThatOfTheChapter(t *testing.T) {
	r := rule(3)
	read := 0
	for range 50000 {
		b := oracleBytes(someImage(r))
		for range 1 + r.IntN(3) {
			i := r.IntN(len(b))
			switch x := byte(r.Uint32()) >> r.IntN(8); r.IntN(6) {
			case 0:
				b = slices.Insert(b, i, x)
			case 1:
				b = append(slices.Delete(b, i, i+1), 0)
			case 2:
				b[i] += x
			default:
				b[i] = x
			}
		}
		if checkDecodeAsTheOracle(t, b) {
			read++
		}
	}
	if read < 2000 {
		t.Errorf("only %d were read", read)
	}
}

func TestDecodeOfAnyBytes(t *testing.T) {
	r := rule(4)
	for range 50000 {
		b := make([]byte, r.IntN(60))
		for i := range b {
			b[i] = byte(r.Uint32()) >> r.IntN(8)
		}
		checkDecodeAsTheOracle(t, b)
	}
}

// P9.3

// manyImages are different valid images, most of them with but one difference from another one.
func manyImages() []api.Image {
	r := rule(5)
	m, _ := least()
	l := append(placed(), m, ofSize(20000))
	for range 500 {
		m := someImage(r)
		l = append(l, m)
		for range 20 {
			if n := spoiled(r, m); oracleCheck(n) == api.OK {
				l = append(l, n)
			}
		}
	}
	return l
}

func TestThereIsOneImageForEachString(t *testing.T) {
	images := map[string]api.Image{}
	for _, m := range manyImages() {
		b, e := Encode(m)
		if e != api.OK {
			t.Fatalf("Encode of %s: error %d", told(m), e)
		}
		checkDecode(t, b, m)
		if n, ok := images[string(b)]; ok && !equal(m, n) {
			t.Fatalf("%s and %s have the bytes %s", told(m), told(n), toldBytes(b))
		}
		images[string(b)] = m
	}
	if len(images) < 2000 {
		t.Errorf("only %d images", len(images))
	}
	all := make([]string, 0, len(images))
	for b := range images {
		all = append(all, b)
	}
	// What one is the beginning of stands right behind it.
	slices.Sort(all)
	for i := range len(all) - 1 {
		if strings.HasPrefix(all[i+1], all[i]) {
			t.Errorf("%v is the beginning of %v", []byte(all[i]), []byte(all[i+1]))
		}
	}
}

func TestDifferentInstructionsHaveDifferentAddresses(t *testing.T) {
	for _, m := range placed() {
		taken := map[uint64]bool{}
		for f := range m.Funcs {
			for i := range m.Funcs[f].Code {
				a, e := Address(m, f, i)
				if e != api.OK || a < 256 || taken[a] {
					t.Errorf("%d, %d: %d, error %d", f, i, a, e)
				}
				taken[a] = true
			}
		}
	}
}

// R2 and R3: arguments are only read, results share no memory, and nil is as good as empty.

func TestNilIsAsGoodAsEmpty(t *testing.T) {
	m, b := least()
	n := copied(m)
	n.Types, n.Texts, n.Funcs[0].Slots = []api.Type{}, []string{}, []api.Field{}
	for _, m := range []api.Image{m, n} {
		if c, e := Encode(m); e != api.OK || !bytes.Equal(c, b) {
			t.Errorf("%v, error %d, not %v", c, e, b)
		}
	}
	m, n = example(), example()
	for i := range n.Types {
		if len(n.Types[i].Fields) == 0 {
			n.Types[i].Fields = []api.Field{}
		}
	}
	checkValid(t, n)
	checkDecode(t, oracleBytes(m), n)
}

// roomy is the list with room behind it, in which there is something.
func roomy[T any](l []T, more ...T) []T {
	return append(slices.Clone(l), more...)[:len(l)]
}

// roomyImage is the example with room behind all of its lists.
func roomyImage() api.Image {
	m := example()
	m.Types = roomy(m.Types, api.Type{Kind: 77})
	m.Texts = roomy(m.Texts, "room")
	m.Funcs = roomy(m.Funcs, bare("room", 1))
	for i := range m.Types {
		m.Types[i].Fields = roomy(m.Types[i].Fields, api.Field{Name: "room"})
	}
	for i := range m.Funcs {
		f := &m.Funcs[i]
		f.Slots = roomy(f.Slots, api.Field{Name: "room"})
		f.Code = roomy(f.Code, api.Instr{Op: 77})
		f.Sizes = roomy(f.Sizes, api.Run{From: 77})
		f.Lives = roomy(f.Lives, api.Run{From: 77})
	}
	return m
}

// whole is the image with all that is behind the lengths of its lists.
func whole(m api.Image) api.Image {
	m.Types, m.Texts, m.Funcs = m.Types[:cap(m.Types)], m.Texts[:cap(m.Texts)], m.Funcs[:cap(m.Funcs)]
	m = copied(m)
	for i := range m.Types {
		t := &m.Types[i]
		t.Fields = t.Fields[:cap(t.Fields)]
	}
	for i := range m.Funcs {
		f := &m.Funcs[i]
		f.Slots, f.Code, f.Sizes, f.Lives = f.Slots[:cap(f.Slots)], f.Code[:cap(f.Code)], f.Sizes[:cap(f.Sizes)], f.Lives[:cap(f.Lives)]
	}
	return m
}

func TestArgumentsAreOnlyRead(t *testing.T) {
	m, kept := roomyImage(), whole(roomyImage())
	b := append(exampleBytes(), 77, 77, 77)
	size := len(b) - 3
	keptBytes := slices.Clone(b)
	for range 2 {
		checkValid(t, m)
		Address(m, 1, 1)
		Address(m, 9, 9)
		Find(m, 513)
		Find(m, 0)
		checkDecode(t, b[:size], m)
		checkDecodeError(t, b[:size-1], api.ErrForm)
		checkDecodeError(t, b, api.ErrForm)
	}
	if !equal(whole(m), kept) {
		t.Errorf("the image has become %s", told(whole(m)))
	}
	if !bytes.Equal(b, keptBytes) {
		t.Errorf("the bytes have become %v", b)
	}
}

// span is memory that a list has, all of its room too. The list is kept, so that no later one gets the same memory.
type span struct {
	from, end uintptr
	list      any
}

// spans are those of all lists in some value.
func spans(v reflect.Value) []span {
	var l []span
	switch v.Kind() {
	case reflect.Struct:
		for i := range v.NumField() {
			l = append(l, spans(v.Field(i))...)
		}
	case reflect.Slice:
		if size := uintptr(v.Cap()) * v.Type().Elem().Size(); size > 0 {
			l = append(l, span{v.Pointer(), v.Pointer() + size, v})
		}
		for i := range v.Len() {
			l = append(l, spans(v.Index(i))...)
		}
	}
	return l
}

func TestResultsShareNoMemory(t *testing.T) {
	b := exampleBytes()
	m, _ := Decode(b)
	n, _ := Decode(b)
	c, _ := Encode(m)
	d, _ := Encode(m)
	var all []span
	for _, v := range []any{b, m, n, c, d} {
		all = append(all, spans(reflect.ValueOf(v))...)
	}
	for i, s := range all {
		for _, u := range all[:i] {
			if s.from < u.end && u.from < s.end {
				t.Errorf("%x to %x and %x to %x are the same memory", s.from, s.end, u.from, u.end)
			}
		}
	}
	for i := range b {
		b[i], c[i] = 77, 77
	}
	if !equal(m, example()) || !equal(n, example()) || !bytes.Equal(d, exampleBytes()) {
		t.Errorf("%s, %s and %v", told(m), told(n), d)
	}
}
