package ops

import (
	"bytes"
	"encoding/binary"
	"fmt"
	"math"
	"math/rand/v2"
	"slices"
	"strconv"
	"strings"
	"testing"

	"wreckage/api"
	"wreckage/wire"
)

const largest = math.MaxUint64

// chapter is the chapter's table, word by word.
const chapter = `
| OpInt 1 | slot, written | any int | |
| OpText 2 | slot, written | text | |
| OpBool 3 | slot, written | 0 or 1 | |
| OpZero 4, OpNew 15 | slot, written | | |
| OpCopy 5, OpNot 12, OpLoad 16, OpMake 18, OpLen 21 | slot, written | slot, read | |
| OpAdd 6, OpSub 7, OpMul 8, OpDiv 9, OpLess 10, OpSame 11, OpAt 19 | slot, written | slot, read | slot, read |
| OpField 13 | slot, written | slot, read | field |
| OpPut 14 | slot, read | field | slot, read |
| OpStore 17 | slot, read | slot, read | |
| OpSet 20 | slot, read | slot, read | slot, read |
| OpJump 22 | instruction | | |
| OpBranch 23 | slot, read | instruction | |
| OpArg 24, OpPanic 28, OpBlock 32 | slot, read | | |
| OpCall 25 | slot, written, or -1 | function | |
| OpDefer 26, OpGo 27 | function | | |
| OpRecover 29 | slot, written | slot, written | |
| OpExit 30, OpYield 31 | | | |
| OpWake 33 | slot, written | slot, read | |
| OpReturn 34 | slot, read, or -1 | | |
`

// row is what the chapter says of an operation: its name, and what its operands are, in the chapter's words.
type row struct {
	name  string
	words [3]string
}

// rows are the operations of the chapter's table. Whoever calls it changes nothing.
var rows = readChapter()

func readChapter() map[uint8]row {
	all := map[uint8]row{}
	for line := range strings.Lines(strings.TrimSpace(chapter)) {
		cells := strings.Split(line, "|")
		var words [3]string
		for i := range words {
			words[i] = strings.TrimSpace(cells[2+i])
		}
		for one := range strings.SplitSeq(cells[1], ",") {
			name, op, _ := strings.Cut(strings.TrimSpace(one), " ")
			n, err := strconv.ParseUint(op, 10, 8)
			if err != nil {
				panic(err)
			}
			all[uint8(n)] = row{strings.ToLower(strings.TrimPrefix(name, "Op")), words}
		}
	}
	return all
}

// span is the least and the greatest value of an operand.
func span(words string) (least, greatest int) {
	switch words {
	case "":
		return 0, 0
	case "any int":
		return math.MinInt, math.MaxInt
	case "0 or 1":
		return 0, 1
	case "text":
		return 0, 31
	case "field":
		return 0, 7
	case "function":
		return 0, 31
	case "instruction":
		return 0, 199
	case "slot, read", "slot, written":
		return 0, 15
	case "slot, read, or -1", "slot, written, or -1":
		return -1, 15
	}
	panic(words)
}

func values(x api.Instr) [3]int {
	return [3]int{x.A, x.B, x.C}
}

func instr(op uint8, v [3]int) api.Instr {
	return api.Instr{Op: op, A: v[0], B: v[1], C: v[2]}
}

// oracleCheck is whether an instruction is valid, by the words of the chapter.
func oracleCheck(x api.Instr) api.Errno {
	r, ok := rows[x.Op]
	if !ok {
		return api.ErrBad
	}
	for i, n := range values(x) {
		if least, greatest := span(r.words[i]); n < least || n > greatest {
			return api.ErrBad
		}
	}
	return api.OK
}

func oracleIsSigned(words string) bool {
	return words == "any int" || strings.HasSuffix(words, "-1")
}

// oracleBytes are the bytes of a valid instruction, put down by the library.
func oracleBytes(x api.Instr) []byte {
	b := []byte{x.Op}
	for i, words := range rows[x.Op].words {
		switch {
		case words == "":
		case oracleIsSigned(words):
			b = binary.AppendVarint(b, int64(values(x)[i]))
		default:
			b = binary.AppendUvarint(b, uint64(values(x)[i]))
		}
	}
	return b
}

// oracleSlots are the slots of a valid instruction that the chapter says to be read, or written.
func oracleSlots(x api.Instr, how string) []int {
	var l []int
	for i, words := range rows[x.Op].words {
		if strings.HasPrefix(words, "slot, "+how) && values(x)[i] != -1 {
			l = append(l, values(x)[i])
		}
	}
	return l
}

// oracleDecode reads an instruction, with wire's errors: how many bytes it has, what it is, or the error.
func oracleDecode(c api.Cursor) (int, api.Instr, api.Errno) {
	if len(c.Bytes) > 200000 || c.At < 0 || c.At > len(c.Bytes) {
		return 0, api.Instr{}, api.ErrBad
	}
	if c.At == len(c.Bytes) {
		return 0, api.Instr{}, api.ErrShort
	}
	op := c.Bytes[c.At]
	r, ok := rows[op]
	if !ok {
		return 0, api.Instr{}, api.ErrForm
	}
	from, fits := c.At, true
	c.At++
	var v [3]int
	for i, words := range r.words {
		if words == "" {
			continue
		}
		d, n, e := wire.Unvary(c, largest)
		if e != api.OK {
			return 0, api.Instr{}, e
		}
		if oracleIsSigned(words) {
			_, s, _ := wire.Unsigned(c)
			v[i] = int(s)
		} else {
			v[i] = int(n)
			fits = fits && n < 1000
		}
		c = d
	}
	x := instr(op, v)
	if !fits || oracleCheck(x) != api.OK {
		return 0, api.Instr{}, api.ErrForm
	}
	return c.At - from, x, api.OK
}

// rule gives different numbers, the same ones in each run.
func rule(seed uint64) *rand.Rand {
	return rand.New(rand.NewPCG(seed, 6))
}

// edges are numbers beside all limits of operands, and numbers that are equal to one of them but for some bits.
func edges() []int {
	l := []int{math.MinInt, math.MinInt + 1, math.MinInt32, math.MinInt32 - 1, -1 << 16, -256, -129, -128, -64, -63, -16, -3, -2, -1, 0, 1, 2, 3, 63, 64, 65, 127, 128, 129, 130}
	for _, n := range []int{8, 16, 32, 200, 256, 1 << 16, 1 << 32} {
		l = append(l, n-1, n, n+1)
	}
	return append(l, math.MaxInt32, math.MaxInt-1, math.MaxInt)
}

// possible are the values that an operand may have: all of them, but for those of an int.
func possible(words string) []int {
	least, greatest := span(words)
	if words == "any int" {
		return edges()
	}
	var l []int
	for n := least; n <= greatest; n++ {
		l = append(l, n)
	}
	return l
}

// validOnes calls f with each valid instruction: with each int that is one of the edges.
func validOnes(f func(api.Instr)) {
	for op := uint8(1); op <= 34; op++ {
		words := rows[op].words
		for _, a := range possible(words[0]) {
			for _, b := range possible(words[1]) {
				for _, c := range possible(words[2]) {
					f(api.Instr{Op: op, A: a, B: b, C: c})
				}
			}
		}
	}
}

// behind is what the tests put behind an encoding: nothing, and bytes of which each kind might be taken for more of it.
func behind() [][]byte {
	return [][]byte{nil, {0}, {1}, {127}, {128}, {255}, {34, 1}, {128, 0}, {0, 0, 0, 0}, bytes.Repeat([]byte{255}, 12)}
}

func at(place int, parts ...[]byte) api.Cursor {
	return api.Cursor{Bytes: slices.Concat(parts...), At: place}
}

// badCursors are cursors that are not valid.
func badCursors() []api.Cursor {
	b := []byte{31, 31, 31}
	long := bytes.Repeat([]byte{31}, api.MaxDump+1)
	return []api.Cursor{
		{Bytes: b, At: -1},
		{Bytes: b, At: 4},
		{Bytes: b, At: math.MaxInt},
		{Bytes: b, At: math.MinInt},
		{At: 1},
		{At: -1},
		{Bytes: append(make([]byte, 0, 9), 31), At: 2},
		{Bytes: long},
		{Bytes: long, At: 7},
		{Bytes: long, At: api.MaxDump + 1},
	}
}

// told is what is told of a cursor that may have many bytes.
func told(c api.Cursor) string {
	if len(c.Bytes) > 40 {
		return fmt.Sprintf("%d bytes at %d", len(c.Bytes), c.At)
	}
	return fmt.Sprintf("%v at %d", c.Bytes, c.At)
}

func checkDecode(t *testing.T, c api.Cursor, want api.Instr, size int) {
	t.Helper()
	d, x, e := Decode(c)
	if e != api.OK || x != want || d.At != c.At+size {
		t.Fatalf("Decode of %s: %v, at %d, error %d, not %v, at %d", told(c), x, d.At, e, want, c.At+size)
	}
	if len(d.Bytes) != len(c.Bytes) || &d.Bytes[0] != &c.Bytes[0] {
		t.Fatalf("Decode of %s: the bytes are not those of the cursor", told(c))
	}
}

func checkDecodeError(t *testing.T, c api.Cursor, want api.Errno) {
	t.Helper()
	if d, x, e := Decode(c); e != want || x != (api.Instr{}) || d.Bytes != nil || d.At != 0 {
		t.Fatalf("Decode of %s: %v, at %d of %d bytes, error %d, not %d", told(c), x, d.At, len(d.Bytes), e, want)
	}
}

func checkBytes(t *testing.T, x api.Instr, want ...byte) {
	t.Helper()
	if b, e := Encode(x); e != api.OK || !slices.Equal(b, want) {
		t.Errorf("Encode of %v: %v, error %d, not %v", x, b, e, want)
	}
	checkDecode(t, at(0, want), x, len(want))
}

func checkSlots(t *testing.T, x api.Instr, wantReads, wantWrites []int) {
	t.Helper()
	r, w, e := Slots(x)
	if e != api.OK || !slices.Equal(r, wantReads) || !slices.Equal(w, wantWrites) {
		t.Errorf("Slots of %v: %v, %v, error %d, not %v, %v", x, r, w, e, wantReads, wantWrites)
	}
}

// checkNotValid calls all functions with an instruction: all results but the error are zero.
func checkNotValid(t *testing.T, x api.Instr) {
	t.Helper()
	if e := Check(x); e != api.ErrBad {
		t.Errorf("Check of %v: error %d", x, e)
	}
	if b, e := Encode(x); e != api.ErrBad || len(b) != 0 {
		t.Errorf("Encode of %v: %v, error %d", x, b, e)
	}
	if r, w, e := Slots(x); e != api.ErrBad || len(r) != 0 || len(w) != 0 {
		t.Errorf("Slots of %v: %v, %v, error %d", x, r, w, e)
	}
}

func checkValid(t *testing.T, x api.Instr) {
	t.Helper()
	if e := Check(x); e != api.OK {
		t.Errorf("Check of %v: error %d", x, e)
	}
}

// P6.1

func TestEachOperationIsInTheTable(t *testing.T) {
	if len(rows) != 34 {
		t.Fatalf("%d operations", len(rows))
	}
	for op := uint8(1); op <= 34; op++ {
		if _, ok := rows[op]; !ok {
			t.Errorf("no operation %d", op)
		}
		checkValid(t, api.Instr{Op: op})
	}
}

func TestNumbersThatAreNoOperations(t *testing.T) {
	checkNotValid(t, api.Instr{})
	for op := 35; op < 256; op++ {
		checkNotValid(t, api.Instr{Op: uint8(op)})
		checkNotValid(t, api.Instr{Op: uint8(op), A: 1, B: 2, C: 3})
	}
	checkNotValid(t, api.Instr{A: 1})
}

func TestLimitsOfOperands(t *testing.T) {
	for _, c := range []struct {
		op              uint8
		place           int
		least, greatest int
	}{
		{api.OpText, 1, 0, 31},
		{api.OpBool, 1, 0, 1},
		{api.OpField, 2, 0, 7},
		{api.OpPut, 1, 0, 7},
		{api.OpJump, 0, 0, 199},
		{api.OpBranch, 0, 0, 15},
		{api.OpBranch, 1, 0, 199},
		{api.OpCall, 0, -1, 15},
		{api.OpCall, 1, 0, 31},
		{api.OpDefer, 0, 0, 31},
		{api.OpGo, 0, 0, 31},
		{api.OpReturn, 0, -1, 15},
		{api.OpAdd, 0, 0, 15},
		{api.OpAdd, 1, 0, 15},
		{api.OpAdd, 2, 0, 15},
		{api.OpArg, 0, 0, 15},
		{api.OpRecover, 0, 0, 15},
		{api.OpRecover, 1, 0, 15},
		{api.OpZero, 1, 0, 0},
		{api.OpCopy, 2, 0, 0},
		{api.OpInt, 2, 0, 0},
		{api.OpText, 2, 0, 0},
		{api.OpStore, 2, 0, 0},
		{api.OpJump, 1, 0, 0},
		{api.OpBranch, 2, 0, 0},
		{api.OpCall, 2, 0, 0},
		{api.OpYield, 0, 0, 0},
		{api.OpExit, 0, 0, 0},
		{api.OpExit, 1, 0, 0},
		{api.OpExit, 2, 0, 0},
		{api.OpReturn, 1, 0, 0},
	} {
		for _, n := range []int{c.least, c.greatest} {
			var v [3]int
			v[c.place] = n
			checkValid(t, instr(c.op, v))
		}
		for _, n := range []int{c.least - 1, c.greatest + 1, c.greatest + 256, c.greatest + 1<<32, math.MinInt, math.MaxInt} {
			var v [3]int
			v[c.place] = n
			checkNotValid(t, instr(c.op, v))
		}
	}
}

func TestTheIntOfAnOpIntIsAnyOne(t *testing.T) {
	for _, n := range edges() {
		checkValid(t, api.Instr{Op: api.OpInt, A: 15, B: n})
		checkNotValid(t, api.Instr{Op: api.OpInt, A: 16, B: n})
		checkNotValid(t, api.Instr{Op: api.OpInt, A: -1, B: n})
		checkNotValid(t, api.Instr{Op: api.OpInt, B: n, C: 1})
	}
}

func TestCheckIsThatOfTheChapter(t *testing.T) {
	l := edges()
	for op := range 256 {
		for _, a := range l {
			for _, b := range l {
				for _, c := range []int{math.MinInt, -2, -1, 0, 1, 7, 8, 15, 16, 199, math.MaxInt} {
					x := api.Instr{Op: uint8(op), A: a, B: b, C: c}
					if e := Check(x); e != oracleCheck(x) {
						t.Fatalf("%v: error %d, not %d", x, e, oracleCheck(x))
					}
				}
			}
		}
	}
	validOnes(func(x api.Instr) { checkValid(t, x) })
}

// A single operand that is out of its range is enough, wherever it stands.
func TestOneOperandThatIsNotValid(t *testing.T) {
	for op, r := range rows {
		for i := range r.words {
			for _, n := range edges() {
				v := [3]int{}
				v[i] = n
				if x := instr(op, v); oracleCheck(x) != api.OK {
					checkNotValid(t, x)
				}
			}
		}
	}
}

func TestNames(t *testing.T) {
	names := []string{
		"int", "text", "bool", "zero", "copy", "add", "sub", "mul", "div", "less", "same", "not",
		"field", "put", "new", "load", "store", "make", "at", "set", "len", "jump", "branch", "arg",
		"call", "defer", "go", "panic", "recover", "exit", "yield", "block", "wake", "return",
	}
	for i, name := range names {
		op := uint8(i + 1)
		if s, e := Name(op); s != name || e != api.OK {
			t.Errorf("Name of %d: %q, error %d, not %q", op, s, e, name)
		}
		if n, e := Op(name); n != op || e != api.OK {
			t.Errorf("Op of %q: %d, error %d, not %d", name, n, e, op)
		}
		if rows[op].name != name {
			t.Errorf("the table names %d %q, not %q", op, rows[op].name, name)
		}
	}
}

func TestNamesOfNoOperation(t *testing.T) {
	for op := range 256 {
		if op >= 1 && op <= 34 {
			continue
		}
		if s, e := Name(uint8(op)); s != "" || e != api.ErrNone {
			t.Errorf("Name of %d: %q, error %d", op, s, e)
		}
	}
}

func TestOpOfTextsThatAreNoNames(t *testing.T) {
	l := []string{"", " ", "\x00", "nop", "op", "i", "1", "34", "jumps", "string", strings.Repeat("int", 100000)}
	for _, r := range rows {
		l = append(l, strings.ToUpper(r.name), strings.ToUpper(r.name[:1])+r.name[1:], "Op"+r.name, "op"+r.name)
		l = append(l, " "+r.name, r.name+" ", r.name+"\x00", r.name+r.name, r.name[:len(r.name)-1], r.name+"s")
	}
	for _, s := range l {
		if op, e := Op(s); op != 0 || e != api.ErrNone {
			t.Errorf("Op of %.40q: %d, error %d", s, op, e)
		}
	}
}

// P6.2

func TestBytesOfExamples(t *testing.T) {
	checkBytes(t, api.Instr{Op: api.OpInt, A: 3, B: -1}, 1, 3, 1)
	checkBytes(t, api.Instr{Op: api.OpAdd, A: 0, B: 1, C: 2}, 6, 0, 1, 2)
	checkBytes(t, api.Instr{Op: api.OpReturn, A: -1}, 34, 1)
	checkBytes(t, api.Instr{Op: api.OpYield}, 31)
	checkBytes(t, api.Instr{Op: api.OpSet, A: 4, B: 5, C: 6}, 20, 4, 5, 6)

	checkBytes(t, api.Instr{Op: api.OpInt}, 1, 0, 0)
	checkBytes(t, api.Instr{Op: api.OpInt, A: 15, B: 64}, 1, 15, 128, 1)
	checkBytes(t, api.Instr{Op: api.OpInt, A: 15, B: -64}, 1, 15, 127)
	checkBytes(t, api.Instr{Op: api.OpInt, B: math.MaxInt64}, 1, 0, 254, 255, 255, 255, 255, 255, 255, 255, 255, 1)
	checkBytes(t, api.Instr{Op: api.OpInt, B: math.MinInt64}, 1, 0, 255, 255, 255, 255, 255, 255, 255, 255, 255, 1)
	checkBytes(t, api.Instr{Op: api.OpText, A: 1, B: 31}, 2, 1, 31)
	checkBytes(t, api.Instr{Op: api.OpBool, A: 1, B: 1}, 3, 1, 1)
	checkBytes(t, api.Instr{Op: api.OpZero, A: 9}, 4, 9)
	checkBytes(t, api.Instr{Op: api.OpField, A: 1, B: 2, C: 7}, 13, 1, 2, 7)
	checkBytes(t, api.Instr{Op: api.OpPut, A: 1, B: 7, C: 2}, 14, 1, 7, 2)
	checkBytes(t, api.Instr{Op: api.OpJump, A: 127}, 22, 127)
	checkBytes(t, api.Instr{Op: api.OpJump, A: 128}, 22, 128, 1)
	checkBytes(t, api.Instr{Op: api.OpJump, A: 199}, 22, 199, 1)
	checkBytes(t, api.Instr{Op: api.OpBranch, A: 15, B: 199}, 23, 15, 199, 1)
	checkBytes(t, api.Instr{Op: api.OpCall, A: -1, B: 31}, 25, 1, 31)
	checkBytes(t, api.Instr{Op: api.OpCall, A: 0, B: 31}, 25, 0, 31)
	checkBytes(t, api.Instr{Op: api.OpCall, A: 15, B: 0}, 25, 30, 0)
	checkBytes(t, api.Instr{Op: api.OpDefer, A: 31}, 26, 31)
	checkBytes(t, api.Instr{Op: api.OpRecover, A: 2, B: 3}, 29, 2, 3)
	checkBytes(t, api.Instr{Op: api.OpExit}, 30)
	checkBytes(t, api.Instr{Op: api.OpReturn, A: 0}, 34, 0)
	checkBytes(t, api.Instr{Op: api.OpReturn, A: 15}, 34, 30)
}

func TestBytesOfAllInstructions(t *testing.T) {
	validOnes(func(x api.Instr) {
		want := oracleBytes(x)
		if b, e := Encode(x); e != api.OK || !slices.Equal(b, want) {
			t.Fatalf("%v: %v, error %d, not %v", x, b, e, want)
		}
		checkDecode(t, at(0, want), x, len(want))
	})
}

func TestDecodeReadsFromAtOn(t *testing.T) {
	b := []byte{1, 3, 1, 6, 0, 1, 2, 34, 1, 31}
	checkDecode(t, at(0, b), api.Instr{Op: api.OpInt, A: 3, B: -1}, 3)
	checkDecodeError(t, at(1, b), api.ErrForm)
	checkDecode(t, at(2, b), api.Instr{Op: api.OpInt, A: 6, B: 0}, 3)
	checkDecode(t, at(3, b), api.Instr{Op: api.OpAdd, A: 0, B: 1, C: 2}, 4)
	checkDecodeError(t, at(4, b), api.ErrForm)
	checkDecode(t, at(5, b), api.Instr{Op: api.OpInt, A: 2, B: 17}, 3)
	checkDecodeError(t, at(6, b), api.ErrForm)
	checkDecode(t, at(7, b), api.Instr{Op: api.OpReturn, A: -1}, 2)
	checkDecodeError(t, at(8, b), api.ErrShort)
	checkDecode(t, at(9, b), api.Instr{Op: api.OpYield}, 1)
	checkDecodeError(t, at(10, b), api.ErrShort)
}

func TestDecodeOfACursorThatIsNotValid(t *testing.T) {
	for _, c := range badCursors() {
		checkDecodeError(t, c, api.ErrBad)
	}
	// One that has as many bytes as are allowed is valid.
	most := bytes.Repeat([]byte{31}, api.MaxDump)
	for _, place := range []int{0, 1, api.MaxDump - 1} {
		checkDecode(t, at(place, most), api.Instr{Op: api.OpYield}, 1)
	}
	checkDecodeError(t, at(api.MaxDump, most), api.ErrShort)
}

func TestDecodeOfNoBytes(t *testing.T) {
	checkDecodeError(t, api.Cursor{}, api.ErrShort)
	checkDecodeError(t, api.Cursor{Bytes: []byte{}}, api.ErrShort)
	checkDecodeError(t, at(2, []byte{31, 31}), api.ErrShort)
	// What is behind the length is not there.
	checkDecodeError(t, api.Cursor{Bytes: []byte{31, 31}[:1], At: 1}, api.ErrShort)
}

func TestDecodeOfNoOperation(t *testing.T) {
	for op := range 256 {
		if op >= 1 && op <= 34 {
			continue
		}
		for _, more := range behind() {
			checkDecodeError(t, at(0, []byte{byte(op)}, more), api.ErrForm)
			checkDecodeError(t, at(1, []byte{31, byte(op)}, more), api.ErrForm)
		}
	}
	// An operation is a byte, no minimal number.
	checkDecodeError(t, at(0, []byte{129, 0, 3, 1}), api.ErrForm)
	checkDecodeError(t, at(0, []byte{159, 0}), api.ErrForm)
}

func TestDecodeOfBytesThatEndTooEarly(t *testing.T) {
	validOnes(func(x api.Instr) {
		b := oracleBytes(x)
		for have := range b {
			checkDecodeError(t, at(0, b[:have]), api.ErrShort)
		}
	})
	checkDecodeError(t, at(3, []byte{31, 31, 31, 6, 0, 1}), api.ErrShort)
}

// operandsOf are how many operands an operation uses.
func operandsOf(op uint8) int {
	n := 0
	for _, words := range rows[op].words {
		if words != "" {
			n++
		}
	}
	return n
}

// An operand that is no minimal number, at each place of each operation, with good operands around it.
func TestDecodeOfOperandsThatAreNotMinimal(t *testing.T) {
	long := bytes.Repeat([]byte{255}, 9)
	for _, wrong := range [][]byte{{128, 0}, {129, 0}, {255, 0}, {128, 128, 0}, append(slices.Clone(long), 0), append(slices.Clone(long), 2), append(slices.Clone(long), 255)} {
		for op := range rows {
			for place := range operandsOf(op) {
				b := slices.Concat([]byte{op}, make([]byte, place), wrong)
				for _, more := range behind() {
					checkDecodeError(t, at(0, b, more), api.ErrForm)
				}
			}
		}
	}
}

// A number that is minimal is read whatever it is, and only then found not to be valid.
func TestDecodeOfOperandsThatAreTooGreat(t *testing.T) {
	for op, r := range rows {
		used := operandsOf(op)
		for place := range used {
			if r.words[place] == "any int" {
				continue
			}
			for _, n := range []uint64{400, 1 << 8, 1 << 16, 1 << 32, 1<<32 + 1, 1<<63 - 1, 1 << 63, 1<<63 + 1, largest - 1, largest} {
				b := slices.Concat([]byte{op}, make([]byte, place), binary.AppendUvarint(nil, n))
				checkDecodeError(t, at(0, b, make([]byte, used-place-1)), api.ErrForm)
				if place+1 < used {
					checkDecodeError(t, at(0, b), api.ErrShort)
				}
			}
		}
	}
}

func TestDecodeOfInstructionsThatAreNotValid(t *testing.T) {
	for _, b := range [][]byte{
		{1, 16, 1}, {2, 0, 32}, {2, 16, 0}, {3, 0, 2}, {4, 16}, {5, 0, 16}, {5, 16, 0}, {6, 0, 0, 16}, {6, 0, 16, 0},
		{13, 0, 0, 8}, {14, 0, 8, 0}, {14, 0, 0, 16}, {22, 200, 1}, {23, 16, 0}, {23, 0, 200, 1}, {24, 16},
		{25, 3, 0}, {25, 32, 0}, {25, 33, 0}, {25, 0, 32}, {25, 1, 32}, {26, 32}, {27, 32}, {29, 0, 16}, {29, 16, 0},
		{34, 3}, {34, 5}, {34, 32}, {34, 33}, {34, 254, 255, 255, 255, 255, 255, 255, 255, 255, 1}, {34, 255, 255, 255, 255, 255, 255, 255, 255, 255, 1},
	} {
		checkDecodeError(t, at(0, b), api.ErrForm)
		checkDecodeError(t, at(2, []byte{31, 31}, b, []byte{0, 0}), api.ErrForm)
	}
}

func TestDecodeErrorsInTheirOrder(t *testing.T) {
	// The cursor is before all else.
	checkDecodeError(t, api.Cursor{Bytes: []byte{0}, At: 2}, api.ErrBad)
	checkDecodeError(t, api.Cursor{Bytes: []byte{0}, At: -1}, api.ErrBad)
	// That an operand cannot be read is before that another one is not valid.
	checkDecodeError(t, at(0, []byte{6, 99}), api.ErrShort)
	checkDecodeError(t, at(0, []byte{6, 99, 1}), api.ErrShort)
	checkDecodeError(t, at(0, []byte{6, 99, 1, 128}), api.ErrShort)
	checkDecodeError(t, at(0, []byte{25, 5, 128}), api.ErrShort)
	checkDecodeError(t, at(0, []byte{25, 32}), api.ErrShort)
	// Of two operands that cannot be read, the first one says why.
	checkDecodeError(t, at(0, []byte{6, 128, 0}), api.ErrForm)
	checkDecodeError(t, at(0, []byte{6, 128, 0, 128}), api.ErrForm)
	checkDecodeError(t, at(0, []byte{6, 1, 128, 0, 255}), api.ErrForm)
	checkDecodeError(t, at(0, []byte{25, 128, 0, 128}), api.ErrForm)
	checkDecodeError(t, at(0, []byte{1, 0, 128, 0}), api.ErrForm)
	// What is not used is not read.
	checkDecode(t, at(0, []byte{31, 128, 0}), api.Instr{Op: api.OpYield}, 1)
	checkDecode(t, at(0, []byte{34, 1, 128}), api.Instr{Op: api.OpReturn, A: -1}, 2)
}

// someOperand are the bytes of an operand as it may be, and sometimes as it may not be.
func someOperand(r *rand.Rand) []byte {
	switch r.IntN(12) {
	case 0:
		return []byte{byte(r.Uint32()), byte(r.Uint32())}
	case 1:
		return binary.AppendUvarint(nil, r.Uint64()>>r.IntN(64))
	case 2:
		return []byte{128, byte(r.IntN(2))}
	case 3:
		return nil
	case 4, 5:
		return []byte{byte(r.IntN(40))}
	}
	return []byte{byte(r.IntN(8))}
}

func TestDecodeIsThatOfTheChapter(t *testing.T) {
	r := rule(1)
	read := 0
	for range 200000 {
		b := []byte{byte(r.IntN(36))}
		for range r.IntN(5) {
			b = append(b, someOperand(r)...)
		}
		c := at(r.IntN(2), b)
		size, x, want := oracleDecode(c)
		if want != api.OK {
			checkDecodeError(t, c, want)
			continue
		}
		checkDecode(t, c, x, size)
		read++
	}
	if read < 20000 {
		t.Errorf("only %d were read", read)
	}
}

// P6.3

func TestSlotsOfExamples(t *testing.T) {
	checkSlots(t, api.Instr{Op: api.OpSet, A: 4, B: 5, C: 6}, []int{4, 5, 6}, nil)
	checkSlots(t, api.Instr{Op: api.OpInt, A: 3, B: -1}, nil, []int{3})
	checkSlots(t, api.Instr{Op: api.OpText, A: 3, B: 4}, nil, []int{3})
	checkSlots(t, api.Instr{Op: api.OpBool, A: 3, B: 1}, nil, []int{3})
	checkSlots(t, api.Instr{Op: api.OpNew, A: 3}, nil, []int{3})
	checkSlots(t, api.Instr{Op: api.OpCopy, A: 3, B: 4}, []int{4}, []int{3})
	checkSlots(t, api.Instr{Op: api.OpSub, A: 3, B: 2, C: 1}, []int{2, 1}, []int{3})
	checkSlots(t, api.Instr{Op: api.OpAt, A: 1, B: 2, C: 3}, []int{2, 3}, []int{1})
	checkSlots(t, api.Instr{Op: api.OpField, A: 1, B: 2, C: 3}, []int{2}, []int{1})
	checkSlots(t, api.Instr{Op: api.OpPut, A: 9, B: 2, C: 3}, []int{9, 3}, nil)
	checkSlots(t, api.Instr{Op: api.OpStore, A: 9, B: 2}, []int{9, 2}, nil)
	checkSlots(t, api.Instr{Op: api.OpJump, A: 9}, nil, nil)
	checkSlots(t, api.Instr{Op: api.OpBranch, A: 9, B: 8}, []int{9}, nil)
	checkSlots(t, api.Instr{Op: api.OpArg, A: 9}, []int{9}, nil)
	checkSlots(t, api.Instr{Op: api.OpPanic, A: 9}, []int{9}, nil)
	checkSlots(t, api.Instr{Op: api.OpBlock, A: 9}, []int{9}, nil)
	checkSlots(t, api.Instr{Op: api.OpCall, A: 9, B: 3}, nil, []int{9})
	checkSlots(t, api.Instr{Op: api.OpCall, A: -1, B: 3}, nil, nil)
	checkSlots(t, api.Instr{Op: api.OpDefer, A: 9}, nil, nil)
	checkSlots(t, api.Instr{Op: api.OpGo, A: 9}, nil, nil)
	checkSlots(t, api.Instr{Op: api.OpRecover, A: 9, B: 3}, nil, []int{9, 3})
	checkSlots(t, api.Instr{Op: api.OpExit}, nil, nil)
	checkSlots(t, api.Instr{Op: api.OpYield}, nil, nil)
	checkSlots(t, api.Instr{Op: api.OpWake, A: 9, B: 3}, []int{3}, []int{9})
	checkSlots(t, api.Instr{Op: api.OpReturn, A: 9}, []int{9}, nil)
	checkSlots(t, api.Instr{Op: api.OpReturn, A: -1}, nil, nil)
}

// A slot stands in the list as often as there are operands that are it.
func TestSlotsThatAreTheSame(t *testing.T) {
	checkSlots(t, api.Instr{Op: api.OpMul, A: 2, B: 2, C: 2}, []int{2, 2}, []int{2})
	checkSlots(t, api.Instr{Op: api.OpSet, A: 0, B: 0, C: 0}, []int{0, 0, 0}, nil)
	checkSlots(t, api.Instr{Op: api.OpRecover, A: 5, B: 5}, nil, []int{5, 5})
}

func TestSlotsIsThatOfTheChapter(t *testing.T) {
	validOnes(func(x api.Instr) {
		r, w, e := Slots(x)
		if e != api.OK || !slices.Equal(r, oracleSlots(x, "read")) || !slices.Equal(w, oracleSlots(x, "written")) {
			t.Fatalf("%v: %v, %v, error %d", x, r, w, e)
		}
	})
}

// P6.4

func TestWhatWasWrittenIsReadWhateverStandsBehindIt(t *testing.T) {
	front := []byte{255, 128, 0}
	validOnes(func(x api.Instr) {
		b, e := Encode(x)
		if e != api.OK {
			t.Fatalf("%v: error %d", x, e)
		}
		for _, more := range behind() {
			checkDecode(t, at(3, front, b, more), x, len(b))
		}
	})
}

func TestARowOfInstructionsIsReadAsItWasWritten(t *testing.T) {
	r := rule(2)
	var all []api.Instr
	validOnes(func(x api.Instr) {
		if r.IntN(20) == 0 {
			all = append(all, x)
		}
	})
	r.Shuffle(len(all), func(i, k int) { all[i], all[k] = all[k], all[i] })
	var b []byte
	for _, x := range all {
		one, _ := Encode(x)
		b = append(b, one...)
	}
	c := at(0, b)
	for _, want := range all {
		d, x, e := Decode(c)
		if e != api.OK || x != want {
			t.Fatalf("at %d: %v, error %d, not %v", c.At, x, e, want)
		}
		c = d
	}
	checkDecodeError(t, c, api.ErrShort)
}

func TestWhatIsReadIsWrittenAgain(t *testing.T) {
	r := rule(3)
	for i := range 1 << 20 {
		b := []byte{byte(1 + i%34), byte(i >> 4), byte(r.IntN(40)), byte(r.IntN(20)), 0}
		if r.IntN(4) == 0 {
			b[1+r.IntN(3)] |= 128
		}
		d, x, e := Decode(at(0, b))
		if e != api.OK {
			continue
		}
		if again, e := Encode(x); e != api.OK || !slices.Equal(again, b[:d.At]) {
			t.Fatalf("%v was read of %v, and gives %v, error %d", x, b, again, e)
		}
	}
}

func TestNoEncodingIsTheBeginningOfAnother(t *testing.T) {
	all := map[string]api.Instr{}
	validOnes(func(x api.Instr) {
		b, _ := Encode(x)
		if y, ok := all[string(b)]; ok && y != x {
			t.Fatalf("%v and %v have the bytes %v", x, y, b)
		}
		all[string(b)] = x
	})
	for b, x := range all {
		for have := range len(b) {
			if y, ok := all[b[:have]]; ok {
				t.Errorf("%v begins with %v", x, y)
			}
		}
	}
}

func TestNamesAndOperationsAreInverse(t *testing.T) {
	seen := map[string]bool{}
	for op := range 256 {
		s, e := Name(uint8(op))
		if e != api.OK {
			continue
		}
		if back, e := Op(s); e != api.OK || back != uint8(op) || seen[s] {
			t.Errorf("%d has the name %q, which is that of %d, error %d", op, s, back, e)
		}
		seen[s] = true
	}
	if len(seen) != 34 {
		t.Errorf("there are %d names", len(seen))
	}
}

func TestHowManySlotsThereAreAtMost(t *testing.T) {
	mostReads, mostWrites := 0, 0
	validOnes(func(x api.Instr) {
		r, w, _ := Slots(x)
		mostReads, mostWrites = max(mostReads, len(r)), max(mostWrites, len(w))
	})
	if mostReads != 3 || mostWrites != 2 {
		t.Errorf("%d are read, %d are written", mostReads, mostWrites)
	}
}

func TestOperandsThatAreNoSlotsDoNotMatterToSlots(t *testing.T) {
	validOnes(func(x api.Instr) {
		for i, words := range rows[x.Op].words {
			if strings.HasPrefix(words, "slot") {
				continue
			}
			for _, n := range edges() {
				v := values(x)
				v[i] = n
				y := instr(x.Op, v)
				if Check(y) != api.OK {
					continue
				}
				r, w, _ := Slots(x)
				s, u, e := Slots(y)
				if e != api.OK || !slices.Equal(r, s) || !slices.Equal(w, u) {
					t.Fatalf("%v: %v, %v; %v: %v, %v, error %d", x, r, w, y, s, u, e)
				}
			}
		}
	})
}

// R2: arguments are only read, and results share no memory.

func TestArgumentsAreOnlyRead(t *testing.T) {
	room := []byte{1, 3, 1, 6, 0, 1, 2, 99, 99, 99}
	kept := slices.Clone(room)
	c := api.Cursor{Bytes: room[:7]}
	d, _, _ := Decode(c)
	d, _, _ = Decode(d)
	if _, _, e := Decode(d); e != api.ErrShort {
		t.Errorf("behind the end: error %d", e)
	}
	if c.At != 0 || len(c.Bytes) != 7 || d.At != 7 {
		t.Errorf("at %d, and %d of the argument", d.At, c.At)
	}
	if !slices.Equal(room, kept) {
		t.Errorf("the bytes have become %v", room)
	}
}

// spoil writes over all the memory that a slice has.
func spoil[E any](l []E, with E) {
	for i := range l[:cap(l)] {
		l[:cap(l)][i] = with
	}
}

func TestResultsShareNoMemory(t *testing.T) {
	set := api.Instr{Op: api.OpSet, A: 4, B: 5, C: 6}
	add := api.Instr{Op: api.OpAdd, A: 4, B: 5, C: 6}
	r, w, _ := Slots(add)
	spoil(r, 77)
	if !slices.Equal(w, []int{4}) {
		t.Errorf("the slots that are written have become %v", w)
	}
	spoil(w, 77)
	b, _ := Encode(add)
	spoil(b, 77)
	for range 2 {
		checkSlots(t, add, []int{5, 6}, []int{4})
		checkSlots(t, set, []int{4, 5, 6}, nil)
		checkBytes(t, add, 6, 4, 5, 6)
		checkBytes(t, set, 20, 4, 5, 6)
	}
}
