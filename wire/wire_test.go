package wire

import (
	"bytes"
	"encoding/binary"
	"math"
	"math/big"
	"slices"
	"strings"
	"testing"

	"wreckage/api"
)

const (
	largest   = 1<<64 - 1
	leastInt  = math.MinInt
	mostInt   = math.MaxInt
	leastLong = math.MinInt64
	mostLong  = math.MaxInt64
)

// bits is a short rule that gives different numbers, the same ones in each run.
type bits uint64

func (r *bits) next() uint64 {
	*r = *r*6364136223846793005 + 1442695040888963407
	return uint64(*r>>32) ^ uint64(*r)<<32
}

// number gives numbers of all lengths, from none to 64 bits.
func (r *bits) number() uint64 {
	return r.next() >> (r.next() % 65)
}

func (r *bits) bytes(n int) []byte {
	b := make([]byte, n)
	for i := range b {
		b[i] = byte(r.next() >> 7)
	}
	return b
}

// edges are numbers beside each number of bits, among them the first and the last ones of each number of bytes.
func edges() []uint64 {
	l := []uint64{0, 300, largest}
	for bit := range 64 {
		for _, by := range []uint64{0, 1, 2} {
			l = append(l, 1<<bit+by-1)
		}
	}
	return l
}

// signedEdges are the edges with both signs.
func signedEdges() []int64 {
	l := []int64{leastLong, mostLong}
	for _, n := range edges() {
		l = append(l, int64(n), -int64(n), ^int64(n))
	}
	return l
}

// behind is what the tests put behind an encoding: nothing, and bytes of which each kind might be taken for more of it.
func behind() [][]byte {
	return [][]byte{nil, {0}, {1}, {127}, {128}, {255}, {128, 0}, {0, 0, 0}, {255, 255, 255, 255, 255, 255, 255, 255, 255, 255, 1}}
}

func at(place int, parts ...[]byte) api.Cursor {
	return api.Cursor{Bytes: slices.Concat(parts...), At: place}
}

// badCursors are cursors that are not valid.
func badCursors() []api.Cursor {
	b := []byte{1, 1, 1}
	long := make([]byte, api.MaxDump+1)
	return []api.Cursor{
		{Bytes: b, At: -1},
		{Bytes: b, At: 4},
		{Bytes: b[:3:3], At: mostInt},
		{Bytes: b, At: leastInt},
		{At: 1},
		{At: -1},
		{Bytes: append(make([]byte, 0, 9), 5), At: 2},
		{Bytes: long},
		{Bytes: long, At: 7},
		{Bytes: long, At: api.MaxDump + 1},
		{Bytes: long, At: -1},
	}
}

func isZero(c api.Cursor) bool {
	return c.Bytes == nil && c.At == 0
}

// checkRead reports what is wrong with a cursor that was read on: it has the same bytes and is at some place.
func checkRead(t *testing.T, what string, from, to api.Cursor, place int) {
	t.Helper()
	if to.At != place {
		t.Fatalf("%s: at %d, not %d", what, to.At, place)
	}
	if len(from.Bytes) != len(to.Bytes) || len(from.Bytes) > 0 && &from.Bytes[0] != &to.Bytes[0] {
		t.Fatalf("%s: the bytes are not those of the cursor", what)
	}
}

func checkUnfixed(t *testing.T, c api.Cursor, w int, want uint64) {
	t.Helper()
	d, n, e := Unfixed(c, w)
	if e != api.OK || n != want {
		t.Fatalf("Unfixed of %d bytes of %v: %d, error %d, not %d", w, c.Bytes[c.At:], n, e, want)
	}
	checkRead(t, "Unfixed", c, d, c.At+w)
}

func checkUnvary(t *testing.T, c api.Cursor, most, want uint64, place int) {
	t.Helper()
	d, n, e := Unvary(c, most)
	if e != api.OK || n != want {
		t.Fatalf("Unvary of %v: %d, error %d, not %d", c.Bytes[c.At:], n, e, want)
	}
	checkRead(t, "Unvary", c, d, place)
}

func checkUnsigned(t *testing.T, c api.Cursor, want int64, place int) {
	t.Helper()
	d, n, e := Unsigned(c)
	if e != api.OK || n != want {
		t.Fatalf("Unsigned of %v: %d, error %d, not %d", c.Bytes[c.At:], n, e, want)
	}
	checkRead(t, "Unsigned", c, d, place)
}

func checkUntext(t *testing.T, c api.Cursor, most int, want string, place int) {
	t.Helper()
	d, s, e := Untext(c, most)
	if e != api.OK || s != want {
		t.Fatalf("Untext of %d bytes: %d bytes, error %d, not %d bytes", len(c.Bytes)-c.At, len(s), e, len(want))
	}
	checkRead(t, "Untext", c, d, place)
}

func checkUnvaryError(t *testing.T, c api.Cursor, most uint64, want api.Errno) {
	t.Helper()
	if d, n, e := Unvary(c, most); e != want || n != 0 || !isZero(d) {
		t.Errorf("Unvary of %v, at most %d: %v, %d, error %d, not %d", c.Bytes, most, d, n, e, want)
	}
}

func checkUnsignedError(t *testing.T, c api.Cursor, want api.Errno) {
	t.Helper()
	if d, n, e := Unsigned(c); e != want || n != 0 || !isZero(d) {
		t.Errorf("Unsigned of %v: %v, %d, error %d, not %d", c.Bytes, d, n, e, want)
	}
}

func checkUntextError(t *testing.T, c api.Cursor, most int, want api.Errno) {
	t.Helper()
	if d, s, e := Untext(c, most); e != want || s != "" || !isZero(d) {
		t.Errorf("Untext at %d of %d bytes, at most %d: at %d, %d bytes, error %d, not %d", c.At, len(c.Bytes), most, d.At, len(s), e, want)
	}
}

func checkUnfixedError(t *testing.T, c api.Cursor, w int, want api.Errno) {
	t.Helper()
	if d, n, e := Unfixed(c, w); e != want || n != 0 || !isZero(d) {
		t.Errorf("Unfixed of %d bytes at %d of %d: at %d, %d, error %d, not %d", w, c.At, len(c.Bytes), d.At, n, e, want)
	}
}

func text(t *testing.T, s string) []byte {
	t.Helper()
	b, e := Text(s)
	if e != api.OK {
		t.Fatalf("Text of %d bytes: error %d", len(s), e)
	}
	return b
}

func fixed(t *testing.T, n uint64, w int) []byte {
	t.Helper()
	b, e := Fixed(n, w)
	if e != api.OK {
		t.Fatalf("Fixed of %d in %d bytes: error %d", n, w, e)
	}
	return b
}

// P2.1

func TestNewIsAtTheBeginning(t *testing.T) {
	for _, b := range [][]byte{nil, {}, {0}, {1, 2, 3}, bytes.Repeat([]byte{7}, 5000)} {
		c, e := New(b)
		if e != api.OK || c.At != 0 || !bytes.Equal(c.Bytes, b) {
			t.Errorf("of %d bytes: %d bytes at %d, error %d", len(b), len(c.Bytes), c.At, e)
		}
	}
}

func TestNewHasBytesOfItsOwn(t *testing.T) {
	room := []byte{1, 2, 3, 4, 5}
	c, _ := New(room[:3])
	d, _ := New(room[:3])
	room[0] = 9
	d.Bytes[1] = 9
	if !slices.Equal(c.Bytes, []byte{1, 2, 3}) {
		t.Errorf("the bytes have become %v", c.Bytes)
	}
	_ = append(c.Bytes, 9)
	if !slices.Equal(room, []byte{9, 2, 3, 4, 5}) {
		t.Errorf("the argument has become %v", room)
	}
}

func TestNewLimit(t *testing.T) {
	if c, e := New(make([]byte, api.MaxDump)); e != api.OK || len(c.Bytes) != api.MaxDump || c.At != 0 {
		t.Errorf("as many as are allowed: %d at %d, error %d", len(c.Bytes), c.At, e)
	}
	if c, e := New(make([]byte, api.MaxDump+1)); e != api.ErrMany || !isZero(c) {
		t.Errorf("one more: %d at %d, error %d", len(c.Bytes), c.At, e)
	}
}

func TestLeft(t *testing.T) {
	b := []byte{1, 2, 3, 4}
	for place := range 5 {
		if n, e := Left(api.Cursor{Bytes: b, At: place}); e != api.OK || n != 4-place {
			t.Errorf("at %d: %d, error %d", place, n, e)
		}
	}
	if n, e := Left(api.Cursor{}); e != api.OK || n != 0 {
		t.Errorf("of no bytes: %d, error %d", n, e)
	}
	most := make([]byte, api.MaxDump)
	for _, place := range []int{0, 1, api.MaxDump} {
		if n, e := Left(api.Cursor{Bytes: most, At: place}); e != api.OK || n != api.MaxDump-place {
			t.Errorf("at %d of as many as are allowed: %d, error %d", place, n, e)
		}
	}
	for i, c := range badCursors() {
		if n, e := Left(c); e != api.ErrBad || n != 0 {
			t.Errorf("cursor %d that is not valid: %d, error %d", i, n, e)
		}
	}
}

// P2.2

func TestFixedHasTheLowestByteFirst(t *testing.T) {
	for _, c := range []struct {
		n    uint64
		w    int
		want []byte
	}{
		{300, 4, []byte{44, 1, 0, 0}},
		{300, 2, []byte{44, 1}},
		{300, 8, []byte{44, 1, 0, 0, 0, 0, 0, 0}},
		{0, 1, []byte{0}},
		{0, 8, make([]byte, 8)},
		{255, 1, []byte{255}},
		{255, 2, []byte{255, 0}},
		{256, 2, []byte{0, 1}},
		{1<<16 - 1, 2, []byte{255, 255}},
		{1 << 16, 4, []byte{0, 0, 1, 0}},
		{1<<32 - 1, 4, []byte{255, 255, 255, 255}},
		{1 << 32, 8, []byte{0, 0, 0, 0, 1, 0, 0, 0}},
		{0x0102030405060708, 8, []byte{8, 7, 6, 5, 4, 3, 2, 1}},
		{largest, 8, bytes.Repeat([]byte{255}, 8)},
	} {
		if b := fixed(t, c.n, c.w); !slices.Equal(b, c.want) {
			t.Errorf("%d in %d bytes: %v, not %v", c.n, c.w, b, c.want)
		}
	}
}

func TestFixedIsThatOfTheLibrary(t *testing.T) {
	r := bits(1)
	for range 500 {
		n := r.next()
		whole := binary.LittleEndian.AppendUint64(nil, n)
		for _, w := range []int{1, 2, 4, 8} {
			kept := n & (largest >> (64 - 8*w))
			if b := fixed(t, kept, w); !slices.Equal(b, whole[:w]) {
				t.Fatalf("%d in %d bytes: %v, not %v", kept, w, b, whole[:w])
			}
			checkUnfixed(t, at(0, whole), w, kept)
		}
	}
}

func TestFixedNumberThatIsTooGreat(t *testing.T) {
	for _, w := range []int{1, 2, 4} {
		for _, n := range []uint64{1 << (8 * w), 1<<(8*w) + 1, 1 << 63, largest} {
			if b, e := Fixed(n, w); e != api.ErrArg || len(b) != 0 {
				t.Errorf("%d in %d bytes: %v, error %d", n, w, b, e)
			}
		}
		n := uint64(1)<<(8*w) - 1
		if b := fixed(t, n, w); !slices.Equal(b, bytes.Repeat([]byte{255}, w)) {
			t.Errorf("%d in %d bytes: %v", n, w, b)
		}
	}
}

func wrongWidths() []int {
	return []int{0, -1, -2, -4, -8, 3, 5, 6, 7, 9, 10, 12, 15, 16, 32, 64, 256 + 1, 1<<32 + 4, leastInt, mostInt}
}

func TestFixedOfAnotherWidth(t *testing.T) {
	for _, w := range wrongWidths() {
		for _, n := range []uint64{0, 1, largest} {
			if b, e := Fixed(n, w); e != api.ErrArg || len(b) != 0 {
				t.Errorf("%d in %d bytes: %v, error %d", n, w, b, e)
			}
		}
	}
}

func TestUnfixedReadsFromAtOn(t *testing.T) {
	b := []byte{9, 44, 1, 0, 0, 255, 255, 255, 128, 7}
	checkUnfixed(t, at(1, b), 1, 44)
	checkUnfixed(t, at(1, b), 2, 300)
	checkUnfixed(t, at(1, b), 4, 300)
	checkUnfixed(t, at(1, b), 8, 0x80FFFFFF0000012C)
	checkUnfixed(t, at(9, b), 1, 7)
	checkUnfixed(t, at(8, b), 2, 128+7*256)
}

func TestUnfixedOfBytesThatEndTooEarly(t *testing.T) {
	for _, w := range []int{1, 2, 4, 8} {
		for have := range w {
			checkUnfixedError(t, at(0, make([]byte, have)), w, api.ErrShort)
			checkUnfixedError(t, at(9, make([]byte, 9+have)), w, api.ErrShort)
		}
		checkUnfixed(t, at(0, make([]byte, w)), w, 0)
		checkUnfixed(t, at(9, make([]byte, 9+w)), w, 0)
		checkUnfixed(t, at(api.MaxDump-w, make([]byte, api.MaxDump)), w, 0)
	}
}

func TestUnfixedErrorsInTheirOrder(t *testing.T) {
	for _, w := range wrongWidths() {
		checkUnfixedError(t, at(0, make([]byte, 100)), w, api.ErrArg)
		checkUnfixedError(t, api.Cursor{}, w, api.ErrArg)
		for _, c := range badCursors() {
			checkUnfixedError(t, c, w, api.ErrBad)
		}
	}
	for _, c := range badCursors() {
		for _, w := range []int{1, 2, 4, 8} {
			checkUnfixedError(t, c, w, api.ErrBad)
		}
	}
}

// The memory between the length and the capacity is not the cursor's.
func TestNothingIsReadBehindTheLength(t *testing.T) {
	room := []byte{128, 1, 1, 1, 1, 1, 1, 1, 1}
	checkUnfixedError(t, api.Cursor{Bytes: room[:1]}, 2, api.ErrShort)
	checkUnvaryError(t, api.Cursor{Bytes: room[:1]}, largest, api.ErrShort)
	checkUnsignedError(t, api.Cursor{Bytes: room[:1]}, api.ErrShort)
	checkUntextError(t, api.Cursor{Bytes: room[1:2]}, 5, api.ErrShort)
}

// P2.3

func TestVaryExamples(t *testing.T) {
	for _, c := range []struct {
		n    uint64
		want []byte
	}{
		{0, []byte{0}},
		{1, []byte{1}},
		{127, []byte{127}},
		{128, []byte{128, 1}},
		{300, []byte{172, 2}},
		{16383, []byte{255, 127}},
		{16384, []byte{128, 128, 1}},
		{1<<63 - 1, []byte{255, 255, 255, 255, 255, 255, 255, 255, 127}},
		{1 << 63, []byte{128, 128, 128, 128, 128, 128, 128, 128, 128, 1}},
		{largest, []byte{255, 255, 255, 255, 255, 255, 255, 255, 255, 1}},
	} {
		if b := Vary(c.n); !slices.Equal(b, c.want) {
			t.Errorf("%d: %v, not %v", c.n, b, c.want)
		}
		checkUnvary(t, at(0, c.want), c.n, c.n, len(c.want))
	}
}

// digitsOf is a minimal number, digit by digit of its definition.
func digitsOf(n uint64) []byte {
	var b []byte
	left := new(big.Int).SetUint64(n)
	base := big.NewInt(128)
	for {
		digit := new(big.Int)
		left.DivMod(left, base, digit)
		if left.Sign() == 0 {
			return append(b, byte(digit.Int64()))
		}
		b = append(b, byte(digit.Int64()+128))
	}
}

func TestVaryHasAsFewDigitsAsCanBe(t *testing.T) {
	r := bits(2)
	l := edges()
	for range 2000 {
		l = append(l, r.number())
	}
	for _, n := range l {
		b := Vary(n)
		if !slices.Equal(b, digitsOf(n)) || !slices.Equal(b, binary.AppendUvarint(nil, n)) {
			t.Fatalf("%d: %v, not %v", n, b, digitsOf(n))
		}
		checkUnvary(t, at(0, b), largest, n, len(b))
	}
}

func TestUnvaryOfNumbersThatAreGreater(t *testing.T) {
	for _, n := range edges() {
		b := Vary(n)
		checkUnvary(t, at(0, b), n, n, len(b))
		if n == 0 {
			continue
		}
		checkUnvaryError(t, at(0, b), n-1, api.ErrMany)
		checkUnvaryError(t, at(0, b), 0, api.ErrMany)
	}
	checkUnvary(t, at(0, []byte{0}), 0, 0, 1)
	checkUnvary(t, at(0, []byte{5}), 6, 5, 1)
}

func TestUnvaryOfBytesThatEndTooEarly(t *testing.T) {
	for _, n := range edges() {
		b := Vary(n)
		for have := range b {
			for _, most := range []uint64{0, n, largest} {
				checkUnvaryError(t, at(0, b[:have]), most, api.ErrShort)
				checkUnvaryError(t, at(2, []byte{1, 1}, b[:have]), most, api.ErrShort)
			}
		}
	}
	for have := range longest {
		checkUnvaryError(t, at(0, bytes.Repeat([]byte{128}, have)), largest, api.ErrShort)
		checkUnvaryError(t, at(0, bytes.Repeat([]byte{255}, have)), 0, api.ErrShort)
	}
}

func TestUnvaryOfNumbersThatAreNotMinimal(t *testing.T) {
	for size := 1; size < longest; size++ {
		for _, digit := range []byte{128, 129, 255} {
			b := append(bytes.Repeat([]byte{digit}, size), 0)
			for _, more := range behind() {
				checkUnvaryError(t, at(0, b, more), largest, api.ErrForm)
				checkUnvaryError(t, at(0, b, more), 0, api.ErrForm)
			}
		}
	}
	for _, b := range [][]byte{{128, 0}, {129, 128, 0}, {172, 130, 0}, {255, 0}} {
		checkUnvaryError(t, at(0, b), largest, api.ErrForm)
		checkUnvaryError(t, at(1, []byte{3}, b), largest, api.ErrForm)
	}
}

func TestUnvaryOfTheTenthByte(t *testing.T) {
	for _, digit := range []byte{128, 129, 200, 255} {
		nine := bytes.Repeat([]byte{digit}, longest-1)
		low := uint64(0)
		for i, c := range nine {
			low |= uint64(c&127) << (7 * i)
		}
		checkUnvary(t, at(0, nine, []byte{1}), largest, 1<<63+low, 10)
		checkUnvaryError(t, at(0, nine, []byte{1}), 1<<63-1, api.ErrMany)
		checkUnvaryError(t, at(0, nine), largest, api.ErrShort)
		for tenth := range 256 {
			if tenth == 1 {
				continue
			}
			for _, more := range behind() {
				checkUnvaryError(t, at(0, nine, []byte{byte(tenth)}, more), largest, api.ErrForm)
				checkUnvaryError(t, at(0, nine, []byte{byte(tenth)}, more), 0, api.ErrForm)
			}
		}
	}
}

// oracle reads a minimal number by the words of the chapter, with numbers of any size.
func oracle(b []byte, most uint64) (uint64, int, api.Errno) {
	size := 1 + slices.IndexFunc(b, func(c byte) bool { return c < 128 })
	if len(b) >= longest && b[longest-1] > 1 && (size == 0 || size >= longest) {
		return 0, 0, api.ErrForm
	}
	if size == 0 {
		return 0, 0, api.ErrShort
	}
	n := new(big.Int)
	for _, c := range slices.Backward(b[:size]) {
		n.Add(n.Lsh(n, 7), big.NewInt(int64(c%128)))
	}
	if !n.IsUint64() || size > longest || size > 1 && b[size-1] == 0 {
		return 0, 0, api.ErrForm
	}
	if n.Uint64() > most {
		return 0, 0, api.ErrMany
	}
	return n.Uint64(), size, api.OK
}

func TestUnvaryIsThatOfTheChapter(t *testing.T) {
	r := bits(3)
	for i := range 20000 {
		b := r.bytes(int(r.next() % 14))
		for k := range b {
			b[k] |= 128 * byte(min(1, r.next()%8))
		}
		if len(b) > 0 && i%2 == 0 {
			b[len(b)-1] %= 3
		}
		most := r.number()
		n, size, want := oracle(b, most)
		if want != api.OK {
			checkUnvaryError(t, at(0, b), most, want)
			continue
		}
		checkUnvary(t, at(0, b), most, n, size)
	}
}

func TestUnvaryOfACursorThatIsNotValid(t *testing.T) {
	for _, c := range badCursors() {
		checkUnvaryError(t, c, largest, api.ErrBad)
		checkUnvaryError(t, c, 0, api.ErrBad)
	}
	checkUnvaryError(t, api.Cursor{Bytes: []byte{128, 0}, At: 3}, 0, api.ErrBad)
}

// P2.4

func TestSignedExamples(t *testing.T) {
	for _, c := range []struct {
		n    int64
		want []byte
	}{
		{0, []byte{0}},
		{-1, []byte{1}},
		{1, []byte{2}},
		{-2, []byte{3}},
		{63, []byte{126}},
		{-64, []byte{127}},
		{64, []byte{128, 1}},
		{-65, []byte{129, 1}},
		{mostLong, []byte{254, 255, 255, 255, 255, 255, 255, 255, 255, 1}},
		{leastLong, []byte{255, 255, 255, 255, 255, 255, 255, 255, 255, 1}},
	} {
		if b := Signed(c.n); !slices.Equal(b, c.want) {
			t.Errorf("%d: %v, not %v", c.n, b, c.want)
		}
		checkUnsigned(t, at(0, c.want), c.n, len(c.want))
	}
}

// folded is the number whose minimal number a signed number is, by its definition.
func folded(n int64) uint64 {
	twice := new(big.Int).Lsh(big.NewInt(n), 1)
	if n < 0 {
		twice.Neg(twice)
		twice.Sub(twice, big.NewInt(1))
	}
	return twice.Uint64()
}

func TestSignedIsAMinimalNumber(t *testing.T) {
	r := bits(4)
	l := signedEdges()
	for range 1000 {
		l = append(l, int64(r.next())>>(r.next()%64))
	}
	for _, n := range l {
		b := Signed(n)
		if !slices.Equal(b, digitsOf(folded(n))) || !slices.Equal(b, binary.AppendVarint(nil, n)) {
			t.Fatalf("%d: %v, not %v", n, b, digitsOf(folded(n)))
		}
		checkUnsigned(t, at(0, b), n, len(b))
	}
}

func TestUnsignedHasTheErrorsOfUnvary(t *testing.T) {
	nine := bytes.Repeat([]byte{255}, 9)
	checkUnsignedError(t, api.Cursor{}, api.ErrShort)
	checkUnsignedError(t, at(1, []byte{1}), api.ErrShort)
	checkUnsignedError(t, at(0, []byte{128}), api.ErrShort)
	checkUnsignedError(t, at(0, nine), api.ErrShort)
	checkUnsignedError(t, at(0, []byte{128, 0}), api.ErrForm)
	checkUnsignedError(t, at(0, nine, []byte{0}), api.ErrForm)
	checkUnsignedError(t, at(0, nine, []byte{2}), api.ErrForm)
	checkUnsignedError(t, at(0, nine, []byte{255}), api.ErrForm)
	checkUnsignedError(t, at(0, nine, []byte{129, 1}), api.ErrForm)
	for _, c := range badCursors() {
		checkUnsignedError(t, c, api.ErrBad)
	}
}

func TestText(t *testing.T) {
	for _, c := range []struct {
		s    string
		want []byte
	}{
		{"", []byte{0}},
		{"ab", []byte{2, 97, 98}},
		{"\x00", []byte{1, 0}},
		{"\xff\x80", []byte{2, 255, 128}},
		{"\u00e9", []byte{2, 195, 169}},
		{strings.Repeat("x", 127), append([]byte{127}, bytes.Repeat([]byte{'x'}, 127)...)},
		{strings.Repeat("x", 128), append([]byte{128, 1}, bytes.Repeat([]byte{'x'}, 128)...)},
	} {
		if b := text(t, c.s); !slices.Equal(b, c.want) {
			t.Errorf("%q: %v, not %v", c.s, b, c.want)
		}
		checkUntext(t, at(0, c.want), len(c.s), c.s, len(c.want))
	}
}

func TestTextLimit(t *testing.T) {
	most := strings.Repeat("y", api.MaxDump)
	if b := text(t, most); !slices.Equal(b, append(digitsOf(api.MaxDump), most...)) {
		t.Errorf("as many bytes as are allowed: %d bytes", len(b))
	}
	if b, e := Text(most + "y"); e != api.ErrMany || len(b) != 0 {
		t.Errorf("one more: %d bytes, error %d", len(b), e)
	}
}

func TestUntextOfStringsThatAreLonger(t *testing.T) {
	for _, size := range []int{1, 2, 127, 128, 1000} {
		s := strings.Repeat("z", size)
		b := text(t, s)
		checkUntext(t, at(0, b), size, s, len(b))
		checkUntext(t, at(0, b), size+1, s, len(b))
		checkUntext(t, at(0, b), api.MaxDump, s, len(b))
		checkUntextError(t, at(0, b), size-1, api.ErrMany)
		checkUntextError(t, at(0, b), 0, api.ErrMany)
	}
	checkUntext(t, at(0, []byte{0}), 0, "", 1)
	// The length is 2^63 or more: it is no int.
	checkUntextError(t, at(0, Vary(1<<63)), api.MaxDump, api.ErrMany)
	checkUntextError(t, at(0, Vary(largest)), api.MaxDump, api.ErrMany)
}

func TestUntextMostLimit(t *testing.T) {
	whole := text(t, strings.Repeat("w", api.MaxDump-3))
	checkUntext(t, at(0, whole), api.MaxDump, strings.Repeat("w", api.MaxDump-3), api.MaxDump)
	checkUntext(t, at(0, whole), api.MaxDump-3, strings.Repeat("w", api.MaxDump-3), api.MaxDump)
	checkUntextError(t, at(0, whole), api.MaxDump-4, api.ErrMany)
	for _, most := range []int{-1, leastInt, api.MaxDump + 1, mostInt} {
		checkUntextError(t, at(0, []byte{2, 97, 98}), most, api.ErrArg)
	}
}

func TestUntextOfBytesThatEndTooEarly(t *testing.T) {
	for _, size := range []int{1, 2, 127, 128, 300} {
		b := text(t, strings.Repeat("v", size))
		for have := range b {
			checkUntextError(t, at(0, b[:have]), size, api.ErrShort)
			checkUntextError(t, at(1, []byte{0}, b[:have]), size, api.ErrShort)
		}
	}
	checkUntextError(t, at(0, Vary(api.MaxDump)), api.MaxDump, api.ErrShort)
}

func TestUntextErrorsInTheirOrder(t *testing.T) {
	nine := bytes.Repeat([]byte{255}, 9)
	for _, most := range []int{-1, 0, 5, api.MaxDump + 1} {
		for _, c := range badCursors() {
			checkUntextError(t, c, most, api.ErrBad)
		}
	}
	for _, b := range [][]byte{nil, {128}, {128, 0}, {200, 1}, {3}} {
		checkUntextError(t, at(0, b), -1, api.ErrArg)
		checkUntextError(t, at(0, b), api.MaxDump+1, api.ErrArg)
	}
	checkUntextError(t, api.Cursor{}, 0, api.ErrShort)
	checkUntextError(t, at(0, []byte{255}), 0, api.ErrShort)
	checkUntextError(t, at(0, []byte{130, 0}), 0, api.ErrForm)
	checkUntextError(t, at(0, []byte{130, 0, 97, 98}), 2, api.ErrForm)
	checkUntextError(t, at(0, nine, []byte{2}), 2, api.ErrForm)
	checkUntextError(t, at(0, []byte{6, 97}), 5, api.ErrMany)
	checkUntextError(t, at(0, []byte{5, 97}), 5, api.ErrShort)
}

// P2.5

func TestWhatWasWrittenIsReadWhateverStandsBehindIt(t *testing.T) {
	front := []byte{255, 128, 0}
	for _, more := range behind() {
		for _, n := range edges() {
			b := Vary(n)
			checkUnvary(t, at(3, front, b, more), n, n, 3+len(b))
			for _, w := range []int{1, 2, 4, 8} {
				kept := n & (largest >> (64 - 8*w))
				checkUnfixed(t, at(3, front, fixed(t, kept, w), more), w, kept)
			}
		}
		for _, n := range signedEdges() {
			b := Signed(n)
			checkUnsigned(t, at(3, front, b, more), n, 3+len(b))
		}
		for _, s := range []string{"", "a", "\x80\xff\x00", strings.Repeat("ab", 100)} {
			b := text(t, s)
			checkUntext(t, at(3, front, b, more), len(s), s, 3+len(b))
		}
	}
}

// A row of numbers and strings of all kinds, one behind the other, as the layers above have them.
func TestARowIsReadAsItWasWritten(t *testing.T) {
	r := bits(5)
	for range 50 {
		var all []byte
		var read []func(c api.Cursor) api.Cursor
		for range 40 {
			n, s := r.number(), string(r.bytes(int(r.next()%5)))
			switch r.next() % 4 {
			case 0:
				all = append(all, Vary(n)...)
				read = append(read, func(c api.Cursor) api.Cursor { return unvaried(t, c, n) })
			case 1:
				all = append(all, Signed(int64(n))...)
				read = append(read, func(c api.Cursor) api.Cursor { return unsigned(t, c, int64(n)) })
			case 2:
				all = append(all, fixed(t, n, 8)...)
				read = append(read, func(c api.Cursor) api.Cursor { return unfixed(t, c, n) })
			case 3:
				all = append(all, text(t, s)...)
				read = append(read, func(c api.Cursor) api.Cursor { return untexted(t, c, s) })
			}
		}
		c, e := New(all)
		if e != api.OK {
			t.Fatal(e)
		}
		for _, f := range read {
			c = f(c)
		}
		if n, e := Left(c); n != 0 || e != api.OK {
			t.Fatalf("%d are left, error %d", n, e)
		}
	}
}

func unvaried(t *testing.T, c api.Cursor, want uint64) api.Cursor {
	t.Helper()
	d, n, e := Unvary(c, want)
	if e != api.OK || n != want {
		t.Fatalf("%d, error %d, not %d", n, e, want)
	}
	return d
}

func unsigned(t *testing.T, c api.Cursor, want int64) api.Cursor {
	t.Helper()
	d, n, e := Unsigned(c)
	if e != api.OK || n != want {
		t.Fatalf("%d, error %d, not %d", n, e, want)
	}
	return d
}

func unfixed(t *testing.T, c api.Cursor, want uint64) api.Cursor {
	t.Helper()
	d, n, e := Unfixed(c, 8)
	if e != api.OK || n != want {
		t.Fatalf("%d, error %d, not %d", n, e, want)
	}
	return d
}

func untexted(t *testing.T, c api.Cursor, want string) api.Cursor {
	t.Helper()
	d, s, e := Untext(c, len(want))
	if e != api.OK || s != want {
		t.Fatalf("%q, error %d, not %q", s, e, want)
	}
	return d
}

// checkWrittenAgain reads some bytes in each way: if that is possible, what was read, written again, gives these bytes.
func checkWrittenAgain(t *testing.T, b []byte) {
	t.Helper()
	c := at(0, b)
	if d, n, e := Unvary(c, largest); e == api.OK && !slices.Equal(Vary(n), b[:d.At]) {
		t.Fatalf("%d was read of %v", n, b)
	}
	if d, n, e := Unsigned(c); e == api.OK && !slices.Equal(Signed(n), b[:d.At]) {
		t.Fatalf("%d was read of %v", n, b)
	}
	if d, s, e := Untext(c, api.MaxDump); e == api.OK && !slices.Equal(text(t, s), b[:d.At]) {
		t.Fatalf("%q was read of %v", s, b)
	}
	for _, w := range []int{1, 2, 4, 8} {
		if d, n, e := Unfixed(c, w); e == api.OK && !slices.Equal(fixed(t, n, w), b[:d.At]) {
			t.Fatalf("%d was read of %v", n, b)
		}
	}
}

func TestWhatIsReadIsWrittenAgain(t *testing.T) {
	for x := range 1 << 16 {
		checkWrittenAgain(t, []byte{byte(x), byte(x >> 8)})
		checkWrittenAgain(t, []byte{byte(x) | 128, byte(x>>8) | 128, byte(x >> 7 & 3)})
	}
	r := bits(6)
	for range 20000 {
		b := r.bytes(int(r.next() % 14))
		for k := range b[:len(b)/2] {
			b[k] |= 128
		}
		checkWrittenAgain(t, b)
	}
}

func TestNoEncodingIsTheBeginningOfAnother(t *testing.T) {
	var numbers, signed, texts [][]byte
	for _, n := range edges() {
		numbers = append(numbers, Vary(n))
		signed = append(signed, Signed(int64(n)), Signed(-int64(n)))
	}
	for _, s := range []string{"", "\x00", "\x01", "a", "ab", "aba", "ba", strings.Repeat("a", 128), strings.Repeat("a", 300)} {
		texts = append(texts, text(t, s))
	}
	for _, l := range [][][]byte{numbers, signed, texts} {
		for _, a := range l {
			for _, b := range l {
				if len(a) < len(b) && bytes.HasPrefix(b, a) {
					t.Errorf("%v is the beginning of %v", a, b)
				}
			}
		}
	}
}

// R2: arguments are only read, and results share no memory.

func TestArgumentsAreOnlyRead(t *testing.T) {
	room := []byte{2, 97, 98, 172, 2, 44, 1, 0, 0, 7, 9, 9, 9}
	kept := slices.Clone(room)
	c := api.Cursor{Bytes: room[:10], At: 0}
	New(room[:10])
	Left(c)
	d, _, _ := Untext(c, 9)
	d, _, _ = Unvary(d, 400)
	d, _, _ = Unfixed(d, 4)
	d, _, _ = Unsigned(d)
	Unvary(d, 400)
	if c.At != 0 || len(c.Bytes) != 10 || d.At != 10 {
		t.Errorf("at %d, and %d of the argument", d.At, c.At)
	}
	if !slices.Equal(room, kept) {
		t.Errorf("the bytes have become %v", room)
	}
}

func TestATextThatWasReadHasMemoryOfItsOwn(t *testing.T) {
	c := at(0, []byte{2, 97, 98})
	_, s, e := Untext(c, 2)
	c.Bytes[1] = 'z'
	if s != "ab" || e != api.OK {
		t.Errorf("%q, error %d", s, e)
	}
}

func TestResultsShareNoMemory(t *testing.T) {
	for range 3 {
		b, s := Vary(300), Signed(-65)
		f, x := fixed(t, 300, 4), text(t, "ab")
		if !slices.Equal(b, []byte{172, 2}) || !slices.Equal(s, []byte{129, 1}) {
			t.Errorf("%v, %v", b, s)
		}
		if !slices.Equal(f, []byte{44, 1, 0, 0}) || !slices.Equal(x, []byte{2, 97, 98}) {
			t.Errorf("%v, %v", f, x)
		}
		for _, l := range [][]byte{b, s, f, x} {
			for i := range l[:cap(l)] {
				l[:cap(l)][i] = 77
			}
		}
	}
}
