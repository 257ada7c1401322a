package crc

import (
	"hash/crc32"
	"slices"
	"strconv"
	"testing"

	"wreckage/api"
)

// bits is a short rule that gives different bytes, the same ones in each run.
type bits uint64

func (r *bits) next() uint32 {
	*r = *r*6364136223846793005 + 1442695040888963407
	return uint32(*r >> 32)
}

func (r *bits) bytes(n int) []byte {
	b := make([]byte, n)
	for i := range b {
		b[i] = byte(r.next() >> 7)
	}
	return b
}

// slow is the checksum without a table: a bit at a time.
func slow(b []byte) uint32 {
	x := ^uint32(0)
	for _, c := range b {
		for i := range 8 {
			odd := (x ^ uint32(c)>>i) & 1
			x = x>>1 ^ odd*0xEDB88320
		}
	}
	return ^x
}

func sum(t *testing.T, b []byte) uint32 {
	t.Helper()
	x, e := Sum(Table(), b)
	if e != api.OK {
		t.Fatalf("Sum of %d bytes: error %d", len(b), e)
	}
	return x
}

func next(t *testing.T, a uint32, b []byte) uint32 {
	t.Helper()
	x, e := Next(Table(), a, b)
	if e != api.OK {
		t.Fatalf("Next with %d bytes: error %d", len(b), e)
	}
	return x
}

func patch(t *testing.T, a, want uint32) []byte {
	t.Helper()
	p, e := Patch(Table(), a, want)
	if e != api.OK {
		t.Fatalf("Patch of %d to %d: error %d", a, want, e)
	}
	return p[:]
}

func join(t *testing.T, a, b uint32, n int) uint32 {
	t.Helper()
	x, e := Join(Table(), a, b, n)
	if e != api.OK {
		t.Fatalf("Join with the length %d: error %d", n, e)
	}
	return x
}

func pieces(t *testing.T, l [][]byte) uint32 {
	t.Helper()
	x, e := Pieces(Table(), l)
	if e != api.OK {
		t.Fatalf("Pieces of %d: error %d", len(l), e)
	}
	return x
}

// P1.1

func TestTableHasEightTurnsOfEachByte(t *testing.T) {
	table := Table()
	if table[0] != 0 || table[1] != 1996959894 || table[255] != 755167117 {
		t.Errorf("elements 0, 1, 255: %d, %d, %d", table[0], table[1], table[255])
	}
	if table != *crc32.IEEETable {
		t.Error("it is not the table of IEEE 802.3")
	}
}

func TestTableIsNewEachTime(t *testing.T) {
	table := Table()
	table[3] = 5
	if Table() != *crc32.IEEETable {
		t.Error("a change of one table is seen in the next one")
	}
}

func TestSumOfExamples(t *testing.T) {
	for s, want := range map[string]uint32{
		"":          0,
		"a":         3904355907,
		"abc":       891568578,
		"123456789": 3421780262,
	} {
		if x := sum(t, []byte(s)); x != want {
			t.Errorf("%q: %d, not %d", s, x, want)
		}
	}
	if x := sum(t, nil); x != 0 {
		t.Errorf("nil: %d", x)
	}
}

func TestSumIsThatOfTheStandard(t *testing.T) {
	r := bits(1)
	for n := range 300 {
		b := r.bytes(n)
		if x := sum(t, b); x != slow(b) || x != crc32.ChecksumIEEE(b) {
			t.Fatalf("%d bytes: %d, not %d", n, x, slow(b))
		}
	}
	for c := range 256 {
		b := []byte{byte(c)}
		if x := sum(t, b); x != slow(b) {
			t.Errorf("byte %d: %d, not %d", c, x, slow(b))
		}
	}
	if b := make([]byte, 1000); sum(t, b) != slow(b) {
		t.Error("zeros: not the checksum")
	}
}

func TestNextGoesOn(t *testing.T) {
	r := bits(2)
	b := r.bytes(100)
	for at := range len(b) + 1 {
		if x := next(t, sum(t, b[:at]), b[at:]); x != slow(b) {
			t.Errorf("cut at %d: %d, not %d", at, x, slow(b))
		}
	}
	for range 200 {
		a, c := r.next(), r.bytes(5)
		if x, want := next(t, a, c), crc32.Update(a, crc32.IEEETable, c); x != want {
			t.Fatalf("from %d with %v: %d, not %d", a, c, x, want)
		}
		if next(t, a, nil) != a || next(t, a, []byte{}) != a {
			t.Fatalf("from %d with no bytes: it is another one", a)
		}
	}
}

func TestSumAndNextLimit(t *testing.T) {
	r := bits(3)
	most := r.bytes(api.MaxDump)
	more := append(slices.Clone(most), 0)
	if x := sum(t, most); x != slow(most) {
		t.Errorf("as many as are allowed: %d, not %d", x, slow(most))
	}
	if x, want := next(t, 77, most), crc32.Update(77, crc32.IEEETable, most); x != want {
		t.Errorf("going on with as many as are allowed: %d, not %d", x, want)
	}
	if x, e := Sum(Table(), more); x != 0 || e != api.ErrMany {
		t.Errorf("Sum of one more: %d, error %d", x, e)
	}
	if x, e := Next(Table(), 77, more); x != 0 || e != api.ErrMany {
		t.Errorf("Next with one more: %d, error %d", x, e)
	}
}

// P1.2

func TestPiecesOfNothing(t *testing.T) {
	for i, l := range [][][]byte{nil, {}, {nil}, {{}}, {nil, {}, nil}, make([][]byte, api.MaxParts)} {
		if x := pieces(t, l); x != 0 {
			t.Errorf("%d: %d, not 0", i, x)
		}
	}
}

func TestPiecesOneBehindTheOther(t *testing.T) {
	l := [][]byte{[]byte("12"), nil, []byte("3456"), []byte("7"), {}, []byte("89")}
	if x := pieces(t, l); x != 3421780262 {
		t.Errorf("of 123456789: %d", x)
	}
	slices.Reverse(l)
	if x := pieces(t, l); x != slow([]byte("897345612")) {
		t.Errorf("reversed: %d", x)
	}
}

func TestPiecesLimitOfParts(t *testing.T) {
	r := bits(4)
	var l [][]byte
	for range api.MaxParts {
		l = append(l, r.bytes(3))
	}
	if x, want := pieces(t, l), slow(slices.Concat(l...)); x != want {
		t.Errorf("as many as are allowed: %d, not %d", x, want)
	}
	if x, e := Pieces(Table(), append(l, nil)); x != 0 || e != api.ErrMany {
		t.Errorf("an empty one more: %d, error %d", x, e)
	}
	if x, e := Pieces(Table(), make([][]byte, api.MaxParts+1)); x != 0 || e != api.ErrMany {
		t.Errorf("empty ones alone: %d, error %d", x, e)
	}
}

func TestPiecesLimitOfBytes(t *testing.T) {
	r := bits(5)
	half := r.bytes(api.MaxDump / 2)
	for i, c := range []struct {
		l  [][]byte
		ok bool
	}{
		{[][]byte{half, half}, true},
		{[][]byte{half, nil, half, {}}, true},
		{[][]byte{half[1:], half, {9}}, true},
		{[][]byte{half, half, {9}}, false},
		{[][]byte{{9}, half, half}, false},
		{[][]byte{make([]byte, api.MaxDump)}, true},
		{[][]byte{make([]byte, api.MaxDump+1)}, false},
		{[][]byte{half, half, half, half}, false},
	} {
		x, e := Pieces(Table(), c.l)
		if c.ok && (e != api.OK || x != slow(slices.Concat(c.l...))) {
			t.Errorf("%d: %d, error %d", i, x, e)
		}
		if !c.ok && (e != api.ErrMany || x != 0) {
			t.Errorf("%d: %d, error %d, not ErrMany", i, x, e)
		}
	}
}

func TestJoin(t *testing.T) {
	r := bits(6)
	for n := range 40 {
		for k := range 40 {
			a, b := r.bytes(n), r.bytes(k)
			want := slow(append(slices.Clone(a), b...))
			if x := join(t, slow(a), slow(b), k); x != want {
				t.Fatalf("%d and %d bytes: %d, not %d", n, k, x, want)
			}
		}
	}
	if x := join(t, 3904355907, sum(t, []byte("bc")), 2); x != 891568578 {
		t.Errorf("of a and bc: %d", x)
	}
}

func TestJoinLimit(t *testing.T) {
	r := bits(7)
	a, most := r.bytes(9), r.bytes(api.MaxDump)
	want := slow(append(slices.Clone(a), most...))
	if x := join(t, slow(a), slow(most), api.MaxDump); x != want {
		t.Errorf("as many as are allowed: %d, not %d", x, want)
	}
	if x := join(t, slow(a), 0, 0); x != slow(a) {
		t.Errorf("with no bytes: %d, not %d", x, slow(a))
	}
	for _, n := range []int{-1, api.MaxDump + 1, -1 << 63, 1<<63 - 1} {
		if x, e := Join(Table(), 1, 2, n); x != 0 || e != api.ErrArg {
			t.Errorf("length %d: %d, error %d", n, x, e)
		}
	}
}

// P1.3

func TestPatch(t *testing.T) {
	r := bits(8)
	ends := []uint32{0, 1, 1 << 31, 1<<32 - 1, polynomial, 3421780262}
	for _, a := range ends {
		for _, want := range ends {
			if x := crc32.Update(a, crc32.IEEETable, patch(t, a, want)); x != want {
				t.Errorf("from %d to %d: %d", a, want, x)
			}
		}
	}
	for range 500 {
		a, want := r.next(), r.next()
		if x := next(t, a, patch(t, a, want)); x != want {
			t.Fatalf("from %d to %d: %d", a, want, x)
		}
	}
}

func TestPatchOfText(t *testing.T) {
	b := []byte("what is in front")
	b = append(b, patch(t, sum(t, b), 12345)...)
	if x := slow(b); x != 12345 {
		t.Errorf("%v: %d", b, x)
	}
	if p := patch(t, 0, slow([]byte("abcd"))); string(p) != "abcd" {
		t.Errorf("from no bytes to abcd: %q", p)
	}
}

// P1.4

func TestPiecesAndWholesAgree(t *testing.T) {
	r := bits(9)
	for n := range 100 {
		b := r.bytes(n)
		l, rest := [][]byte{}, b
		for len(l) < api.MaxParts-1 && len(rest) > 0 {
			at := int(r.next()) % (len(rest) + 1) % 7
			l, rest = append(l, rest[:at]), rest[at:]
		}
		l = append(l, rest)
		on, joined := uint32(0), uint32(0)
		for _, p := range l {
			on = next(t, on, p)
			joined = join(t, joined, sum(t, p), len(p))
		}
		if whole := sum(t, b); pieces(t, l) != whole || on != whole || joined != whole {
			t.Fatalf("%d bytes: %d, %d, %d, %d", n, whole, pieces(t, l), on, joined)
		}
	}
}

func TestPiecesAndWholesAgreeForAllCutsOfAString(t *testing.T) {
	b := []byte("wreckage")
	for cuts := range 1 << (len(b) - 1) {
		var l [][]byte
		from := 0
		for i := 1; i < len(b); i++ {
			if cuts>>(i-1)&1 == 1 {
				l, from = append(l, b[from:i]), i
			}
		}
		if x := pieces(t, append(l, b[from:])); x != sum(t, b) {
			t.Errorf("cuts %b: %d, not %d", cuts, x, sum(t, b))
		}
	}
}

func TestFourBytesSideBySideAreSeen(t *testing.T) {
	r := bits(10)
	b := r.bytes(30)
	whole := sum(t, b)
	for at := range len(b) {
		for bit := range 8 {
			c := slices.Clone(b)
			c[at] ^= 1 << bit
			if sum(t, c) == whole {
				t.Fatalf("bit %d of byte %d is not seen", bit, at)
			}
		}
	}
	for i := range 5000 {
		c, width := slices.Clone(b), i%4+1
		at := int(r.next()) % (len(b) - width + 1)
		for k := range width {
			c[at+k] = byte(r.next() >> 9)
		}
		if !slices.Equal(b, c) && sum(t, c) == whole {
			t.Fatalf("%v and %v have the same checksum", b, c)
		}
	}
}

func TestJustFourBytesMakeAChecksumAnotherOne(t *testing.T) {
	r := bits(11)
	for range 500 {
		a, p := r.next(), r.bytes(4)
		if q := patch(t, a, next(t, a, p)); !slices.Equal(p, q) {
			t.Fatalf("from %d: %v and %v make the same checksum", a, p, q)
		}
	}
}

// What the bits of four bytes change in the checksum has to have the rank 32: then no two of all four bytes give the
// same one, and each checksum is given by some.
func TestFourBytesReachEachChecksumOnce(t *testing.T) {
	for _, a := range []uint32{0, 1, 12345, 1<<32 - 1} {
		none := next(t, a, []byte{0, 0, 0, 0})
		var basis [32]uint32
		rank := 0
		for i := range 32 {
			p := []byte{0, 0, 0, 0}
			p[i/8] = 1 << (i % 8)
			x := next(t, a, p) ^ none
			for k := 31; k >= 0 && x != 0; k-- {
				if x>>k&1 == 0 {
					continue
				}
				if basis[k] == 0 {
					basis[k] = x
					rank++
					break
				}
				x ^= basis[k]
			}
		}
		if rank != 32 {
			t.Errorf("from %d: rank %d", a, rank)
		}
	}
}

func TestTableIsLinear(t *testing.T) {
	table := Table()
	for a := range table {
		for b := range table {
			if table[a^b] != table[a]^table[b] {
				t.Fatalf("elements %d and %d", a, b)
			}
		}
	}
}

// P1 for this layer: R1, R2, R3 and R7.

// checkBad calls each function that takes a table, with arguments that are good and that are not: the table comes first.
func checkBad(t *testing.T, name string, table [256]uint32) {
	t.Helper()
	much := make([]byte, api.MaxDump+1)
	for _, b := range [][]byte{nil, []byte("abc"), much} {
		if x, e := Sum(table, b); x != 0 || e != api.ErrBad {
			t.Errorf("%s: Sum of %d bytes: %d, error %d", name, len(b), x, e)
		}
		if x, e := Next(table, 7, b); x != 0 || e != api.ErrBad {
			t.Errorf("%s: Next with %d bytes: %d, error %d", name, len(b), x, e)
		}
		if x, e := Pieces(table, [][]byte{b}); x != 0 || e != api.ErrBad {
			t.Errorf("%s: Pieces of %d bytes: %d, error %d", name, len(b), x, e)
		}
	}
	for _, n := range []int{0, api.MaxParts + 1} {
		if x, e := Pieces(table, make([][]byte, n)); x != 0 || e != api.ErrBad {
			t.Errorf("%s: Pieces of %d: %d, error %d", name, n, x, e)
		}
	}
	for _, n := range []int{-1, 0, 5, api.MaxDump + 1} {
		if x, e := Join(table, 1, 2, n); x != 0 || e != api.ErrBad {
			t.Errorf("%s: Join with the length %d: %d, error %d", name, n, x, e)
		}
	}
	if p, e := Patch(table, 1, 2); p != [4]byte{} || e != api.ErrBad {
		t.Errorf("%s: Patch: %v, error %d", name, p, e)
	}
}

func TestATableThatIsNotTheTableComesFirst(t *testing.T) {
	checkBad(t, "zeros", [256]uint32{})
	checkBad(t, "Castagnoli", *crc32.MakeTable(crc32.Castagnoli))
	moved := Table()
	slices.Reverse(moved[:])
	checkBad(t, "reversed", moved)
	for i := range 256 {
		table := Table()
		table[i] ^= 1 << (i % 32)
		checkBad(t, "element "+strconv.Itoa(i), table)
	}
}

func TestArgumentsAreOnlyRead(t *testing.T) {
	r := bits(12)
	room := r.bytes(64)
	kept := slices.Clone(room)
	l := [][]byte{room[:5], room[5:9], nil, room[20:30]}
	all := append(make([][]byte, 0, 9), l...)
	table := Table()
	sum(t, room[:10])
	next(t, 3, room[10:40])
	pieces(t, all)
	patch(t, 1, 2)
	if !slices.Equal(room, kept) {
		t.Error("bytes have been changed")
	}
	if !slices.EqualFunc(all[:9], append(l, nil, nil, nil, nil, nil), slices.Equal) {
		t.Error("pieces have been changed")
	}
	if table != Table() {
		t.Error("the table has been changed")
	}
}

func TestNothingIsKept(t *testing.T) {
	b := []byte("123456789")
	for i := range 3 {
		if x := sum(t, b); x != 3421780262 {
			t.Errorf("call %d: %d", i, x)
		}
		Sum([256]uint32{}, b)
		Pieces(Table(), make([][]byte, api.MaxParts+1))
		Join(Table(), 1, 2, -1)
	}
	p := patch(t, 0, 5)
	q := slices.Clone(p)
	p[0] ^= 255
	if !slices.Equal(patch(t, 0, 5), q) {
		t.Error("a change of one result is seen in the next one")
	}
}
