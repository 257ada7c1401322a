package bump

import (
	"bytes"
	"fmt"
	"math"
	"math/rand/v2"
	"reflect"
	"slices"
	"strings"
	"testing"

	"wreckage/api"
)

const (
	firstAddress = 65536
	mostHeap     = 16384
	mostAlloc    = 4096
	mostTexts    = 32
	mostText     = 64
)

// heapOf is the heap with some bytes.
func heapOf(b ...byte) api.Region {
	return api.Region{Base: firstAddress, Bytes: b}
}

// zeros is the heap with n bytes 0.
func zeros(n int) api.Region {
	return heapOf(make([]byte, n)...)
}

// numbered is the heap with n bytes of which none is 0, and those beside each other differ.
func numbered(n int) api.Region {
	h := zeros(n)
	for i := range h.Bytes {
		h.Bytes[i] = byte(1 + i%251)
	}
	return h
}

// The oracle says what the chapter says, in other ways than the program: it counts in units of 8 bytes, or tries one size after the other.

func oracleHeap(h api.Region) bool {
	return h.Base == firstAddress && len(h.Bytes)&7 == 0 && len(h.Bytes) < mostHeap+1
}

func oracleLimit(limit int) bool {
	return limit >= 0 && limit < mostHeap+1
}

// oracleSize looks for the first size that is great enough.
func oracleSize(n int) int {
	s := 8
	for s < n {
		s += 8
	}
	return s
}

// oracleRoom makes an allocation greater and greater, for as long as the heap then has at most as many bytes as the limit.
func oracleRoom(h api.Region, limit int) (int, api.Errno) {
	switch {
	case !oracleHeap(h):
		return 0, api.ErrBad
	case !oracleLimit(limit):
		return 0, api.ErrArg
	}
	room := 0
	for len(h.Bytes)+room+8 <= limit {
		room += 8
	}
	return room, api.OK
}

func oracleAlloc(h api.Region, n, limit int) (api.Region, uint64, api.Errno) {
	switch {
	case !oracleHeap(h):
		return api.Region{}, 0, api.ErrBad
	case !oracleLimit(limit), n < 0, n > mostAlloc:
		return api.Region{}, 0, api.ErrArg
	}
	all := slices.Concat(h.Bytes, make([]byte, oracleSize(n)))
	if len(all) > limit {
		return api.Region{}, 0, api.ErrFull
	}
	return heapOf(all...), uint64(firstAddress + len(h.Bytes)), api.OK
}

func oraclePut(h api.Region, b []byte, limit int) (api.Region, uint64, api.Errno) {
	grown, a, e := oracleAlloc(h, len(b), limit)
	if e != api.OK {
		return api.Region{}, 0, e
	}
	for i, x := range b {
		grown.Bytes[int(a)-firstAddress+i] = x
	}
	return grown, a, api.OK
}

func oracleTexts(l []string, limit int) (api.Region, []uint64, api.Errno) {
	switch {
	case !oracleLimit(limit):
		return api.Region{}, nil, api.ErrArg
	case len(l) > mostTexts:
		return api.Region{}, nil, api.ErrMany
	case slices.ContainsFunc(l, func(s string) bool { return len(s) > mostText }):
		return api.Region{}, nil, api.ErrArg
	}
	all := ""
	var addresses []uint64
	for _, s := range l {
		addresses = append(addresses, uint64(firstAddress+len(all)))
		all += s + strings.Repeat("\x00", oracleSize(len(s))-len(s))
		if len(all) > limit {
			return api.Region{}, nil, api.ErrFull
		}
	}
	return heapOf([]byte(all)...), addresses, api.OK
}

// rule gives different numbers, the same ones in each run of the tests.
func rule(seed uint64) *rand.Rand {
	return rand.New(rand.NewPCG(seed, 14))
}

func among[T any](r *rand.Rand, l ...T) T {
	return l[r.IntN(len(l))]
}

// someBytes are n bytes.
func someBytes(r *rand.Rand, n int) []byte {
	b := make([]byte, n)
	for i := range b {
		b[i] = byte(r.Uint32())
	}
	return b
}

// limits are valid.
func limits() []int {
	return []int{0, 1, 7, 8, 9, 15, 16, 17, 23, 24, 63, 64, 65, 4095, 4096, 4097, 4104, 8192, 16375, 16376, 16377, 16383, 16384}
}

// otherLimits are not valid. Taken for fewer bits, some would be.
func otherLimits() []int {
	return []int{-1, -8, 16385, 16392, 20000, 65536, 1 << 32, 1<<32 + 64, -1 << 32, math.MinInt, math.MinInt + 64, math.MaxInt}
}

// counts are of bytes that can be allocated.
func counts() []int {
	return []int{0, 1, 3, 7, 8, 9, 15, 16, 17, 24, 40, 63, 64, 65, 255, 256, 257, 4087, 4088, 4089, 4095, 4096}
}

// otherCounts are of bytes that cannot be. Taken for fewer bits, some could.
func otherCounts() []int {
	return []int{-1, -7, -8, 4097, 4104, 8192, 16384, 65536, 1 << 32, 1<<32 + 8, -1 << 32, math.MinInt, math.MinInt + 8, math.MaxInt - 7, math.MaxInt}
}

// heaps are some that are valid.
func heaps() []api.Region {
	var l []api.Region
	for _, n := range []int{0, 8, 16, 24, 64, 4088, 4096, 8192, 12288, 16368, 16376, 16384} {
		l = append(l, numbered(n))
	}
	return l
}

// noHeaps are regions that are no heap, for different reasons, and some that are not valid ones.
func noHeaps() []api.Region {
	l := []api.Region{{}, {Bytes: make([]byte, 8)}, zeros(mostHeap + 8), zeros(mostHeap + 1), zeros(20000), zeros(20008), zeros(65536), zeros(1<<16 + 8)}
	for _, n := range []int{1, 2, 4, 7, 9, 12, 15, 20, 63, 65, mostHeap - 1, mostHeap - 4, mostHeap - 7} {
		l = append(l, zeros(n))
	}
	for _, base := range []uint64{0, 1, 8, 65528, 65535, 65537, 65544, 65540, 131072, 16777216, 1<<32 + 65536, 1<<40 + 65536, 1<<63 + 65536, math.MaxUint64} {
		l = append(l, api.Region{Base: base}, api.Region{Base: base, Bytes: make([]byte, 16)})
	}
	return l
}

func equal(a, b api.Region) bool {
	return a.Base == b.Base && bytes.Equal(a.Bytes, b.Bytes)
}

func told(h api.Region) string {
	if len(h.Bytes) > 80 {
		return fmt.Sprintf("%d bytes at %d, %v … %v", len(h.Bytes), h.Base, h.Bytes[:24], h.Bytes[len(h.Bytes)-24:])
	}
	return fmt.Sprintf("%v at %d", h.Bytes, h.Base)
}

func checkRoom(t *testing.T, h api.Region, limit, want int, wantError api.Errno) {
	t.Helper()
	if room, e := Room(h, limit); e != wantError || room != want {
		t.Errorf("Room of %s with the limit %d: %d, error %d, not %d, error %d", told(h), limit, room, e, want, wantError)
	}
}

func checkAlloc(t *testing.T, h api.Region, n, limit int, want api.Region, wantAddress uint64, wantError api.Errno) {
	t.Helper()
	if grown, a, e := Alloc(h, n, limit); e != wantError || a != wantAddress || !equal(grown, want) {
		t.Errorf("Alloc in %s of %d with the limit %d: %s, %d, error %d, not %s, %d, error %d", told(h), n, limit, told(grown), a, e, told(want), wantAddress, wantError)
	}
}

func checkPut(t *testing.T, h api.Region, b []byte, limit int, want api.Region, wantAddress uint64, wantError api.Errno) {
	t.Helper()
	if grown, a, e := Put(h, b, limit); e != wantError || a != wantAddress || !equal(grown, want) {
		t.Errorf("Put in %s of %d bytes with the limit %d: %s, %d, error %d, not %s, %d, error %d", told(h), len(b), limit, told(grown), a, e, told(want), wantAddress, wantError)
	}
}

func checkTextsOf(t *testing.T, l []string, limit int, want api.Region, wantAddresses []uint64, wantError api.Errno) {
	t.Helper()
	if h, addresses, e := Texts(l, limit); e != wantError || !slices.Equal(addresses, wantAddresses) || !equal(h, want) {
		t.Errorf("Texts of %q with the limit %d: %s, %v, error %d, not %s, %v, error %d", l, limit, told(h), addresses, e, told(want), wantAddresses, wantError)
	}
}

// byOracle calls all functions with a heap, if it is one, and compares what they do with what the oracle does.
func byOracle(t *testing.T, h api.Region, n, limit int, b []byte) {
	t.Helper()
	room, e := oracleRoom(h, limit)
	checkRoom(t, h, limit, room, e)
	want, a, e := oracleAlloc(h, n, limit)
	checkAlloc(t, h, n, limit, want, a, e)
	want, a, e = oraclePut(h, b, limit)
	checkPut(t, h, b, limit, want, a, e)
}

func textsByOracle(t *testing.T, l []string, limit int) {
	t.Helper()
	want, addresses, e := oracleTexts(l, limit)
	checkTextsOf(t, l, limit, want, addresses, e)
}

// mustAlloc allocates where there is room.
func mustAlloc(t *testing.T, h api.Region, n, limit int) (api.Region, uint64) {
	t.Helper()
	grown, a, e := Alloc(h, n, limit)
	if e != api.OK {
		t.Fatalf("Alloc in %s of %d with the limit %d: error %d", told(h), n, limit, e)
	}
	return grown, a
}

// mustPut puts where there is room.
func mustPut(t *testing.T, h api.Region, b []byte, limit int) (api.Region, uint64) {
	t.Helper()
	grown, a, e := Put(h, b, limit)
	if e != api.OK {
		t.Fatalf("Put in %s of %d bytes with the limit %d: error %d", told(h), len(b), limit, e)
	}
	return grown, a
}

// lots are n texts of some length each, all different.
func lots(n, length int) []string {
	l := make([]string, n)
	for i := range l {
		l[i] = strings.Repeat(string(rune('A'+i)), length)
	}
	return l
}

// All promises

func TestTheChaptersExamples(t *testing.T) {
	h, first := mustAlloc(t, New(), 3, 100)
	h, second := mustAlloc(t, h, 0, 100)
	if first != 65536 || second != 65544 || len(h.Bytes) != 16 {
		t.Errorf("the addresses are %d and %d, and the heap %s", first, second, told(h))
	}
	checkRoom(t, h, 23, 0, api.OK)
	checkAlloc(t, h, 0, 23, api.Region{}, 0, api.ErrFull)
	checkRoom(t, h, 24, 8, api.OK)
	checkAlloc(t, h, 8, 24, zeros(24), 65552, api.OK)
	checkAlloc(t, h, 9, 24, api.Region{}, 0, api.ErrFull)
}

// P14.1

func TestNew(t *testing.T) {
	for range 2 {
		h := New()
		if h.Base != firstAddress || len(h.Bytes) != 0 {
			t.Errorf("New is %s", told(h))
		}
		// The next one does not have what was done to this one.
		h.Base = 8
		h.Bytes = append(h.Bytes, 1, 2, 3)
	}
}

func TestRoomOfLimits(t *testing.T) {
	for limit := range mostHeap + 1 {
		checkRoom(t, New(), limit, limit/8*8, api.OK)
	}
	for _, c := range []struct{ has, limit, want int }{
		{16, 0, 0}, {16, 15, 0}, {16, 16, 0}, {16, 17, 0}, {16, 23, 0}, {16, 24, 8}, {16, 25, 8}, {16, 31, 8}, {16, 32, 16},
		{0, 0, 0}, {0, 7, 0}, {0, 8, 8}, {0, 4096, 4096}, {0, 4104, 4104}, {0, 16384, 16384}, {0, 16383, 16376},
		{12288, 16384, 4096}, {12280, 16384, 4104}, {16376, 16384, 8}, {16376, 16383, 0}, {16384, 16384, 0}, {16384, 0, 0}, {16384, 16383, 0},
	} {
		checkRoom(t, numbered(c.has), c.limit, c.want, api.OK)
	}
}

func TestRoomByOracle(t *testing.T) {
	for _, h := range slices.Concat(heaps(), noHeaps()) {
		for _, limit := range slices.Concat(limits(), otherLimits()) {
			room, e := oracleRoom(h, limit)
			checkRoom(t, h, limit, room, e)
		}
		for i := range 40 {
			limit := len(h.Bytes) + i - 20
			room, e := oracleRoom(h, limit)
			checkRoom(t, h, limit, room, e)
		}
	}
}

// P14.2

func TestAllocOfAllCounts(t *testing.T) {
	for _, h := range []api.Region{New(), numbered(8), numbered(4096), numbered(12288)} {
		at := h.Base + uint64(len(h.Bytes))
		for n := range mostAlloc + 1 {
			grown, a := mustAlloc(t, h, n, mostHeap)
			has := len(h.Bytes)
			if a != at || grown.Base != h.Base || len(grown.Bytes) != has+oracleSize(n) {
				t.Fatalf("Alloc in %s of %d: %s, %d", told(h), n, told(grown), a)
			}
			if !bytes.Equal(grown.Bytes[:has], h.Bytes) || slices.ContainsFunc(grown.Bytes[has:], func(x byte) bool { return x != 0 }) {
				t.Fatalf("Alloc in %s of %d: %s", told(h), n, told(grown))
			}
		}
	}
}

func TestAllocByOracle(t *testing.T) {
	for _, h := range heaps() {
		for _, n := range slices.Concat(counts(), otherCounts()) {
			for _, limit := range slices.Concat(limits(), otherLimits()) {
				want, a, e := oracleAlloc(h, n, limit)
				checkAlloc(t, h, n, limit, want, a, e)
			}
			// Around the limit with which there is room just now.
			if n >= 0 && n <= mostAlloc {
				for i := range 20 {
					limit := len(h.Bytes) + oracleSize(n) + i - 10
					want, a, e := oracleAlloc(h, n, limit)
					checkAlloc(t, h, n, limit, want, a, e)
				}
			}
		}
	}
}

func TestPutOfAllCounts(t *testing.T) {
	all := someBytes(rule(1), mostAlloc)
	for _, h := range []api.Region{New(), numbered(24)} {
		for n := 0; n <= mostAlloc; n += among(rule(uint64(n)), 1, 1, 7, 8) {
			want, a, e := oraclePut(h, all[:n], mostHeap)
			if e != api.OK {
				t.Fatalf("error %d", e)
			}
			checkPut(t, h, all[:n], mostHeap, want, a, api.OK)
		}
		checkPut(t, h, all, mostHeap, heapOf(slices.Concat(h.Bytes, all)...), firstAddress+uint64(len(h.Bytes)), api.OK)
	}
	checkPut(t, numbered(8), []byte{5, 6, 7}, 16, heapOf(1, 2, 3, 4, 5, 6, 7, 8, 5, 6, 7, 0, 0, 0, 0, 0), 65544, api.OK)
	checkPut(t, New(), nil, 8, zeros(8), 65536, api.OK)
	checkPut(t, New(), []byte("abcdefghi"), 16, heapOf('a', 'b', 'c', 'd', 'e', 'f', 'g', 'h', 'i', 0, 0, 0, 0, 0, 0, 0), 65536, api.OK)
}

func TestPutByOracle(t *testing.T) {
	r := rule(2)
	for _, h := range heaps() {
		for _, n := range slices.Concat(counts(), []int{4097, 4104, 8192, 20001}) {
			b := someBytes(r, n)
			for _, limit := range slices.Concat(limits(), otherLimits(), []int{len(h.Bytes) + n, len(h.Bytes) + n + 7, len(h.Bytes) + n + 8}) {
				want, a, e := oraclePut(h, b, limit)
				checkPut(t, h, b, limit, want, a, e)
			}
		}
	}
}

// What is not a heap is told before what is no limit, and this before what is no count, and this before that there is no room.
func TestErrorsInOrder(t *testing.T) {
	long := make([]byte, mostAlloc+1)
	for _, h := range noHeaps() {
		for _, limit := range []int{0, 8, mostHeap, -1, mostHeap + 1} {
			checkRoom(t, h, limit, 0, api.ErrBad)
			for _, n := range []int{0, 8, mostAlloc, -1, mostAlloc + 1} {
				checkAlloc(t, h, n, limit, api.Region{}, 0, api.ErrBad)
			}
			checkPut(t, h, nil, limit, api.Region{}, 0, api.ErrBad)
			checkPut(t, h, []byte{1}, limit, api.Region{}, 0, api.ErrBad)
			checkPut(t, h, long, limit, api.Region{}, 0, api.ErrBad)
		}
	}
	for _, h := range heaps() {
		for _, limit := range otherLimits() {
			checkRoom(t, h, limit, 0, api.ErrArg)
			checkAlloc(t, h, 8, limit, api.Region{}, 0, api.ErrArg)
			checkPut(t, h, []byte{1}, limit, api.Region{}, 0, api.ErrArg)
		}
		for _, n := range otherCounts() {
			// There is no room with the limit 0, whatever is allocated.
			checkAlloc(t, h, n, 0, api.Region{}, 0, api.ErrArg)
			checkAlloc(t, h, n, mostHeap, api.Region{}, 0, api.ErrArg)
		}
		checkAlloc(t, h, mostAlloc, 0, api.Region{}, 0, api.ErrFull)
		checkAlloc(t, h, 0, 0, api.Region{}, 0, api.ErrFull)
		checkPut(t, h, long, 0, api.Region{}, 0, api.ErrArg)
		checkPut(t, h, long[:mostAlloc], 0, api.Region{}, 0, api.ErrFull)
	}
}

// P14.3

func TestTexts(t *testing.T) {
	checkTextsOf(t, nil, 0, New(), nil, api.OK)
	checkTextsOf(t, []string{""}, 8, zeros(8), []uint64{65536}, api.OK)
	checkTextsOf(t, []string{"a", "", "bcdefghi", "jklmnopqr"}, 40,
		heapOf([]byte("a\x00\x00\x00\x00\x00\x00\x00"+"\x00\x00\x00\x00\x00\x00\x00\x00"+"bcdefghi"+"jklmnopqr\x00\x00\x00\x00\x00\x00\x00")...),
		[]uint64{65536, 65544, 65552, 65560}, api.OK)
	checkTextsOf(t, []string{"same", "same"}, 16, heapOf([]byte("same\x00\x00\x00\x00same\x00\x00\x00\x00")...), []uint64{65536, 65544}, api.OK)
	// Texts are bytes, of any kind.
	checkTextsOf(t, []string{"\x00\xff", "é\n"}, 16, heapOf([]byte("\x00\xff\x00\x00\x00\x00\x00\x00é\n\x00\x00\x00\x00\x00")...), []uint64{65536, 65544}, api.OK)
}

func TestTextsOfAllLengths(t *testing.T) {
	for n := range mostTexts + 3 {
		for length := range mostText + 3 {
			l := lots(n, length)
			needed := n * oracleSize(length)
			for _, limit := range []int{mostHeap, needed, needed - 1, needed - 8, needed + 7, 0, 64} {
				textsByOracle(t, l, limit)
			}
		}
	}
	for _, limit := range slices.Concat(limits(), otherLimits()) {
		for n := range mostTexts + 3 {
			l := lots(n, 7)
			textsByOracle(t, l, limit)
			textsByOracle(t, append(l, strings.Repeat("x", 33), ""), limit)
			textsByOracle(t, append(slices.Clone(l), strings.Repeat("x", 65)), limit)
			textsByOracle(t, append([]string{strings.Repeat("x", 65)}, l...), limit)
		}
	}
}

func TestTextsErrorsInOrder(t *testing.T) {
	long := strings.Repeat("x", mostText+1)
	most := lots(mostTexts, mostText)
	many := append(lots(mostTexts, 1), "a")
	tooLong := []string{"a", long, "b"}
	for _, limit := range otherLimits() {
		for _, l := range [][]string{nil, {"a"}, many, tooLong} {
			checkTextsOf(t, l, limit, api.Region{}, nil, api.ErrArg)
		}
	}
	for _, limit := range []int{0, 8, mostHeap} {
		checkTextsOf(t, many, limit, api.Region{}, nil, api.ErrMany)
		checkTextsOf(t, append(slices.Clone(most), long), limit, api.Region{}, nil, api.ErrMany)
		checkTextsOf(t, tooLong, limit, api.Region{}, nil, api.ErrArg)
		checkTextsOf(t, append(lots(mostTexts-1, 64), long), limit, api.Region{}, nil, api.ErrArg)
		checkTextsOf(t, []string{strings.Repeat("x", 1000)}, limit, api.Region{}, nil, api.ErrArg)
	}
	checkTextsOf(t, most, 2047, api.Region{}, nil, api.ErrFull)
	checkTextsOf(t, []string{""}, 7, api.Region{}, nil, api.ErrFull)
	checkTextsOf(t, []string{"a", "abcdefghi"}, 23, api.Region{}, nil, api.ErrFull)
	h, addresses, e := Texts(most, 2048)
	if e != api.OK || len(h.Bytes) != 2048 || len(addresses) != mostTexts || string(h.Bytes) != strings.Join(most, "") {
		t.Errorf("Texts of the most texts: %s, %v, error %d", told(h), addresses, e)
	}
}

// A text that has no room ends it, even if there is room for one behind it.
func TestTextsEndAtTheFirstError(t *testing.T) {
	checkTextsOf(t, []string{"abcdefghi", "a"}, 8, api.Region{}, nil, api.ErrFull)
	checkTextsOf(t, []string{"a", "abcdefghi", "b"}, 16, api.Region{}, nil, api.ErrFull)
	checkTextsOf(t, []string{"a", "abcdefghi", "b", "c"}, 23, api.Region{}, nil, api.ErrFull)
}

// Texts does what Put does with one text after the other.
func TestTextsAreThoseOfPut(t *testing.T) {
	r := rule(3)
	for range 500 {
		h, limit := New(), mostHeap
		var l []string
		var addresses []uint64
		for range r.IntN(mostTexts + 1) {
			b := someBytes(r, r.IntN(mostText+1))
			var a uint64
			h, a = mustPut(t, h, b, limit)
			l, addresses = append(l, string(b)), append(addresses, a)
		}
		checkTextsOf(t, l, limit, h, addresses, api.OK)
		checkTextsOf(t, l, len(h.Bytes), h, addresses, api.OK)
		if len(l) > 0 {
			checkTextsOf(t, l, len(h.Bytes)-1, api.Region{}, nil, api.ErrFull)
		}
	}
}

// P14.4

// allocated is what a test has put into a heap.
type allocated struct {
	at   uint64
	has  []byte
	size int
}

func TestAllocationsDoNotOverlap(t *testing.T) {
	r := rule(4)
	var full, reached int
	for range 60 {
		h := New()
		limit := among(r, mostHeap, 4096, r.IntN(mostHeap+1))
		var l []allocated
		for range 200 {
			room, e := Room(h, limit)
			if e != api.OK {
				t.Fatalf("error %d", e)
			}
			n := among(r, r.IntN(9), r.IntN(60), r.IntN(mostAlloc+1), min(room, mostAlloc), min(room+1, mostAlloc))
			next, a, e := Alloc(h, n, limit)
			b := make([]byte, n)
			if r.IntN(2) == 0 {
				b = someBytes(r, n)
				next, a, e = Put(h, b, limit)
			}
			if (e == api.OK) != (oracleSize(n) <= room) {
				t.Fatalf("error %d, for %d bytes in the room of %d", e, n, room)
			}
			if e != api.OK {
				full++
				continue
			}
			checkAllocation(t, h, next, a, limit, l)
			h, l = next, append(l, allocated{a, b, oracleSize(n)})
			if len(h.Bytes)+7 >= limit {
				reached++
			}
		}
		checkBytes(t, h, l)
	}
	if full < 1000 || reached < 20 {
		t.Errorf("there was no room %d times, and the limit was reached %d times", full, reached)
	}
}

// checkAllocation checks an allocation by which a heap became the next one.
func checkAllocation(t *testing.T, h, next api.Region, a uint64, limit int, l []allocated) {
	t.Helper()
	if a%8 != 0 || a == 0 || len(next.Bytes) > limit || a != h.Base+uint64(len(h.Bytes)) {
		t.Fatalf("%d was allocated in %s, so that it is %s", a, told(h), told(next))
	}
	if !bytes.Equal(next.Bytes[:len(h.Bytes)], h.Bytes) {
		t.Fatalf("%s has become %s", told(h), told(next))
	}
	for _, x := range l {
		if a < x.at+uint64(x.size) {
			t.Fatalf("%d was allocated, and %d bytes at %d before", a, x.size, x.at)
		}
	}
}

// checkBytes checks that all that was put is where it was put, and nothing else is anywhere.
func checkBytes(t *testing.T, h api.Region, l []allocated) {
	t.Helper()
	var all []byte
	for _, x := range l {
		if x.at != uint64(firstAddress+len(all)) {
			t.Fatalf("%d bytes were put to %d, behind %d", len(x.has), x.at, len(all))
		}
		all = slices.Concat(all, x.has, make([]byte, x.size-len(x.has)))
	}
	if !bytes.Equal(all, h.Bytes) {
		t.Errorf("%s is not %s", told(h), told(heapOf(all...)))
	}
}

// The consequence, for all limits and counts beside those at which there is room.
func TestThereIsRoomExactlyIfRoomSaysIt(t *testing.T) {
	for _, h := range heaps() {
		for _, limit := range slices.Concat(limits(), []int{len(h.Bytes) + 4088, len(h.Bytes) + 4096, len(h.Bytes) + 4097}) {
			if limit > mostHeap {
				continue
			}
			room, e := Room(h, limit)
			if e != api.OK {
				t.Fatalf("error %d", e)
			}
			for _, n := range slices.Concat(counts(), []int{room - 8, room - 7, room - 1, room, room + 1, room + 7, room + 8, room + 9}) {
				if n < 0 || n > mostAlloc {
					continue
				}
				_, _, e := Alloc(h, n, limit)
				_, _, ePut := Put(h, make([]byte, n), limit)
				want := api.Errno(api.ErrFull)
				if oracleSize(n) <= room {
					want = api.OK
				}
				if e != want || ePut != want {
					t.Errorf("errors %d and %d for %d bytes in the room of %d", e, ePut, n, room)
				}
			}
		}
	}
}

// A heap that is as great as one can be, by allocations of each size.
func TestHeapsBecomeFull(t *testing.T) {
	for _, n := range []int{0, 1, 8, 9, 24, 56, 100, 1000, 2048, 4095, 4096} {
		for _, limit := range []int{mostHeap, mostHeap - 1, 5000, 4096, 100} {
			h, times := New(), 0
			for {
				next, a, e := Alloc(h, n, limit)
				if e == api.ErrFull {
					break
				}
				if e != api.OK || a != uint64(firstAddress+times*oracleSize(n)) {
					t.Fatalf("%d, error %d", a, e)
				}
				h, times = next, times+1
			}
			if times != limit/oracleSize(n) || len(h.Bytes) != times*oracleSize(n) {
				t.Errorf("%d bytes were allocated %d times with the limit %d", n, times, limit)
			}
		}
	}
}

// R2: arguments are only read, and results share no memory.

func TestArgumentsAreOnlyRead(t *testing.T) {
	whole := numbered(200)
	all := whole.Bytes
	bytesAll := []byte{201, 202, 203, 204, 205, 206, 207, 208, 209}
	texts := []string{"a", "bcd", "efghijklmnop", "behind"}
	kept, keptBytes, keptTexts := slices.Clone(all), slices.Clone(bytesAll), slices.Clone(texts)
	for range 2 {
		for has := 0; has <= 200; has += 5 {
			h := heapOf(all[:has]...)
			for _, n := range []int{-1, 0, 1, 8, 9, 40, 4097} {
				byOracle(t, h, n, mostHeap, bytesAll[:n&3])
				byOracle(t, h, n, has+8, bytesAll[:4])
				byOracle(t, h, n, has, bytesAll[:1])
				byOracle(t, h, n, -1, nil)
			}
			// The bytes that are put may be some of the heap's own.
			byOracle(t, h, 1, mostHeap, all[:has])
			byOracle(t, h, 1, mostHeap, all[has:])
		}
		textsByOracle(t, texts[:3], 32)
		textsByOracle(t, texts[:2], 15)
		textsByOracle(t, texts[:0], 15)
	}
	if !bytes.Equal(all, kept) || !bytes.Equal(bytesAll, keptBytes) || !slices.Equal(texts, keptTexts) {
		t.Errorf("the arguments have become %v, %v and %q", all, bytesAll, texts)
	}
}

// span is memory that a list has, all of its room too. The list is kept, so that no later one gets the same memory.
type span struct {
	from, end uintptr
	list      any
}

func spanOf[T any](l []T) span {
	v := reflect.ValueOf(l)
	from := v.Pointer()
	return span{from, from + uintptr(cap(l))*v.Type().Elem().Size(), l}
}

func TestResultsShareNoMemory(t *testing.T) {
	h := numbered(64)
	h.Bytes = h.Bytes[:40]
	b := []byte{201, 202, 203, 204}[:3]
	all := []span{spanOf(h.Bytes), spanOf(b)}
	for range 2 {
		grown, _ := mustAlloc(t, h, 3, 200)
		again, _ := mustAlloc(t, grown, 0, 200)
		put, _ := mustPut(t, h, b, 200)
		empty, _ := mustPut(t, h, nil, 200)
		heap, addresses, e := Texts([]string{"a", "bc"}, 200)
		if e != api.OK {
			t.Fatalf("error %d", e)
		}
		for _, l := range [][]byte{grown.Bytes, again.Bytes, put.Bytes, empty.Bytes, heap.Bytes} {
			all = append(all, spanOf(l))
		}
		all = append(all, spanOf(addresses))
	}
	for i, x := range all {
		if x.from == x.end {
			t.Fatal("a list has no memory")
		}
		for _, y := range all[:i] {
			if x.from < y.end && y.from < x.end {
				t.Errorf("%x to %x and %x to %x are the same memory", x.from, x.end, y.from, y.end)
			}
		}
	}
}

// A heap is a value: two that were made of the same one have nothing to do with each other.
func TestHeapsAreValues(t *testing.T) {
	given, _ := mustPut(t, New(), []byte{1, 2, 3}, 100)
	one, a := mustPut(t, given, []byte{4}, 100)
	two, b := mustPut(t, given, []byte{5, 6}, 100)
	if a != b || a != 65544 {
		t.Errorf("the addresses are %d and %d", a, b)
	}
	given.Bytes[0] = 77
	one.Bytes[1] = 88
	if want := heapOf(1, 88, 3, 0, 0, 0, 0, 0, 4, 0, 0, 0, 0, 0, 0, 0); !equal(one, want) {
		t.Errorf("%s is not %s", told(one), told(want))
	}
	if want := heapOf(1, 2, 3, 0, 0, 0, 0, 0, 5, 6, 0, 0, 0, 0, 0, 0); !equal(two, want) {
		t.Errorf("%s is not %s", told(two), told(want))
	}
	checkTextsOf(t, []string{"a"}, 8, heapOf('a', 0, 0, 0, 0, 0, 0, 0), []uint64{65536}, api.OK)
	checkTextsOf(t, []string{"b"}, 8, heapOf('b', 0, 0, 0, 0, 0, 0, 0), []uint64{65536}, api.OK)
}

// R3
func TestEmptyAndNilAreTheSame(t *testing.T) {
	for _, b := range [][]byte{nil, {}, make([]byte, 0, 9)} {
		h := api.Region{Base: firstAddress, Bytes: b}
		checkRoom(t, h, 17, 16, api.OK)
		checkAlloc(t, h, 0, 8, zeros(8), firstAddress, api.OK)
		checkPut(t, h, b, 8, zeros(8), firstAddress, api.OK)
		checkPut(t, h, []byte{}, 8, zeros(8), firstAddress, api.OK)
	}
	for _, l := range [][]string{nil, {}, make([]string, 0, 3)} {
		checkTextsOf(t, l, 0, New(), nil, api.OK)
		checkTextsOf(t, l, mostHeap, New(), nil, api.OK)
		checkTextsOf(t, l, -1, api.Region{}, nil, api.ErrArg)
	}
}

// R7

func TestAnyArguments(t *testing.T) {
	r := rule(5)
	number := func() int {
		return among(r, 0, 8, 64, mostAlloc, mostHeap, r.IntN(80), r.IntN(mostAlloc+9), r.IntN(mostHeap+9), r.IntN(mostHeap+9), -r.IntN(99), int(r.Uint64()), among(r, otherLimits()...), among(r, otherCounts()...))
	}
	some := func() api.Region {
		h := numbered(among(r, r.IntN(12)*8, r.IntN(12)*8, r.IntN(100), r.IntN(mostHeap/8+2)*8, mostHeap, mostHeap+8))
		if r.IntN(12) == 0 {
			h.Base = among(r, 0, 8, firstAddress+8, firstAddress-8, r.Uint64(), r.Uint64()/8*8)
		}
		return h
	}
	met := map[api.Errno]int{}
	for range 8000 {
		h := some()
		n := number()
		limit := among(r, number(), len(h.Bytes)+r.IntN(90)-20)
		byOracle(t, h, n, limit, someBytes(r, among(r, r.IntN(30), r.IntN(30), r.IntN(mostAlloc+9))))
		_, _, e := oracleAlloc(h, n, limit)
		met[e]++
		var l []string
		for range among(r, r.IntN(6), r.IntN(mostTexts+3)) {
			l = append(l, string(someBytes(r, among(r, r.IntN(12), r.IntN(mostText+1), r.IntN(mostText+1)))))
		}
		if len(l) > 0 && r.IntN(20) == 0 {
			l[r.IntN(len(l))] = strings.Repeat("y", mostText+1+r.IntN(200))
		}
		limit = among(r, number(), r.IntN(500))
		textsByOracle(t, l, limit)
		_, _, e = oracleTexts(l, limit)
		met[100+e]++
	}
	for _, e := range []api.Errno{api.OK, api.ErrBad, api.ErrArg, api.ErrFull, 100 + api.OK, 100 + api.ErrMany, 100 + api.ErrArg, 100 + api.ErrFull} {
		if met[e] < 100 {
			t.Errorf("%d was met %d times", e, met[e])
		}
	}
}
