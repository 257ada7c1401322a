package region

import (
	"bytes"
	"encoding/binary"
	"fmt"
	"math"
	"math/big"
	"math/rand/v2"
	"reflect"
	"slices"
	"testing"

	"wreckage/api"
)

const (
	greatestBase = 1099511627776
	mostBytes    = 20000
	mostRegions  = 17
)

// over is the region with some bytes.
func over(base uint64, b ...byte) api.Region {
	return api.Region{Base: base, Bytes: b}
}

// zeros is the region with n bytes 0.
func zeros(base uint64, n int) api.Region {
	return over(base, make([]byte, n)...)
}

// numbered is the region with n bytes of which those beside each other differ.
func numbered(base uint64, n int) api.Region {
	r := zeros(base, n)
	for i := range r.Bytes {
		r.Bytes[i] = byte(1 + i%251)
	}
	return r
}

// The oracle says what the chapter says, in other ways than the program: its addresses are numbers without bounds.

func oracleBase(base uint64) bool {
	return base/8*8 == base && base != 0 && base < greatestBase+1
}

func oracleValid(r api.Region) bool {
	return oracleBase(r.Base) && len(r.Bytes) < mostBytes+1
}

func number(n uint64) *big.Int {
	return new(big.Int).SetUint64(n)
}

func sum(a uint64, n int) *big.Int {
	return new(big.Int).Add(number(a), big.NewInt(int64(n)))
}

func oracleHas(r api.Region, a uint64, n int) bool {
	return number(a).Cmp(number(r.Base)) >= 0 && sum(a, n).Cmp(sum(r.Base, len(r.Bytes))) <= 0
}

// oracleOverlap looks at each address of the one region.
func oracleOverlap(a, b api.Region) bool {
	for i := range a.Bytes {
		if oracleHas(b, a.Base+uint64(i), 1) {
			return true
		}
	}
	return false
}

func oracleBytes(r api.Region, a uint64, n int) ([]byte, api.Errno) {
	switch {
	case !oracleValid(r):
		return nil, api.ErrBad
	case n < 0:
		return nil, api.ErrArg
	case !oracleHas(r, a, n):
		return nil, api.ErrRange
	}
	var b []byte
	for i := range n {
		b = append(b, r.Bytes[int(a-r.Base)+i])
	}
	return b, api.OK
}

func oracleWrite(r api.Region, a uint64, b []byte) (api.Region, api.Errno) {
	switch {
	case !oracleValid(r):
		return api.Region{}, api.ErrBad
	case !oracleHas(r, a, len(b)):
		return api.Region{}, api.ErrRange
	}
	at := int(a - r.Base)
	return over(r.Base, slices.Concat(r.Bytes[:at], b, r.Bytes[at+len(b):])...), api.OK
}

func oracleLoad(r api.Region, a uint64, w int) (uint64, api.Errno) {
	if !oracleValid(r) {
		return 0, api.ErrBad
	}
	if !slices.Contains([]int{1, 8}, w) {
		return 0, api.ErrArg
	}
	b, e := oracleBytes(r, a, w)
	if e != api.OK {
		return 0, e
	}
	return binary.LittleEndian.Uint64(append(b, make([]byte, 8)...)), api.OK
}

func oracleStore(r api.Region, a uint64, w int, v uint64) (api.Region, api.Errno) {
	if !oracleValid(r) {
		return api.Region{}, api.ErrBad
	}
	b := binary.LittleEndian.AppendUint64(nil, v)
	switch {
	case w == 1 && v < 256:
		return oracleWrite(r, a, b[:1])
	case w == 8:
		return oracleWrite(r, a, b)
	}
	return api.Region{}, api.ErrArg
}

func oracleResize(r api.Region, n int) (api.Region, api.Errno) {
	if !oracleValid(r) {
		return api.Region{}, api.ErrBad
	}
	if n < 0 || n > mostBytes {
		return api.Region{}, api.ErrArg
	}
	return over(r.Base, append(slices.Clone(r.Bytes), make([]byte, n)...)[:n]...), api.OK
}

func oracleFind(l []api.Region, a uint64, n int) (int, api.Errno) {
	if len(l) > mostRegions {
		return 0, api.ErrMany
	}
	if slices.ContainsFunc(l, func(r api.Region) bool { return !oracleValid(r) }) {
		return 0, api.ErrBad
	}
	for i := range l {
		for k := range l {
			if i != k && oracleOverlap(l[i], l[k]) {
				return 0, api.ErrTwice
			}
		}
	}
	if n < 1 {
		return 0, api.ErrArg
	}
	i := slices.IndexFunc(l, func(r api.Region) bool { return oracleHas(r, a, n) })
	if i < 0 {
		return 0, api.ErrNone
	}
	return i, api.OK
}

// rule gives different numbers, the same ones in each run of the tests.
func rule(seed uint64) *rand.Rand {
	return rand.New(rand.NewPCG(seed, 13))
}

func among[T any](r *rand.Rand, l ...T) T {
	return l[r.IntN(len(l))]
}

// someBytes are up to most bytes.
func someBytes(r *rand.Rand, most int) []byte {
	b := make([]byte, r.IntN(most+1))
	for i := range b {
		b[i] = byte(r.Uint32())
	}
	return b
}

// bases are some that are valid.
func bases() []uint64 {
	return []uint64{8, 16, 64, 248, 256, 65536, 16777216, 1<<32 - 8, 1 << 32, greatestBase - 8, greatestBase}
}

// otherBases are some that are not valid. Taken for fewer bits, some would be.
func otherBases() []uint64 {
	return []uint64{0, 1, 2, 4, 7, 9, 12, 15, 65537, 65540, greatestBase - 1, greatestBase - 4, greatestBase + 1, greatestBase + 4, greatestBase + 8, 2 * greatestBase, 1<<48 + 64, 1<<63 + 64, 1 << 63, math.MaxUint64 - 7, math.MaxUint64 - 63, math.MaxUint64}
}

// lengths are of all kinds: those of words, some beside the bounds, and some whose sum with an address wraps.
func lengths() []int {
	return []int{-1, 0, 1, 2, 7, 8, 9, 16, 17, 24, 255, 256, 19999, 20000, 20001, 1 << 32, 1<<32 + 8, math.MaxInt - 63, math.MaxInt, math.MinInt, math.MinInt + 8, -8}
}

// notValid are regions that are not valid, for different reasons.
func notValid() []api.Region {
	l := []api.Region{{}, zeros(64, mostBytes+1), zeros(greatestBase, mostBytes+1), zeros(0, mostBytes+1), zeros(8, 65536+16)}
	for _, base := range otherBases() {
		l = append(l, zeros(base, 0), zeros(base, 16))
	}
	return l
}

// addresses are those in and around a region, and some that are far away from it.
func addresses(r api.Region) []uint64 {
	l := []uint64{0, 1, 7, 8, 1 << 32, 1 << 63, math.MaxUint64 - 8, math.MaxUint64 - 7, math.MaxUint64 - 1, math.MaxUint64}
	near := []uint64{0, uint64(len(r.Bytes))}
	if len(r.Bytes) < 100 {
		near = nil
		for i := range len(r.Bytes) + 1 {
			near = append(near, uint64(i))
		}
	}
	for _, i := range near {
		a := r.Base + i
		l = append(l, a, a-1, a+1, a-7, a-8, a-9, a+7, a+8, a+1<<32, a-1<<32, a+1<<48, a+1<<63, -a)
	}
	return l
}

func equal(a, b api.Region) bool {
	return a.Base == b.Base && bytes.Equal(a.Bytes, b.Bytes)
}

func told(r api.Region) string {
	if len(r.Bytes) > 40 {
		return fmt.Sprintf("%d bytes at %d, %v and so on", len(r.Bytes), r.Base, r.Bytes[:24])
	}
	return fmt.Sprintf("%v at %d", r.Bytes, r.Base)
}

func toldList(l []api.Region) string {
	s := "the regions"
	for _, r := range l {
		s += fmt.Sprintf(" %d+%d", r.Base, len(r.Bytes))
	}
	return s
}

func checkNew(t *testing.T, base uint64, n int, want api.Region, wantError api.Errno) {
	t.Helper()
	if r, e := New(base, n); e != wantError || !equal(r, want) {
		t.Errorf("New of %d and %d: %s, error %d, not %s, error %d", base, n, told(r), e, told(want), wantError)
	}
}

func checkCheck(t *testing.T, r api.Region, want api.Errno) {
	t.Helper()
	if e := Check(r); e != want {
		t.Errorf("Check of %s: error %d, not %d", told(r), e, want)
	}
}

func checkHas(t *testing.T, r api.Region, a uint64, n int, want bool, wantError api.Errno) {
	t.Helper()
	if has, e := Has(r, a, n); e != wantError || has != want {
		t.Errorf("Has of %s, %d bytes at %d: %t, error %d, not %t, error %d", told(r), n, a, has, e, want, wantError)
	}
}

func checkLoad(t *testing.T, r api.Region, a uint64, w int, want uint64, wantError api.Errno) {
	t.Helper()
	if v, e := Load(r, a, w); e != wantError || v != want {
		t.Errorf("Load of %s, %d bytes at %d: %d, error %d, not %d, error %d", told(r), w, a, v, e, want, wantError)
	}
}

func checkStore(t *testing.T, r api.Region, a uint64, w int, v uint64, want api.Region, wantError api.Errno) {
	t.Helper()
	if stored, e := Store(r, a, w, v); e != wantError || !equal(stored, want) {
		t.Errorf("Store in %s, %d bytes at %d, of %d: %s, error %d, not %s, error %d", told(r), w, a, v, told(stored), e, told(want), wantError)
	}
}

func checkBytes(t *testing.T, r api.Region, a uint64, n int, want []byte, wantError api.Errno) {
	t.Helper()
	if b, e := Bytes(r, a, n); e != wantError || !bytes.Equal(b, want) {
		t.Errorf("Bytes of %s, %d at %d: %v, error %d, not %v, error %d", told(r), n, a, b, e, want, wantError)
	}
}

func checkWrite(t *testing.T, r api.Region, a uint64, b []byte, want api.Region, wantError api.Errno) {
	t.Helper()
	if written, e := Write(r, a, b); e != wantError || !equal(written, want) {
		t.Errorf("Write to %s of %d bytes at %d: %s, error %d, not %s, error %d", told(r), len(b), a, told(written), e, told(want), wantError)
	}
}

func checkResize(t *testing.T, r api.Region, n int, want api.Region, wantError api.Errno) {
	t.Helper()
	if resized, e := Resize(r, n); e != wantError || !equal(resized, want) {
		t.Errorf("Resize of %s to %d: %s, error %d, not %s, error %d", told(r), n, told(resized), e, told(want), wantError)
	}
}

func checkFind(t *testing.T, l []api.Region, a uint64, n int, want int, wantError api.Errno) {
	t.Helper()
	if i, e := Find(l, a, n); e != wantError || i != want {
		t.Errorf("Find in %s of %d bytes at %d: %d, error %d, not %d, error %d", toldList(l), n, a, i, e, want, wantError)
	}
}

// byOracle calls all functions with a region, valid or not, but for New and Find, and compares what they do with what the oracle does.
func byOracle(t *testing.T, r api.Region, a uint64, n int, v uint64, b []byte) {
	t.Helper()
	if oracleValid(r) {
		checkCheck(t, r, api.OK)
	} else {
		checkCheck(t, r, api.ErrBad)
	}
	wantBytes, e := oracleBytes(r, a, n)
	checkBytes(t, r, a, n, wantBytes, e)
	if e == api.ErrRange {
		checkHas(t, r, a, n, false, api.OK)
	} else {
		checkHas(t, r, a, n, e == api.OK, e)
	}
	for _, w := range []int{1, 8, n} {
		want, e := oracleLoad(r, a, w)
		checkLoad(t, r, a, w, want, e)
		wantStored, e := oracleStore(r, a, w, v)
		checkStore(t, r, a, w, v, wantStored, e)
	}
	want, e := oracleWrite(r, a, b)
	checkWrite(t, r, a, b, want, e)
	want, e = oracleResize(r, n)
	checkResize(t, r, n, want, e)
}

// All promises

func TestTheChaptersExamples(t *testing.T) {
	r, e := New(64, 16)
	if e != api.OK {
		t.Fatalf("error %d", e)
	}
	checkLoad(t, r, 65, 8, 0, api.OK)
	r, e = Store(r, 65, 8, 258)
	if e != api.OK {
		t.Fatalf("error %d", e)
	}
	checkLoad(t, r, 65, 1, 2, api.OK)
	checkLoad(t, r, 66, 1, 1, api.OK)
	checkBytes(t, r, 65, 2, []byte{2, 1}, api.OK)
	checkHas(t, r, 72, 8, true, api.OK)
	checkHas(t, r, 73, 8, false, api.OK)
	checkHas(t, r, 80, 0, true, api.OK)
}

// P13.1

func TestNewOfBasesAndLengths(t *testing.T) {
	for _, n := range lengths() {
		for _, base := range bases() {
			if n < 0 || n > mostBytes {
				checkNew(t, base, n, api.Region{}, api.ErrArg)
				continue
			}
			checkNew(t, base, n, zeros(base, n), api.OK)
		}
		for _, base := range otherBases() {
			checkNew(t, base, n, api.Region{}, api.ErrArg)
		}
	}
	for base := range uint64(300) {
		if base%8 == 0 && base > 0 {
			checkNew(t, base, 3, over(base, 0, 0, 0), api.OK)
		} else {
			checkNew(t, base, 3, api.Region{}, api.ErrArg)
		}
	}
}

func TestCheckFromBothSides(t *testing.T) {
	for _, base := range bases() {
		for _, n := range []int{0, 1, 7, 8, 19999, 20000} {
			checkCheck(t, zeros(base, n), api.OK)
			checkCheck(t, numbered(base, n), api.OK)
		}
		for _, n := range []int{20001, 20008, 20256, 65536, 65537, 100000} {
			checkCheck(t, zeros(base, n), api.ErrBad)
		}
		checkCheck(t, api.Region{Base: base}, api.OK)
		// What is behind the bytes is none of them.
		checkCheck(t, api.Region{Base: base, Bytes: make([]byte, 30000)[:mostBytes]}, api.OK)
	}
	for _, r := range notValid() {
		checkCheck(t, r, api.ErrBad)
	}
	for base := range uint64(300) {
		r := over(base, 1, 2)
		if base%8 == 0 && base > 0 {
			checkCheck(t, r, api.OK)
		} else {
			checkCheck(t, r, api.ErrBad)
		}
	}
}

func TestHas(t *testing.T) {
	for _, base := range bases() {
		for _, size := range []int{0, 1, 8, 17} {
			r := numbered(base, size)
			for _, n := range lengths() {
				for _, a := range addresses(r) {
					if n < 0 {
						checkHas(t, r, a, n, false, api.ErrArg)
						continue
					}
					checkHas(t, r, a, n, oracleHas(r, a, n), api.OK)
				}
			}
		}
	}
	r := zeros(64, 16)
	for _, n := range []int{0, 1, 15, 16} {
		checkHas(t, r, 64, n, true, api.OK)
		checkHas(t, r, 80-uint64(n), n, true, api.OK)
		checkHas(t, r, 63, n, false, api.OK)
		checkHas(t, r, 81-uint64(n), n, false, api.OK)
	}
	checkHas(t, r, 64, 17, false, api.OK)
	checkHas(t, r, 63, 17, false, api.OK)
	checkHas(t, zeros(64, mostBytes), 64, mostBytes, true, api.OK)
	checkHas(t, zeros(greatestBase, mostBytes), greatestBase, mostBytes, true, api.OK)
	checkHas(t, zeros(greatestBase, mostBytes), greatestBase+1, mostBytes, false, api.OK)
	checkHas(t, zeros(greatestBase, mostBytes), greatestBase+mostBytes, 0, true, api.OK)
}

// P13.1 to P13.3: a region that is not valid is told before anything else.
func TestRegionsThatAreNotValid(t *testing.T) {
	for _, r := range notValid() {
		for _, a := range []uint64{0, 8, r.Base, r.Base + 8, math.MaxUint64} {
			for _, n := range []int{-1, 0, 1, 2, 8, 20001} {
				checkHas(t, r, a, n, false, api.ErrBad)
				checkLoad(t, r, a, n, 0, api.ErrBad)
				checkStore(t, r, a, n, 0, api.Region{}, api.ErrBad)
				checkStore(t, r, a, n, 256, api.Region{}, api.ErrBad)
				checkBytes(t, r, a, n, nil, api.ErrBad)
				checkResize(t, r, n, api.Region{}, api.ErrBad)
			}
			for _, b := range [][]byte{nil, {}, {1}, {1, 2, 3}, make([]byte, 30000)} {
				checkWrite(t, r, a, b, api.Region{}, api.ErrBad)
			}
		}
	}
}

// P13.2

func TestLoadAtEachAddress(t *testing.T) {
	for _, base := range bases() {
		for _, size := range []int{0, 1, 7, 8, 9, 24, 200, mostBytes} {
			r := numbered(base, size)
			for _, a := range addresses(r) {
				for _, w := range lengths() {
					want, e := oracleLoad(r, a, w)
					checkLoad(t, r, a, w, want, e)
				}
			}
		}
	}
	r := over(64, 1, 2, 3, 4, 5, 6, 7, 8, 255)
	checkLoad(t, r, 64, 8, 578437695752307201, api.OK)
	checkLoad(t, r, 65, 8, 0xff08070605040302, api.OK)
	checkLoad(t, r, 66, 8, 0, api.ErrRange)
	checkLoad(t, r, 71, 1, 8, api.OK)
	checkLoad(t, r, 72, 1, 255, api.OK)
	checkLoad(t, r, 73, 1, 0, api.ErrRange)
	checkLoad(t, r, 63, 1, 0, api.ErrRange)
	checkLoad(t, r, 63, 8, 0, api.ErrRange)
	checkLoad(t, over(64), 64, 1, 0, api.ErrRange)
	checkLoad(t, over(64, 255, 255, 255, 255, 255, 255, 255, 255), 64, 8, math.MaxUint64, api.OK)
}

// Only 1 and 8 are widths, also where the region has not as many bytes.
func TestOtherWidths(t *testing.T) {
	r := numbered(64, 16)
	for w := -20; w < 300; w++ {
		if w == 1 || w == 8 {
			continue
		}
		for _, a := range []uint64{64, 80, 0, math.MaxUint64} {
			checkLoad(t, r, a, w, 0, api.ErrArg)
			checkStore(t, r, a, w, 0, api.Region{}, api.ErrArg)
			checkStore(t, r, a, w, 256, api.Region{}, api.ErrArg)
		}
	}
	for _, w := range []int{1<<32 + 1, 1<<32 + 8, 257, 264, 65537, 65544, math.MinInt + 1, math.MinInt + 8, -1, -8} {
		checkLoad(t, r, 64, w, 0, api.ErrArg)
		checkStore(t, r, 64, w, 1, api.Region{}, api.ErrArg)
	}
}

func TestStoreAtEachAddress(t *testing.T) {
	values := []uint64{0, 1, 255, 256, 257, 65536 + 7, 0x0102030405060708, 1 << 63, math.MaxUint64 - 1, math.MaxUint64}
	for _, base := range bases() {
		for _, size := range []int{0, 1, 7, 8, 9, 24} {
			r := numbered(base, size)
			for _, a := range addresses(r) {
				for _, w := range []int{0, 1, 2, 8} {
					for _, v := range values {
						want, e := oracleStore(r, a, w, v)
						checkStore(t, r, a, w, v, want, e)
					}
				}
			}
		}
	}
	r := zeros(64, 10)
	checkStore(t, r, 65, 8, 0x0102030405060708, over(64, 0, 8, 7, 6, 5, 4, 3, 2, 1, 0), api.OK)
	checkStore(t, r, 66, 8, math.MaxUint64, over(64, 0, 0, 255, 255, 255, 255, 255, 255, 255, 255), api.OK)
	checkStore(t, r, 67, 8, 0, api.Region{}, api.ErrRange)
	checkStore(t, r, 73, 1, 255, over(64, 0, 0, 0, 0, 0, 0, 0, 0, 0, 255), api.OK)
	checkStore(t, r, 74, 1, 255, api.Region{}, api.ErrRange)
}

// A value that is too great for a byte is told before an address that is not there.
func TestStoreOfAByteThatIsTooGreat(t *testing.T) {
	r := numbered(64, 16)
	for _, a := range []uint64{0, 63, 64, 79, 80, math.MaxUint64} {
		for _, v := range []uint64{256, 257, 512, 1 << 32, 1 << 63, math.MaxUint64} {
			checkStore(t, r, a, 1, v, api.Region{}, api.ErrArg)
		}
		if a < 64 || a > 79 {
			checkStore(t, r, a, 1, 255, api.Region{}, api.ErrRange)
			checkStore(t, r, a, 8, 256, api.Region{}, api.ErrRange)
		}
	}
	for v := range uint64(256) {
		checkStore(t, over(64, 7, 7, 7), 65, 1, v, over(64, 7, byte(v), 7), api.OK)
	}
}

// P13.3

func TestBytesAtEachAddress(t *testing.T) {
	for _, base := range bases() {
		for _, size := range []int{0, 1, 8, 17, 256, mostBytes} {
			r := numbered(base, size)
			for _, a := range addresses(r) {
				for _, n := range append(lengths(), size-1, size, size+1) {
					want, e := oracleBytes(r, a, n)
					checkBytes(t, r, a, n, want, e)
				}
			}
		}
	}
	r := over(64, 1, 2, 3)
	checkBytes(t, r, 64, 3, []byte{1, 2, 3}, api.OK)
	checkBytes(t, r, 65, 1, []byte{2}, api.OK)
	checkBytes(t, r, 67, 0, nil, api.OK)
	checkBytes(t, r, 68, 0, nil, api.ErrRange)
	checkBytes(t, r, 63, 0, nil, api.ErrRange)
	checkBytes(t, r, 0, -1, nil, api.ErrArg)
	// What is behind the bytes is none of them.
	roomy := api.Region{Base: 64, Bytes: []byte{1, 2, 3, 4}[:3]}
	checkBytes(t, roomy, 64, 4, nil, api.ErrRange)
	checkLoad(t, roomy, 67, 1, 0, api.ErrRange)
}

func TestWriteAtEachAddress(t *testing.T) {
	for _, base := range bases() {
		for _, size := range []int{0, 1, 8, 17} {
			r := numbered(base, size)
			for _, a := range addresses(r) {
				for n := range size + 3 {
					b := bytes.Repeat([]byte{200}, n)
					want, e := oracleWrite(r, a, b)
					checkWrite(t, r, a, b, want, e)
				}
			}
		}
	}
	r := over(64, 1, 2, 3)
	checkWrite(t, r, 65, []byte{8, 9}, over(64, 1, 8, 9), api.OK)
	checkWrite(t, r, 66, []byte{8, 9}, api.Region{}, api.ErrRange)
	checkWrite(t, r, 67, nil, r, api.OK)
	checkWrite(t, r, 68, nil, api.Region{}, api.ErrRange)
	checkWrite(t, r, 63, nil, api.Region{}, api.ErrRange)
	most := numbered(greatestBase, mostBytes)
	checkWrite(t, zeros(greatestBase, mostBytes), greatestBase, most.Bytes, most, api.OK)
	checkWrite(t, most, greatestBase, make([]byte, mostBytes+1), api.Region{}, api.ErrRange)
	checkWrite(t, most, greatestBase+1, most.Bytes, api.Region{}, api.ErrRange)
	// Bytes of the region itself are written as they were.
	checkWrite(t, r, 65, r.Bytes[:2], over(64, 1, 1, 2), api.OK)
	checkWrite(t, r, 64, r.Bytes[1:], over(64, 2, 3, 3), api.OK)
}

func TestResize(t *testing.T) {
	for _, base := range bases() {
		for _, size := range []int{0, 1, 8, 17, 19999, mostBytes} {
			r := numbered(base, size)
			for _, n := range append(lengths(), size-1, size, size+1) {
				want, e := oracleResize(r, n)
				checkResize(t, r, n, want, e)
			}
		}
	}
	r := over(64, 1, 2, 3)
	checkResize(t, r, 0, over(64), api.OK)
	checkResize(t, r, 2, over(64, 1, 2), api.OK)
	checkResize(t, r, 3, r, api.OK)
	checkResize(t, r, 5, over(64, 1, 2, 3, 0, 0), api.OK)
	checkResize(t, r, -1, api.Region{}, api.ErrArg)
	checkResize(t, r, mostBytes+1, api.Region{}, api.ErrArg)
}

// What lies behind the bytes of a region, in their memory, does not become bytes of a greater one.
func TestResizeBringsZerosOnly(t *testing.T) {
	r := numbered(64, 40)
	r.Bytes = r.Bytes[:10]
	for n := range 41 {
		want := numbered(64, 40)
		for i := 10; i < 40; i++ {
			want.Bytes[i] = 0
		}
		want.Bytes = want.Bytes[:n]
		checkResize(t, r, n, want, api.OK)
	}
	less, _ := Resize(numbered(64, 40), 3)
	checkResize(t, less, 6, over(64, 1, 2, 3, 0, 0, 0), api.OK)
}

// P13.4

func TestFindAtEachAddress(t *testing.T) {
	// Some touch, one is within a gap alone, some have no bytes, and they are not in the order of their addresses.
	l := []api.Region{numbered(128, 16), zeros(64, 16), zeros(144, 8), zeros(80, 0), numbered(80, 5), zeros(200, 0), zeros(8, 1)}
	for a := range uint64(260) {
		for n := -2; n < 40; n++ {
			want, e := oracleFind(l, a, n)
			checkFind(t, l, a, n, want, e)
		}
	}
	checkFind(t, l, 128, 16, 0, api.OK)
	checkFind(t, l, 79, 1, 1, api.OK)
	checkFind(t, l, 80, 1, 4, api.OK)
	checkFind(t, l, 144, 8, 2, api.OK)
	checkFind(t, l, 8, 1, 6, api.OK)
	// Bytes in two regions, one behind the other, are in none of both.
	checkFind(t, l, 143, 2, 0, api.ErrNone)
	checkFind(t, l, 79, 2, 0, api.ErrNone)
	checkFind(t, l, 128, 24, 0, api.ErrNone)
	checkFind(t, l, 200, 1, 0, api.ErrNone)
	for _, a := range []uint64{64, 128, math.MaxUint64, math.MaxUint64 - 7, 1<<63 + 64, 1<<32 + 64} {
		for _, n := range []int{17, 1 << 32, math.MaxInt, math.MaxInt - 63} {
			checkFind(t, l, a, n, 0, api.ErrNone)
		}
		for _, n := range []int{0, -1, -16, math.MinInt, math.MinInt + 1} {
			checkFind(t, l, a, n, 0, api.ErrArg)
		}
	}
}

func TestFindWithoutRegions(t *testing.T) {
	for _, l := range [][]api.Region{nil, {}, make([]api.Region, 0, 9)} {
		for _, a := range []uint64{0, 8, 64, math.MaxUint64} {
			checkFind(t, l, a, 1, 0, api.ErrNone)
			checkFind(t, l, a, math.MaxInt, 0, api.ErrNone)
			checkFind(t, l, a, 0, 0, api.ErrArg)
			checkFind(t, l, a, -1, 0, api.ErrArg)
		}
	}
}

// row are regions that touch, as many as are asked for.
func row(n int) []api.Region {
	var l []api.Region
	for i := range n {
		l = append(l, numbered(64+16*uint64(i), 16))
	}
	return l
}

func TestFindInManyRegions(t *testing.T) {
	for n := 1; n <= mostRegions; n++ {
		for i := range n {
			checkFind(t, row(n), 64+16*uint64(i), 16, i, api.OK)
			checkFind(t, row(n), 79+16*uint64(i), 1, i, api.OK)
		}
		checkFind(t, row(n), 64+16*uint64(n), 1, 0, api.ErrNone)
	}
	for _, n := range []int{18, 19, 256 + 3, 300} {
		l := row(n)
		checkFind(t, l, 64, 1, 0, api.ErrMany)
		checkFind(t, l, 64, 0, 0, api.ErrMany)
		l[0].Base = 0
		checkFind(t, l, 64, 1, 0, api.ErrMany)
		checkFind(t, make([]api.Region, n), 64, 0, 0, api.ErrMany)
		checkFind(t, slices.Repeat(row(1), n), 64, 1, 0, api.ErrMany)
	}
	// What is behind the regions of a list is none of them.
	checkFind(t, append(row(17), row(5)...)[:17], 64, 1, 0, api.OK)
	checkFind(t, append(row(2), api.Region{}, zeros(800, 9))[:2], 800, 1, 0, api.ErrNone)
}

// A region that is not valid is told at each place, before two that overlap.
func TestFindWithARegionThatIsNotValid(t *testing.T) {
	for n := 1; n <= mostRegions; n++ {
		for i := range n {
			for _, bad := range []api.Region{{}, over(0, 1), over(60, 1, 2), over(8, make([]byte, 20001)...), zeros(greatestBase+8, 1)} {
				l := row(n)
				l[i] = bad
				checkFind(t, l, 64, 1, 0, api.ErrBad)
				checkFind(t, l, 64, 0, 0, api.ErrBad)
				checkFind(t, l, 0, -1, 0, api.ErrBad)
				if n > 2 {
					l[(i+1)%n] = l[(i+2)%n]
					checkFind(t, l, 64, 1, 0, api.ErrBad)
				}
			}
		}
	}
}

// Two that overlap are told at each pair of places, before a number of bytes that is not one.
func TestFindWithRegionsThatOverlap(t *testing.T) {
	for n := 2; n <= mostRegions; n++ {
		for i := range n {
			for k := range n {
				if i == k {
					continue
				}
				l := row(n)
				l[i] = zeros(l[k].Base+8, 8)
				checkFind(t, l, 64, 1, 0, api.ErrTwice)
				checkFind(t, l, 64, 0, 0, api.ErrTwice)
				checkFind(t, l, 0, -1, 0, api.ErrTwice)
				// Without bytes it overlaps nothing, wherever it is.
				l[i] = zeros(l[k].Base+8, 0)
				checkFind(t, l, l[k].Base, 16, k, api.OK)
				checkFind(t, l, l[k].Base, 0, 0, api.ErrArg)
			}
		}
	}
}

func TestOverlapFromBothSides(t *testing.T) {
	other := numbered(128, 20)
	met := map[api.Errno]int{}
	for _, base := range []uint64{8, 96, 104, 112, 120, 128, 136, 144, 152, 160} {
		for size := range 70 {
			r := numbered(base, size)
			for _, l := range [][]api.Region{{other, r}, {r, other}} {
				want, e := oracleFind(l, 120, 1)
				met[e]++
				checkFind(t, l, 120, 1, want, e)
			}
		}
	}
	if met[api.ErrTwice] < 400 || met[api.OK] < 20 || met[api.ErrNone] < 100 {
		t.Errorf("only %v", met)
	}
	checkFind(t, []api.Region{zeros(64, 9), zeros(72, 8)}, 64, 9, 0, api.ErrTwice)
	checkFind(t, []api.Region{zeros(64, 8), zeros(72, 8)}, 64, 8, 0, api.OK)
	checkFind(t, []api.Region{zeros(64, 0), zeros(64, 0)}, 64, 1, 0, api.ErrNone)
	checkFind(t, []api.Region{zeros(64, 0), zeros(64, 8)}, 64, 8, 1, api.OK)
	checkFind(t, []api.Region{zeros(64, 8), zeros(64, 8)}, 64, 8, 0, api.ErrTwice)
	checkFind(t, []api.Region{zeros(greatestBase, mostBytes), zeros(greatestBase-8, 8)}, greatestBase, mostBytes, 0, api.OK)
	checkFind(t, []api.Region{zeros(greatestBase, mostBytes), zeros(greatestBase-8, 9)}, greatestBase, mostBytes, 0, api.ErrTwice)
}

func TestFindInSomeLists(t *testing.T) {
	r := rule(1)
	met := map[api.Errno]int{}
	for range 40000 {
		var l []api.Region
		for range r.IntN(5) {
			base := 8 * uint64(1+r.IntN(20))
			if r.IntN(20) == 0 {
				base = uint64(r.IntN(160))
			}
			l = append(l, zeros(base, among(r, 0, 1, 8, r.IntN(30))))
		}
		a, n := uint64(r.IntN(180)), among(r, 0, 1, 1, 2, 8)
		want, e := oracleFind(l, a, n)
		met[e]++
		checkFind(t, l, a, n, want, e)
	}
	for _, e := range []api.Errno{api.OK, api.ErrBad, api.ErrTwice, api.ErrArg, api.ErrNone} {
		if met[e] < 1000 {
			t.Errorf("only %d had the error %d", met[e], e)
		}
	}
}

// P13.5

// A region is a map from addresses to bytes: what was stored last is there.
func TestWhatWasStoredLastIsLoaded(t *testing.T) {
	r := rule(2)
	for _, base := range bases() {
		m, e := New(base, 40)
		if e != api.OK {
			t.Fatalf("error %d", e)
		}
		memory := map[uint64]byte{}
		for range 400 {
			w, v := 8, r.Uint64()
			if r.IntN(2) == 0 {
				w, v = 1, v&255
			}
			a := base + uint64(r.IntN(41-w))
			m, e = Store(m, a, w, v)
			if e != api.OK {
				t.Fatalf("error %d", e)
			}
			for i := range w {
				memory[a+uint64(i)] = byte(v >> (8 * i))
			}
			checkLoad(t, m, a, w, v, api.OK)
			checkMemory(t, m, memory)
		}
	}
}

// checkMemory checks the words of both widths of a region, at each address.
func checkMemory(t *testing.T, m api.Region, memory map[uint64]byte) {
	t.Helper()
	for i := range uint64(len(m.Bytes)) {
		a := m.Base + i
		checkLoad(t, m, a, 1, uint64(memory[a]), api.OK)
		if int(i)+8 > len(m.Bytes) {
			checkLoad(t, m, a, 8, 0, api.ErrRange)
			continue
		}
		var want uint64
		for k := uint64(8); k > 0; k-- {
			want = want*256 + uint64(memory[a+k-1])
		}
		checkLoad(t, m, a, 8, want, api.OK)
	}
}

func TestStoresLeaveOtherWords(t *testing.T) {
	r := numbered(4096, 33)
	for _, w := range []int{1, 8} {
		for a := r.Base; a+uint64(w) <= r.Base+33; a++ {
			stored, e := Store(r, a, w, 0xa5)
			if e != api.OK {
				t.Fatalf("error %d", e)
			}
			for _, width := range []int{1, 8} {
				for at := r.Base; at+uint64(width) <= r.Base+33; at++ {
					if at < a+uint64(w) && a < at+uint64(width) {
						continue
					}
					want, _ := oracleLoad(r, at, width)
					checkLoad(t, stored, at, width, want, api.OK)
				}
			}
			checkLoad(t, stored, a, w, 0xa5, api.OK)
		}
	}
}

func TestAWordIsItsEightBytes(t *testing.T) {
	r := numbered(65536, 30)
	for a := uint64(65536); a <= 65536+22; a++ {
		for _, v := range []uint64{0, 1, 258, 0x0102030405060708, 1 << 63, math.MaxUint64} {
			whole, e := Store(r, a, 8, v)
			if e != api.OK {
				t.Fatalf("error %d", e)
			}
			apart := r
			for i := range 8 {
				apart, e = Store(apart, a+uint64(i), 1, v>>(8*i)%256)
				if e != api.OK {
					t.Fatalf("error %d", e)
				}
				checkLoad(t, whole, a+uint64(i), 1, v>>(8*i)%256, api.OK)
			}
			if !equal(whole, apart) {
				t.Errorf("%s is not %s", told(whole), told(apart))
			}
			checkWrite(t, r, a, binary.LittleEndian.AppendUint64(nil, v), whole, api.OK)
		}
	}
}

// Addresses and numbers whose sums would wrap to such as the region has.
func TestNoSumWraps(t *testing.T) {
	for _, base := range bases() {
		r := numbered(base, 64)
		for i := range 80 {
			a := base + uint64(i)
			for _, far := range []uint64{1 << 32, 1 << 33, 1 << 41, 1 << 56, 1 << 62, 1 << 63, 1<<63 + 1<<32} {
				byOracle(t, r, a+far, 8, 1, []byte{1, 2})
				byOracle(t, r, a-far, 8, 1, []byte{1, 2})
			}
			// The address and n make the address of a byte of the region, and nothing but a wrap does.
			for _, n := range []int{1, 8, 64, 20000, math.MaxInt} {
				byOracle(t, r, a-uint64(n), n, 1, []byte{1})
			}
			byOracle(t, r, a, math.MaxInt-i, 1, nil)
			byOracle(t, r, -uint64(i), i, 1, make([]byte, i))
			byOracle(t, r, -uint64(i), 8, math.MaxUint64, nil)
		}
	}
}

// R2: arguments are only read, and results share no memory.

func TestArgumentsAreOnlyRead(t *testing.T) {
	r := numbered(64, 50)
	all := r.Bytes
	r.Bytes = r.Bytes[:40]
	b := []byte{201, 202, 203, 204}
	l := []api.Region{r, {Base: 128, Bytes: all[40:45]}, {Base: 256, Bytes: all[45:]}, zeros(8, 3)}
	keptBytes, keptB, keptList := slices.Clone(all), slices.Clone(b), slices.Clone(l)
	for range 2 {
		for _, a := range []uint64{63, 64, 70, 96, 101, 104, 130, math.MaxUint64} {
			for _, n := range []int{-1, 0, 1, 4, 8, 40, 41, 50} {
				byOracle(t, r, a, n, 0xffff, b[:2])
				byOracle(t, r, a, n, 7, b[:0])
				want, e := oracleFind(l[:3], a, n)
				checkFind(t, l[:3], a, n, want, e)
				checkFind(t, append(l[:3:3], r), a, n, 0, api.ErrTwice)
			}
		}
	}
	if !bytes.Equal(all, keptBytes) || !bytes.Equal(b, keptB) || !slices.EqualFunc(l, keptList, equal) {
		t.Errorf("the arguments have become %v, %v and %s", all, b, toldList(l))
	}
}

// span is memory that a list has, all of its room too. The list is kept, so that no later one gets the same memory.
type span struct {
	from, end uintptr
	list      []byte
}

func spanOf(l []byte) span {
	from := reflect.ValueOf(l).Pointer()
	return span{from, from + uintptr(cap(l)), l}
}

func TestResultsShareNoMemory(t *testing.T) {
	r := numbered(64, 50)
	r.Bytes = r.Bytes[:40]
	b := []byte{201, 202, 203, 204}[:3]
	all := []span{spanOf(r.Bytes), spanOf(b)}
	for range 2 {
		fresh, _ := New(64, 40)
		stored, _ := Store(r, 64, 8, 7)
		storedByte, _ := Store(r, 64, 1, 7)
		// What they would not change is new memory too.
		same, _ := Store(r, 64, 1, 1)
		part, _ := Bytes(r, 70, 5)
		whole, _ := Bytes(r, 64, 40)
		written, _ := Write(r, 66, b)
		replaced, _ := Write(r, 64, r.Bytes)
		unwritten, _ := Write(r, 66, nil)
		less, _ := Resize(r, 20)
		more, _ := Resize(r, 45)
		kept, _ := Resize(r, 40)
		for _, l := range [][]byte{fresh.Bytes, stored.Bytes, storedByte.Bytes, same.Bytes, part, whole, written.Bytes, replaced.Bytes, unwritten.Bytes, less.Bytes, more.Bytes, kept.Bytes} {
			if len(l) == 0 {
				t.Fatal("a result has no bytes")
			}
			all = append(all, spanOf(l))
		}
	}
	for i, x := range all {
		for _, y := range all[:i] {
			if x.from < y.end && y.from < x.end {
				t.Errorf("%x to %x and %x to %x are the same memory", x.from, x.end, y.from, y.end)
			}
		}
	}
}

// A region is a value: each one that was made of it has its own bytes.
func TestRegionsAreValues(t *testing.T) {
	given := numbered(64, 16)
	second, _ := Store(given, 64, 8, 0)
	third, _ := Write(second, 64, []byte{9, 9})
	fourth, _ := Resize(third, 8)
	third.Bytes[15] = 77
	fourth.Bytes[7] = 88
	given.Bytes[8] = 99
	if want := over(64, 0, 0, 0, 0, 0, 0, 0, 0, 9, 10, 11, 12, 13, 14, 15, 16); !equal(second, want) {
		t.Errorf("%s is not %s", told(second), told(want))
	}
	if want := over(64, 9, 9, 0, 0, 0, 0, 0, 0, 9, 10, 11, 12, 13, 14, 15, 77); !equal(third, want) {
		t.Errorf("%s is not %s", told(third), told(want))
	}
	if want := over(64, 9, 9, 0, 0, 0, 0, 0, 88); !equal(fourth, want) {
		t.Errorf("%s is not %s", told(fourth), told(want))
	}
}

// R3
func TestEmptyAndNilAreTheSame(t *testing.T) {
	for _, b := range [][]byte{nil, {}, make([]byte, 0, 9)} {
		r := api.Region{Base: 64, Bytes: b}
		checkCheck(t, r, api.OK)
		checkHas(t, r, 64, 0, true, api.OK)
		checkHas(t, r, 64, 1, false, api.OK)
		checkBytes(t, r, 64, 0, nil, api.OK)
		checkWrite(t, r, 64, nil, r, api.OK)
		checkWrite(t, r, 64, []byte{}, r, api.OK)
		checkWrite(t, r, 64, []byte{1}, api.Region{}, api.ErrRange)
		checkResize(t, r, 0, r, api.OK)
		checkResize(t, r, 2, over(64, 0, 0), api.OK)
	}
}

// R7

func TestAnyArguments(t *testing.T) {
	r := rule(3)
	address := func() uint64 {
		return among(r, 0, 1, 8, 64, 128, greatestBase, greatestBase+8, uint64(r.IntN(200)), uint64(r.IntN(200))*8, r.Uint64(), r.Uint64()/8*8, -uint64(r.IntN(99)))
	}
	length := func() int {
		return among(r, -1, 0, 1, 8, 19999, 20000, 20001, r.IntN(40), int(r.Uint64()), math.MinInt, math.MaxInt)
	}
	some := func() api.Region {
		m := over(address(), someBytes(r, 60)...)
		if r.IntN(40) == 0 {
			m.Bytes = make([]byte, mostBytes+r.IntN(3)-1)
		}
		return m
	}
	for range 20000 {
		m := some()
		a := among(r, address(), m.Base+uint64(r.IntN(80))-8)
		byOracle(t, m, a, length(), among(r, r.Uint64(), uint64(r.IntN(300))), someBytes(r, 30))
		base, n := address(), length()
		if oracleBase(base) && n >= 0 && n <= mostBytes {
			checkNew(t, base, n, zeros(base, n), api.OK)
		} else {
			checkNew(t, base, n, api.Region{}, api.ErrArg)
		}
		var l []api.Region
		for range among(r, 1, 2, 3, 18) {
			l = append(l, some())
		}
		want, e := oracleFind(l, a, n)
		checkFind(t, l, a, n, want, e)
	}
}
