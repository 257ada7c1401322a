package script

import (
	"bytes"
	"encoding/binary"
	"fmt"
	"math"
	"math/rand/v2"
	"reflect"
	"slices"
	"testing"

	"wreckage/api"
)

func limits(steps, stack, heap, routines int) api.Limits {
	return api.Limits{Steps: steps, Stack: stack, Heap: heap, Routines: routines}
}

func script(l api.Limits, picks ...int) api.Script {
	return api.Script{Picks: picks, Limits: l}
}

// example is the chapter's: a script and its bytes.
func example() (api.Script, []byte) {
	return script(limits(9, 128, 0, 1), 0, 300), []byte{9, 128, 1, 0, 1, 2, 0, 172, 2}
}

// The oracle says what the chapter says, in other ways than the program.

func within(n, from, to int) bool {
	return min(max(n, from), to) == n
}

func oracleValid(s api.Script) bool {
	for i, n := range s.Picks {
		if i == 2000 || !within(n, 0, 65535) {
			return false
		}
	}
	l := s.Limits
	return within(l.Steps, 1, 5000) && within(l.Stack, 0, 4096) && within(l.Heap, 0, 16384) && within(l.Routines, 1, 16)
}

// oracleEncode are the bytes of any script without negative numbers, put down by the library.
func oracleEncode(s api.Script) []byte {
	l := []int{s.Limits.Steps, s.Limits.Stack, s.Limits.Heap, s.Limits.Routines, len(s.Picks)}
	var b []byte
	for _, n := range append(l, s.Picks...) {
		b = binary.AppendUvarint(b, uint64(n))
	}
	return b
}

// oracleDecode reads all bytes as numbers, and looks at what they are afterwards. A script that is written again has other bytes
// if one of its numbers was not minimal.
func oracleDecode(b []byte) (api.Script, api.Errno) {
	if len(b) >= 6101 {
		return api.Script{}, api.ErrMany
	}
	var l []int
	for rest := b; len(rest) > 0; {
		n, size := binary.Uvarint(rest)
		if size <= 0 || n > 1<<20 {
			return api.Script{}, api.ErrForm
		}
		l, rest = append(l, int(n)), rest[size:]
	}
	if len(l) < 5 || len(l)-5 != l[4] {
		return api.Script{}, api.ErrForm
	}
	s := script(limits(l[0], l[1], l[2], l[3]), l[5:]...)
	if !oracleValid(s) || !bytes.Equal(oracleEncode(s), b) {
		return api.Script{}, api.ErrForm
	}
	return s, api.OK
}

// oraclePick goes round the goroutines that are ready.
func oraclePick(pick, ready int) int {
	index := 0
	for range pick {
		index++
		if index == ready {
			index = 0
		}
	}
	return index
}

// rule gives different numbers, the same ones in each run of the tests.
func rule(seed uint64) *rand.Rand {
	return rand.New(rand.NewPCG(seed, 11))
}

func among[T any](r *rand.Rand, l ...T) T {
	return l[r.IntN(len(l))]
}

// somePick is often one beside another number of bytes.
func somePick(r *rand.Rand) int {
	return among(r, 0, 1, 127, 128, 300, 16383, 16384, 65534, 65535, r.IntN(20), r.IntN(65536))
}

// someScript is valid, and has up to most picks.
func someScript(r *rand.Rand, most int) api.Script {
	s := script(limits(
		among(r, 1, 2, 127, 128, 4999, 5000, 1+r.IntN(5000)),
		among(r, 0, 1, 127, 128, 4095, 4096, r.IntN(4097)),
		among(r, 0, 1, 127, 128, 16383, 16384, r.IntN(16385)),
		1+r.IntN(16)))
	for range r.IntN(most + 1) {
		s.Picks = append(s.Picks, somePick(r))
	}
	return s
}

// longest is the valid script with the most bytes.
func longest() api.Script {
	return script(limits(5000, 4096, 16384, 16), slices.Repeat([]int{65535}, 2000)...)
}

// roomy is the script in slices that have more behind them.
func roomy(s api.Script) api.Script {
	s.Picks = append(slices.Clone(s.Picks), 77, 88, 99)[:len(s.Picks)]
	return s
}

// edgesOf are numbers from both sides of from and to, and some far away.
func edgesOf(from, to int) []int {
	return []int{from - 1, from, from + 1, to - 1, to, to + 1, -from, -to, -1, to + 1<<8, to + 1<<16, from + 1<<16, from + 1<<32, to + 1<<32, math.MinInt, math.MinInt + from, math.MaxInt}
}

func equal(a, b api.Script) bool {
	return slices.Equal(a.Picks, b.Picks) && a.Limits == b.Limits
}

// told is what is told of things that may be many.
func told[E any](l []E) string {
	if len(l) > 20 {
		return fmt.Sprintf("%d, %v and so on to %v", len(l), l[:12], l[len(l)-3:])
	}
	return fmt.Sprint(l)
}

func toldScript(s api.Script) string {
	return fmt.Sprintf("%+v with %s", s.Limits, told(s.Picks))
}

func checkCheck(t *testing.T, s api.Script, want api.Errno) {
	t.Helper()
	if e := Check(s); e != want {
		t.Errorf("Check of %s: error %d, not %d", toldScript(s), e, want)
	}
}

func checkEncode(t *testing.T, s api.Script, want ...byte) {
	t.Helper()
	if b, e := Encode(s); e != api.OK || !bytes.Equal(b, want) {
		t.Errorf("Encode of %s: %s, error %d, not %s", toldScript(s), told(b), e, told(want))
	}
}

func checkDecode(t *testing.T, b []byte, want api.Script) {
	t.Helper()
	if s, e := Decode(b); e != api.OK || !equal(s, want) {
		t.Errorf("Decode of %s: %s, error %d, not %s", told(b), toldScript(s), e, toldScript(want))
	}
}

func checkDecodeError(t *testing.T, b []byte, want api.Errno) {
	t.Helper()
	if s, e := Decode(b); e != want || !equal(s, api.Script{}) {
		t.Errorf("Decode of %s: %s, error %d, not %d", told(b), toldScript(s), e, want)
	}
}

func checkCut(t *testing.T, s api.Script, n int, want api.Script) {
	t.Helper()
	if c, e := Cut(s, n); e != api.OK || !equal(c, want) {
		t.Errorf("Cut of %s to %d: %s, error %d, not %s", toldScript(s), n, toldScript(c), e, toldScript(want))
	}
}

func checkCutError(t *testing.T, s api.Script, n int, want api.Errno) {
	t.Helper()
	if c, e := Cut(s, n); e != want || !equal(c, api.Script{}) {
		t.Errorf("Cut of %s to %d: %s, error %d, not %d", toldScript(s), n, toldScript(c), e, want)
	}
}

func checkPick(t *testing.T, pick, ready, want int) {
	t.Helper()
	if i, e := Pick(pick, ready); e != api.OK || i != want {
		t.Errorf("Pick of %d among %d: %d, error %d, not %d", pick, ready, i, e, want)
	}
}

func checkPickError(t *testing.T, pick, ready int, want api.Errno) {
	t.Helper()
	if i, e := Pick(pick, ready); e != want || i != 0 {
		t.Errorf("Pick of %d among %d: %d, error %d, not %d", pick, ready, i, e, want)
	}
}

// checkValid calls all functions with a valid script, and compares what they give with the oracle.
func checkValid(t *testing.T, s api.Script) {
	t.Helper()
	checkCheck(t, s, api.OK)
	b := oracleEncode(s)
	checkEncode(t, s, b...)
	checkDecode(t, b, s)
	size := len(s.Picks)
	for _, n := range []int{0, size / 2, max(size-1, 0), size} {
		checkCut(t, s, n, script(s.Limits, s.Picks[:n]...))
	}
	for _, n := range []int{-1, size + 1, size + 1<<32, math.MinInt, math.MaxInt} {
		checkCutError(t, s, n, api.ErrArg)
	}
}

// checkNotValid calls all functions that take a script with one that is not valid, whatever else is wrong.
func checkNotValid(t *testing.T, s api.Script) {
	t.Helper()
	checkCheck(t, s, api.ErrBad)
	if b, e := Encode(s); e != api.ErrBad || len(b) != 0 {
		t.Errorf("Encode of %s: %s, error %d", toldScript(s), told(b), e)
	}
	for _, n := range []int{0, 1, len(s.Picks), len(s.Picks) + 1, -1, math.MinInt, math.MaxInt} {
		checkCutError(t, s, n, api.ErrBad)
	}
}

// checkAny calls all functions with a script, valid or not.
func checkAny(t *testing.T, s api.Script) {
	t.Helper()
	if oracleValid(s) {
		checkValid(t, s)
		return
	}
	checkNotValid(t, s)
}

// All promises

func TestTheChaptersExamples(t *testing.T) {
	s, b := example()
	checkCheck(t, s, api.OK)
	checkEncode(t, s, b...)
	checkDecode(t, b, s)
	checkCut(t, s, 1, script(s.Limits, 0))
	checkPick(t, 7, 3, 1)
}

// P11.1

func TestLimitsFromBothSides(t *testing.T) {
	for _, picks := range [][]int{nil, {}, {0, 300}} {
		for _, n := range edgesOf(1, 5000) {
			checkAny(t, script(limits(n, 128, 64, 4), picks...))
		}
		for _, n := range edgesOf(0, 4096) {
			checkAny(t, script(limits(9, n, 64, 4), picks...))
		}
		for _, n := range edgesOf(0, 16384) {
			checkAny(t, script(limits(9, 128, n, 4), picks...))
		}
		for _, n := range edgesOf(1, 16) {
			checkAny(t, script(limits(9, 128, 64, n), picks...))
		}
	}
}

func TestTheLeastAndTheMostAreValid(t *testing.T) {
	for _, l := range []api.Limits{limits(1, 0, 0, 1), limits(5000, 4096, 16384, 16), limits(1, 4096, 0, 16), limits(5000, 0, 16384, 1)} {
		checkValid(t, script(l))
		checkValid(t, script(l, 0))
		checkValid(t, script(l, 65535))
	}
	// Each limit has bounds of its own.
	for _, l := range []api.Limits{{}, limits(0, 0, 0, 1), limits(1, 0, 0, 0), limits(5001, 0, 0, 1), limits(1, 4097, 0, 1), limits(1, 0, 16385, 1), limits(1, 0, 0, 17), limits(-1, -1, -1, -1)} {
		checkNotValid(t, script(l))
		checkNotValid(t, script(l, 1, 2, 3))
	}
}

func TestPicksFromBothSides(t *testing.T) {
	l := limits(9, 128, 64, 4)
	for _, n := range edgesOf(0, 65535) {
		checkAny(t, script(l, n))
		checkAny(t, script(l, 1, n))
		checkAny(t, script(l, n, 1))
		checkAny(t, script(l, 65535, n, 0))
	}
}

func TestTheNumberOfPicks(t *testing.T) {
	l := limits(9, 128, 64, 4)
	for _, n := range []int{1, 127, 128, 1999, 2000} {
		checkValid(t, script(l, make([]int, n)...))
		checkValid(t, script(l, slices.Repeat([]int{65535}, n)...))
	}
	for _, n := range []int{2001, 2002, 2256, 65536, 65537, 1000000} {
		checkNotValid(t, script(l, make([]int, n)...))
	}
	// What is behind the picks is none of them.
	checkValid(t, script(l, make([]int, 5000)[:2000]...))
	checkValid(t, script(l, []int{1, 2, -1, 65536}[:2]...))
}

// Each pick is checked, also the last ones of many.
func TestAPickThatIsNotValidAtEachPlace(t *testing.T) {
	s := longest()
	for i := range s.Picks {
		for _, n := range []int{-1, 65536} {
			s.Picks[i] = n
			checkCheck(t, s, api.ErrBad)
		}
		s.Picks[i] = 65535
	}
	checkCheck(t, s, api.OK)
}

func TestCutOfEachLength(t *testing.T) {
	s := someScript(rule(1), 0)
	for i := range 300 {
		s.Picks = append(s.Picks, i*7)
	}
	for n := range 301 {
		checkCut(t, s, n, script(s.Limits, s.Picks[:n]...))
	}
	for n := 301; n < 600; n++ {
		checkCutError(t, s, n, api.ErrArg)
		checkCutError(t, s, 300-n, api.ErrArg)
	}
	checkCut(t, longest(), 2000, longest())
	checkCutError(t, longest(), 2001, api.ErrArg)
	checkCut(t, script(s.Limits), 0, script(s.Limits))
	checkCutError(t, script(s.Limits), 1, api.ErrArg)
}

// P11.2

func TestEncode(t *testing.T) {
	checkEncode(t, script(limits(1, 0, 0, 1)), 1, 0, 0, 1, 0)
	checkEncode(t, script(limits(127, 127, 127, 16), 127), 127, 127, 127, 16, 1, 127)
	checkEncode(t, script(limits(128, 129, 130, 2), 128, 3), 128, 1, 129, 1, 130, 1, 2, 2, 128, 1, 3)
	checkEncode(t, script(limits(5000, 4096, 16384, 16), 65535, 16384, 16383), 136, 39, 128, 32, 128, 128, 1, 16, 3, 255, 255, 3, 128, 128, 1, 255, 127)
	b, e := Encode(longest())
	if e != api.OK || len(b) != 2+2+3+1+2+3*2000 {
		t.Errorf("%d bytes, error %d", len(b), e)
	}
}

func TestDecodeOfTooMany(t *testing.T) {
	for _, n := range []int{6101, 6102, 65536, 200000, 200001, 1000000} {
		checkDecodeError(t, make([]byte, n), api.ErrMany)
		checkDecodeError(t, bytes.Repeat([]byte{255}, n), api.ErrMany)
		checkDecodeError(t, append(oracleEncode(longest()), make([]byte, n-6010)...), api.ErrMany)
	}
	for _, n := range []int{6011, 6099, 6100} {
		checkDecodeError(t, make([]byte, n), api.ErrForm)
		checkDecodeError(t, bytes.Repeat([]byte{255}, n), api.ErrForm)
		checkDecodeError(t, append(oracleEncode(longest()), make([]byte, n-6010)...), api.ErrForm)
	}
	// As many bytes as there may be, which are those of picks, but of too many.
	full := oracleEncode(script(limits(5000, 4096, 16384, 16), slices.Repeat([]int{65535}, 2030)...))
	if len(full) != api.MaxScript {
		t.Errorf("%d bytes", len(full))
	}
	checkDecodeError(t, full, api.ErrForm)
	checkDecodeError(t, append(full, 0), api.ErrMany)
}

func TestDecodeOfBytesThatAreNoScript(t *testing.T) {
	for _, b := range [][]byte{
		nil,
		{},
		{0},
		{9},
		{9, 128, 1, 0, 1},
		{9, 128, 1, 0, 1, 1},
		{9, 128, 1, 0, 1, 2, 0},
		{9, 128, 1, 0, 1, 2, 0, 172},
		{9, 128, 1, 0, 1, 2, 0, 172, 2, 0},
		{9, 128, 1, 0, 1, 2, 0, 172, 2, 128},
		{9, 128, 1, 0, 1, 1, 0, 172, 2},
		{9, 128, 1, 0, 1, 3, 0, 172, 2},
		{0, 128, 1, 0, 1, 2, 0, 172, 2},
		{9, 128, 1, 0, 0, 2, 0, 172, 2},
		{9, 128, 1, 0, 17, 2, 0, 172, 2},
		{137, 39, 128, 1, 0, 1, 2, 0, 172, 2},
		{9, 129, 32, 0, 1, 2, 0, 172, 2},
		{9, 128, 1, 129, 128, 1, 1, 2, 0, 172, 2},
		{9, 128, 1, 0, 1, 2, 0, 128, 128, 4},
		{9, 128, 1, 0, 1, 2, 128, 128, 4, 0},
		{0, 0, 0, 0, 0},
		{255, 255, 255, 255, 255},
	} {
		checkDecodeError(t, b, api.ErrForm)
	}
}

// numbers are the bytes of some numbers, but for the one at a place, whose bytes are given.
func numbers(l []uint64, place int, given []byte) []byte {
	var b []byte
	for i, n := range l {
		if i == place {
			b = append(b, given...)
		} else {
			b = binary.AppendUvarint(b, n)
		}
	}
	return b
}

// Each number has one form, and bounds of its own.
func TestDecodeOfOtherNumbersAtEachPlace(t *testing.T) {
	l := []uint64{9, 128, 0, 1, 2, 0, 300}
	for place, n := range l {
		plain := binary.AppendUvarint(nil, n)
		checkDecode(t, numbers(l, place, plain), script(limits(9, 128, 0, 1), 0, 300))
		longer := slices.Clone(plain)
		for len(longer) < 12 {
			longer[len(longer)-1] |= 128
			longer = append(longer, 0)
			checkDecodeError(t, numbers(l, place, longer), api.ErrForm)
		}
		for _, more := range []uint64{1 << 17, 1 << 31, 1 << 32, 1 << 62, 1 << 63, math.MaxUint64 - 300} {
			// Taken for fewer bits, some are numbers that would do.
			checkDecodeError(t, numbers(l, place, binary.AppendUvarint(nil, more)), api.ErrForm)
			checkDecodeError(t, numbers(l, place, binary.AppendUvarint(nil, more+n)), api.ErrForm)
		}
		checkDecodeError(t, numbers(l, place, bytes.Repeat([]byte{255}, 10)), api.ErrForm)
		checkDecodeError(t, numbers(l, place, nil), api.ErrForm)
	}
}

func TestDecodeFromBothSides(t *testing.T) {
	bounds := [][2]uint64{{1, 5000}, {0, 4096}, {0, 16384}, {1, 16}, {1, 1}, {0, 65535}}
	for place, bound := range bounds {
		for _, n := range []uint64{bound[0] - 1, bound[0], bound[0] + 1, bound[1] - 1, bound[1], bound[1] + 1} {
			l := []uint64{9, 128, 64, 1, 1, 300}
			l[place] = n
			b := numbers(l, -1, nil)
			if n < bound[0] || n > bound[1] {
				checkDecodeError(t, b, api.ErrForm)
				continue
			}
			checkDecode(t, b, script(limits(int(l[0]), int(l[1]), int(l[2]), int(l[3])), int(l[5])))
		}
	}
	checkDecode(t, oracleEncode(longest()), longest())
	checkDecodeError(t, oracleEncode(script(limits(1, 0, 0, 1), make([]int, 2001)...)), api.ErrForm)
	checkDecode(t, oracleEncode(script(limits(1, 0, 0, 1), make([]int, 2000)...)), script(limits(1, 0, 0, 1), make([]int, 2000)...))
}

// All bytes up to some length, of an alphabet that has the least and the most that a number can be.
func TestDecodeOfAllShortBytes(t *testing.T) {
	alphabet := []byte{0, 1, 2, 16, 128, 129}
	read := 0
	for size := range 9 {
		b := make([]byte, size)
		var from func(i int)
		from = func(i int) {
			if i < size {
				for _, x := range alphabet {
					b[i] = x
					from(i + 1)
				}
				return
			}
			want, e := oracleDecode(b)
			if e != api.OK {
				checkDecodeError(t, b, e)
				return
			}
			read++
			checkDecode(t, b, want)
		}
		from(0)
	}
	if read < 5000 {
		t.Errorf("only %d were read", read)
	}
}

// Bytes that were changed here and there are read as the oracle reads them.
func TestDecodeOfDamagedBytes(t *testing.T) {
	r := rule(2)
	met := map[api.Errno]int{}
	for range 30000 {
		b := oracleEncode(someScript(r, 8))
		for range r.IntN(3) {
			b[r.IntN(len(b))] = among(r, 0, 1, 2, 127, 128, 255, byte(r.Uint32()))
		}
		switch r.IntN(8) {
		case 0:
			b = b[:r.IntN(len(b))]
		case 1:
			b = append(b, among(r, 0, 1, 128, byte(r.Uint32())))
		case 2:
			i := r.IntN(len(b))
			b = slices.Delete(b, i, i+1)
		}
		want, e := oracleDecode(b)
		met[e]++
		if e != api.OK {
			checkDecodeError(t, b, e)
			continue
		}
		checkDecode(t, b, want)
	}
	for _, e := range []api.Errno{api.OK, api.ErrForm} {
		if met[e] < 5000 {
			t.Errorf("only %d had the error %d", met[e], e)
		}
	}
}

// P11.3

func TestPickOfAll(t *testing.T) {
	for ready := 1; ready <= 16; ready++ {
		for pick := range 300 {
			checkPick(t, pick, ready, oraclePick(pick, ready))
		}
		for pick := 65236; pick <= 65535; pick++ {
			checkPick(t, pick, ready, oraclePick(pick, ready))
		}
	}
	checkPick(t, 65535, 16, 15)
	checkPick(t, 65535, 1, 0)
	checkPick(t, 65535, 7, 1)
	checkPick(t, 0, 16, 0)
}

func TestPickOfOtherArguments(t *testing.T) {
	picks := edgesOf(0, 65535)
	readies := edgesOf(0, 16)
	met := map[api.Errno]int{}
	for _, pick := range picks {
		for _, ready := range readies {
			// That nobody is ready is told last.
			want := api.OK
			if ready == 0 {
				want = api.ErrNone
			}
			if !within(pick, 0, 65535) || !within(ready, 0, 16) {
				want = api.ErrArg
			}
			met[want]++
			if want != api.OK {
				checkPickError(t, pick, ready, want)
			}
		}
	}
	if met[api.OK] < 9 || met[api.ErrNone] < 4 || met[api.ErrArg] < 50 {
		t.Errorf("only %v", met)
	}
	checkPickError(t, 0, 0, api.ErrNone)
	checkPickError(t, 65535, 0, api.ErrNone)
	checkPickError(t, 65536, 0, api.ErrArg)
	checkPickError(t, -1, 0, api.ErrArg)
	checkPickError(t, 0, 17, api.ErrArg)
	checkPickError(t, 0, -1, api.ErrArg)
}

// P11.4

func TestWhatWasWrittenIsRead(t *testing.T) {
	r := rule(3)
	for i := range 3000 {
		checkValid(t, someScript(r, []int{3, 30, 2000}[i%30/14]))
	}
	checkValid(t, longest())
}

func TestWhatIsReadIsWrittenAgain(t *testing.T) {
	r := rule(4)
	read := 0
	for range 200000 {
		b := make([]byte, 5+r.IntN(5))
		for i := range b {
			b[i] = among[byte](r, 0, 1, 2, 3, 5, 127, 128, 200)
		}
		b[len(b)-1] &= 127
		s, e := Decode(b)
		if e != api.OK {
			continue
		}
		read++
		checkCheck(t, s, api.OK)
		checkEncode(t, s, b...)
	}
	if read < 2000 {
		t.Errorf("only %d were read", read)
	}
}

// No script is told by the bytes of another one, with more or fewer behind them.
func TestNoScriptIsTheBeginningOfAnother(t *testing.T) {
	r := rule(5)
	for range 300 {
		b := oracleEncode(someScript(r, 6))
		for n := range b {
			checkDecodeError(t, b[:n], api.ErrForm)
		}
		for more := range 256 {
			checkDecodeError(t, append(slices.Clone(b), byte(more)), api.ErrForm)
		}
	}
}

func TestCutToFewerAndFewer(t *testing.T) {
	r := rule(6)
	for range 300 {
		s := someScript(r, 12)
		for n := range len(s.Picks) + 1 {
			longer, e := Cut(s, n)
			if e != api.OK {
				t.Fatalf("error %d", e)
			}
			for m := range n + 1 {
				at, e := Cut(s, m)
				if e != api.OK {
					t.Fatalf("error %d", e)
				}
				checkCut(t, longer, m, at)
			}
			checkCutError(t, longer, n+1, api.ErrArg)
		}
	}
}

func TestEachGoroutineThatIsReadyCanBeChosen(t *testing.T) {
	for ready := 1; ready <= 16; ready++ {
		times := make([]int, ready)
		for pick := range 65536 {
			i, e := Pick(pick, ready)
			if e != api.OK || !within(i, 0, ready-1) {
				t.Fatalf("%d among %d: %d, error %d", pick, ready, i, e)
			}
			times[i]++
		}
		for i, n := range times {
			if n == 0 || n < times[0]-1 || n > times[0] {
				t.Errorf("%d of %d is chosen %d times", i, ready, n)
			}
		}
		for i := range ready {
			checkPick(t, i, ready, i)
			checkPick(t, i+ready, ready, i)
		}
	}
}

// R2: arguments are only read, and results share no memory.

func TestArgumentsAreOnlyRead(t *testing.T) {
	s, b := example()
	s, b = roomy(s), append(b, 77, 0, 77)
	size := len(b) - 3
	picks := s.Picks[:cap(s.Picks)]
	keptPicks, keptBytes, limits := slices.Clone(picks), slices.Clone(b), s.Limits
	for range 2 {
		checkValid(t, s)
		checkNotValid(t, api.Script{Picks: picks[:3]})
		checkDecode(t, b[:size], s)
		checkDecodeError(t, b[:size-1], api.ErrForm)
		checkDecodeError(t, b, api.ErrForm)
	}
	if !slices.Equal(picks, keptPicks) || !bytes.Equal(b, keptBytes) || s.Limits != limits {
		t.Errorf("the arguments have become %v, %v and %v", picks, s.Limits, b)
	}
}

// span is memory that a list has, all of its room too. The list is kept, so that no later one gets the same memory.
type span struct {
	from, end uintptr
	list      any
}

func spanOf[E any](l []E) span {
	from := reflect.ValueOf(l).Pointer()
	return span{from, from + uintptr(cap(l))*reflect.TypeFor[E]().Size(), l}
}

func TestResultsShareNoMemory(t *testing.T) {
	s, b := example()
	s = roomy(s)
	all := []span{spanOf(s.Picks), spanOf(b)}
	for range 2 {
		coded, _ := Encode(s)
		read, _ := Decode(b)
		all = append(all, spanOf(coded), spanOf(read.Picks))
		for n := range 3 {
			cut, _ := Cut(s, n)
			all = append(all, spanOf(cut.Picks))
		}
	}
	for i, x := range all {
		for _, y := range all[:i] {
			if x.from < y.end && y.from < x.end {
				t.Errorf("%x to %x and %x to %x are the same memory", x.from, x.end, y.from, y.end)
			}
		}
	}
	// What is put behind a cut script does not become a pick of the whole one.
	cut, _ := Cut(s, 1)
	cut.Picks = append(cut.Picks, 99)
	want, _ := example()
	if !equal(s, want) {
		t.Errorf("the script has become %s", toldScript(s))
	}
}

func TestEmptyAndNilAreTheSame(t *testing.T) {
	l := limits(1, 0, 0, 1)
	for _, picks := range [][]int{nil, {}, make([]int, 0, 9)} {
		checkValid(t, api.Script{Picks: picks, Limits: l})
	}
	checkDecodeError(t, nil, api.ErrForm)
	checkDecodeError(t, []byte{}, api.ErrForm)
}

// R7

func TestAnyArguments(t *testing.T) {
	r := rule(7)
	number := func() int {
		return among(r, -1, 0, 1, 2, r.IntN(300)-20, r.IntN(70000), math.MinInt, math.MaxInt, int(r.Uint64()))
	}
	for range 20000 {
		s := script(limits(number(), number(), number(), number()))
		for range r.IntN(4) {
			s.Picks = append(s.Picks, number())
		}
		checkAny(t, s)
		Cut(s, number())
		Pick(number(), number())
		b := make([]byte, r.IntN(40))
		for i := range b {
			b[i] = byte(r.Uint32())
		}
		want, e := oracleDecode(b)
		if e != api.OK {
			checkDecodeError(t, b, e)
			continue
		}
		checkDecode(t, b, want)
	}
}
