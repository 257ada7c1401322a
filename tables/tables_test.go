package tables

import (
	"bytes"
	"encoding/binary"
	"fmt"
	"math"
	"math/rand/v2"
	"slices"
	"testing"

	"wreckage/api"
	"wreckage/wire"
)

const largest = math.MaxUint64

func run(from int, value uint64) api.Run {
	return api.Run{From: from, Value: value}
}

func runs(l ...api.Run) []api.Run {
	return l
}

// example is the chapter's: a list, its runs, and their bytes.
func example() ([]uint64, []api.Run, []byte) {
	return []uint64{7, 7, 0, 0, 0, 7}, runs(run(0, 7), run(2, 0), run(5, 7)), []byte{3, 0, 7, 2, 0, 3, 7}
}

// The oracle says what the chapter says, in other ways than the program.

func oracleCount(n int) bool {
	return n > 0 && n < 201
}

func oracleCheck(l []api.Run, n int) api.Errno {
	switch {
	case !oracleCount(n):
		return api.ErrArg
	case len(l) < 1:
		return api.ErrBad
	}
	last := -1
	for k, r := range l {
		switch {
		case k == 0 && r.From != 0:
			return api.ErrBad
		case r.From <= last, r.From > n-1:
			return api.ErrBad
		case k > 0 && l[k-1].Value == r.Value:
			return api.ErrBad
		}
		last = r.From
	}
	return api.OK
}

// oracleAt is the value at an instruction, by the words of the chapter: that of the last run whose From is not greater.
func oracleAt(l []api.Run, i int) uint64 {
	var value uint64
	for _, r := range l {
		if r.From <= i {
			value = r.Value
		}
	}
	return value
}

func oracleList(l []api.Run, n int) []uint64 {
	v := make([]uint64, n)
	for i := range v {
		v[i] = oracleAt(l, i)
	}
	return v
}

// oracleMake are the runs of a list, from the last one to the first.
func oracleMake(v []uint64) []api.Run {
	var l []api.Run
	for i := len(v) - 1; i > 0; i-- {
		if v[i] != v[i-1] {
			l = append(l, run(i, v[i]))
		}
	}
	l = append(l, run(0, v[0]))
	slices.Reverse(l)
	return l
}

// oracleEncode are the bytes of runs, put down by the library.
func oracleEncode(l []api.Run) []byte {
	b := binary.AppendUvarint(nil, uint64(len(l)))
	for k, r := range l {
		by := r.From
		if k > 0 {
			by = r.From - l[k-1].From
		}
		b = binary.AppendUvarint(b, uint64(by))
		b = binary.AppendUvarint(b, r.Value)
	}
	return b
}

// oracleDecode reads runs, with wire's errors: where the cursor is then, and what they are, or the error.
func oracleDecode(c api.Cursor, n int) (int, []api.Run, api.Errno) {
	if len(c.Bytes) > 200000 || c.At < 0 || c.At > len(c.Bytes) {
		return 0, nil, api.ErrBad
	}
	if !oracleCount(n) {
		return 0, nil, api.ErrArg
	}
	c, count, e := wire.Unvary(c, uint64(n))
	if e != api.OK {
		return 0, nil, e
	}
	numbers := make([]uint64, 2*count)
	for k := range numbers {
		c, numbers[k], e = wire.Unvary(c, largest)
		if e != api.OK {
			return 0, nil, e
		}
	}
	var l []api.Run
	from := 0
	for k := range int(count) {
		if numbers[2*k] > 1000 {
			return 0, nil, api.ErrForm
		}
		from += int(numbers[2*k])
		l = append(l, run(from, numbers[2*k+1]))
	}
	if oracleCheck(l, n) != api.OK {
		return 0, nil, api.ErrForm
	}
	return c.At, l, api.OK
}

// rule gives different numbers, the same ones in each run of the tests.
func rule(seed uint64) *rand.Rand {
	return rand.New(rand.NewPCG(seed, 8))
}

// edges are values beside each number of bits, and so of bytes.
func edges() []uint64 {
	l := []uint64{0, 2, 300, largest}
	for bit := range 64 {
		l = append(l, 1<<bit-1, 1<<bit, 1<<bit+1)
	}
	return l
}

// someList has up to most values, which are often the same as the one before.
func someList(r *rand.Rand, most int) []uint64 {
	v := make([]uint64, 1+r.IntN(most))
	all := edges()
	stay := r.IntN(8)
	for i := range v {
		if i > 0 && r.IntN(8) < stay {
			v[i] = v[i-1]
		} else {
			v[i] = all[r.IntN(len(all))]
		}
	}
	return v
}

// stairs are n values, each one other than the one before.
func stairs(n int) []uint64 {
	v := make([]uint64, n)
	for i := range v {
		v[i] = uint64(i%2) + 5
	}
	return v
}

// allLists calls f with each list of n values that are less than most; f does not keep it.
func allLists(n, most int, f func(v []uint64)) {
	v := make([]uint64, n)
	var from func(i int)
	from = func(i int) {
		if i == n {
			f(v)
			return
		}
		for x := range most {
			v[i] = uint64(x)
			from(i + 1)
		}
	}
	from(0)
}

// allRuns calls f with each list of up to most runs whose From is from -1 to n + 1, valid or not; f does not keep it.
func allRuns(most, n int, f func(l []api.Run)) {
	var further func(l []api.Run)
	further = func(l []api.Run) {
		f(l)
		if len(l) == most {
			return
		}
		for from := -1; from <= n+1; from++ {
			for value := range uint64(2) {
				further(append(l, run(from, value)))
			}
		}
	}
	further(make([]api.Run, 0, most))
}

// wrongCounts are numbers of instructions that there cannot be.
func wrongCounts() []int {
	return []int{0, -1, -200, 201, 202, 255, 256, 257, 1 << 16, 1<<16 + 1, 1<<32 + 6, math.MinInt, math.MinInt + 6, math.MaxInt}
}

func at(place int, parts ...[]byte) api.Cursor {
	return api.Cursor{Bytes: slices.Concat(parts...), At: place}
}

// badCursors are cursors that are not valid.
func badCursors() []api.Cursor {
	_, _, b := example()
	long := make([]byte, api.MaxDump+1)
	copy(long, b)
	return []api.Cursor{
		{Bytes: b, At: -1},
		{Bytes: b, At: len(b) + 1},
		{Bytes: b, At: math.MaxInt},
		{Bytes: b, At: math.MinInt},
		{At: 1},
		{At: -1},
		{Bytes: append(make([]byte, 0, 20), b...)[:2], At: 3},
		{Bytes: long},
		{Bytes: long, At: api.MaxDump},
		{Bytes: long, At: api.MaxDump + 1},
	}
}

// told is what is told of things that may be many.
func told[E any](l []E) string {
	if len(l) > 12 {
		return fmt.Sprintf("%d, %v and so on to %v", len(l), l[:6], l[len(l)-3:])
	}
	return fmt.Sprint(l)
}

func checkCheck(t *testing.T, l []api.Run, n int, want api.Errno) {
	t.Helper()
	if e := Check(l, n); e != want {
		t.Errorf("Check of %s for %d: error %d, not %d", told(l), n, e, want)
	}
}

func checkAt(t *testing.T, l []api.Run, n, i int, want uint64) {
	t.Helper()
	if v, e := At(l, n, i); e != api.OK || v != want {
		t.Errorf("At of %s for %d, %d: %d, error %d, not %d", told(l), n, i, v, e, want)
	}
}

func checkAtError(t *testing.T, l []api.Run, n, i int, want api.Errno) {
	t.Helper()
	if v, e := At(l, n, i); e != want || v != 0 {
		t.Errorf("At of %s for %d, %d: %d, error %d, not %d", told(l), n, i, v, e, want)
	}
}

func checkMake(t *testing.T, v []uint64, want ...api.Run) {
	t.Helper()
	if l, e := Make(v); e != api.OK || !slices.Equal(l, want) {
		t.Errorf("Make of %s: %s, error %d, not %s", told(v), told(l), e, told(want))
	}
}

func checkMakeError(t *testing.T, v []uint64, want api.Errno) {
	t.Helper()
	if l, e := Make(v); e != want || len(l) != 0 {
		t.Errorf("Make of %s: %s, error %d, not %d", told(v), told(l), e, want)
	}
}

func checkList(t *testing.T, l []api.Run, n int, want ...uint64) {
	t.Helper()
	if v, e := List(l, n); e != api.OK || !slices.Equal(v, want) {
		t.Errorf("List of %s for %d: %s, error %d, not %s", told(l), n, told(v), e, told(want))
	}
}

func checkListError(t *testing.T, l []api.Run, n int, want api.Errno) {
	t.Helper()
	if v, e := List(l, n); e != want || len(v) != 0 {
		t.Errorf("List of %s for %d: %s, error %d, not %d", told(l), n, told(v), e, want)
	}
}

func checkEncode(t *testing.T, l []api.Run, n int, want ...byte) {
	t.Helper()
	if b, e := Encode(l, n); e != api.OK || !bytes.Equal(b, want) {
		t.Errorf("Encode of %s for %d: %s, error %d, not %s", told(l), n, told(b), e, told(want))
	}
}

func checkEncodeError(t *testing.T, l []api.Run, n int, want api.Errno) {
	t.Helper()
	if b, e := Encode(l, n); e != want || len(b) != 0 {
		t.Errorf("Encode of %s for %d: %s, error %d, not %d", told(l), n, told(b), e, want)
	}
}

func checkDecode(t *testing.T, c api.Cursor, n, place int, want ...api.Run) {
	t.Helper()
	d, l, e := Decode(c, n)
	if e != api.OK || d.At != place || !slices.Equal(l, want) {
		t.Errorf("Decode of %s at %d for %d: %s at %d, error %d, not %s at %d", told(c.Bytes), c.At, n, told(l), d.At, e, told(want), place)
		return
	}
	if len(d.Bytes) != len(c.Bytes) || &d.Bytes[0] != &c.Bytes[0] {
		t.Errorf("Decode of %s at %d for %d: the bytes are not those of the cursor", told(c.Bytes), c.At, n)
	}
}

func checkDecodeError(t *testing.T, c api.Cursor, n int, want api.Errno) {
	t.Helper()
	if d, l, e := Decode(c, n); e != want || len(l) != 0 || d.Bytes != nil || d.At != 0 {
		t.Errorf("Decode of %s at %d for %d: %s at %d, error %d, not %d", told(c.Bytes), c.At, n, told(l), d.At, e, want)
	}
}

// checkNotValid calls all functions that take runs with the error of Check, whatever else is wrong.
func checkNotValid(t *testing.T, l []api.Run, n int, want api.Errno) {
	t.Helper()
	checkCheck(t, l, n, want)
	for _, i := range []int{0, n - 1, n, -1} {
		checkAtError(t, l, n, i, want)
	}
	checkListError(t, l, n, want)
	checkEncodeError(t, l, n, want)
}

// checkValid calls all functions that take runs with valid ones, and compares what they give with the oracle.
func checkValid(t *testing.T, l []api.Run, n int) {
	t.Helper()
	checkCheck(t, l, n, api.OK)
	for i := range n {
		checkAt(t, l, n, i, oracleAt(l, i))
	}
	checkAtError(t, l, n, -1, api.ErrArg)
	checkAtError(t, l, n, n, api.ErrArg)
	checkList(t, l, n, oracleList(l, n)...)
	checkEncode(t, l, n, oracleEncode(l)...)
}

// All promises

func TestTheChaptersExample(t *testing.T) {
	v, l, b := example()
	checkMake(t, v, l...)
	checkCheck(t, l, 6, api.OK)
	checkList(t, l, 6, v...)
	checkEncode(t, l, 6, b...)
	checkDecode(t, at(0, b), 6, 7, l...)
	for i, x := range v {
		checkAt(t, l, 6, i, x)
	}
	checkNotValid(t, runs(run(1, 7), run(2, 0), run(5, 7)), 6, api.ErrBad)
	checkNotValid(t, runs(run(0, 7), run(2, 7)), 6, api.ErrBad)
}

// The number of instructions is looked at first, whatever the runs are.
func TestNumbersOfInstructionsThatThereCannotBe(t *testing.T) {
	_, l, _ := example()
	for _, n := range wrongCounts() {
		for _, x := range [][]api.Run{l, runs(run(0, 0)), nil, runs(run(1, 7)), runs(run(0, 7), run(2, 7)), runs(run(n, 1)), runs(run(0, 1), run(n-1, 2))} {
			checkNotValid(t, x, n, api.ErrArg)
		}
	}
}

// P8.1

func TestRunsThatAreValid(t *testing.T) {
	for _, c := range []struct {
		l []api.Run
		n int
	}{
		{runs(run(0, 0)), 1},
		{runs(run(0, 0)), 200},
		{runs(run(0, largest)), 1},
		{runs(run(0, 0), run(1, largest)), 2},
		{runs(run(0, 1), run(199, 0)), 200},
		{runs(run(0, 1<<32), run(1, 0), run(2, 1<<32)), 3},
		{runs(run(0, 1<<63), run(5, 1<<63+1), run(6, 1<<63)), 7},
		{runs(run(0, 9), run(1, 8), run(2, 9), run(3, 8), run(4, 9)), 5},
		{oracleMake(stairs(199)), 199},
		{oracleMake(stairs(200)), 200},
		{oracleMake(stairs(150)), 200},
	} {
		checkValid(t, c.l, c.n)
	}
}

func TestRunsThatAreNotValid(t *testing.T) {
	many := make([]api.Run, 100000)
	for i := range many {
		many[i] = run(i, uint64(i))
	}
	for _, c := range []struct {
		l []api.Run
		n int
	}{
		{nil, 1},
		{runs(), 200},
		{runs(run(1, 0)), 1},
		{runs(run(1, 0)), 2},
		{runs(run(-1, 0)), 2},
		{runs(run(199, 0)), 200},
		{runs(run(math.MinInt, 0)), 2},
		{runs(run(math.MaxInt, 0)), 2},
		{runs(run(-1, 0), run(0, 1)), 2},
		{runs(run(1, 0), run(0, 1)), 2},
		{runs(run(1, 0), run(2, 1)), 3},
		{runs(run(0, 0), run(0, 1)), 2},
		{runs(run(0, 0), run(1, 1)), 1},
		{runs(run(0, 0), run(2, 1)), 2},
		{runs(run(0, 0), run(200, 1)), 200},
		{runs(run(0, 0), run(-1, 1)), 2},
		{runs(run(0, 0), run(math.MaxInt, 1)), 200},
		{runs(run(0, 0), run(math.MinInt, 1)), 200},
		{runs(run(0, 0), run(1<<32+1, 1)), 200},
		{runs(run(0, 0), run(2, 1), run(1, 2)), 4},
		{runs(run(0, 0), run(2, 1), run(2, 2)), 4},
		{runs(run(0, 0), run(2, 1), run(4, 2)), 4},
		{runs(run(0, 0), run(5, 1), run(3, 2)), 4},
		{runs(run(0, 0), run(2, 1), run(-1, 2)), 4},
		{runs(run(0, 7), run(1, 7)), 4},
		{runs(run(0, largest), run(3, largest)), 4},
		{runs(run(0, 7), run(1, 8), run(2, 8)), 4},
		{runs(run(0, 7), run(1, 7), run(2, 8)), 4},
		{runs(run(0, 7), run(1, 8), run(2, 7), run(3, 7)), 4},
		{many, 200},
		{many[:201], 200},
		{append(oracleMake(stairs(200)), run(199, 9)), 200},
	} {
		checkNotValid(t, c.l, c.n, api.ErrBad)
	}
}

func TestAllShortRuns(t *testing.T) {
	valid := 0
	for n := 1; n <= 3; n++ {
		allRuns(n+1, n, func(l []api.Run) {
			if oracleCheck(l, n) != api.OK {
				checkNotValid(t, l, n, api.ErrBad)
				return
			}
			valid++
			checkValid(t, l, n)
		})
	}
	if valid != 2+4+8 {
		t.Errorf("%d were valid", valid)
	}
}

// Each run is checked, also the last ones of many.
func TestARunThatIsNotValidAtEachPlace(t *testing.T) {
	v := make([]uint64, 200)
	for i := range v {
		v[i] = uint64(i)
	}
	for k := range 200 {
		for _, r := range []api.Run{run(-1, 500), run(k-1, 500), run(k+1, 500), run(200, 500), run(k, uint64(k-1)), run(k, uint64(k+1))} {
			l := oracleMake(v)
			l[k] = r
			want := oracleCheck(l, 200)
			if want == api.OK && !(k == 0 && r == run(0, largest) || k == 199 && r == run(199, 200)) {
				t.Errorf("%v at %d is valid", r, k)
			}
			checkCheck(t, l, 200, want)
		}
	}
}

func TestAtOfOtherInstructions(t *testing.T) {
	_, l, _ := example()
	for _, i := range []int{-1, -2, -6, 6, 7, 199, 200, 1 << 32, -1 << 32, math.MinInt, math.MaxInt} {
		checkAtError(t, l, 6, i, api.ErrArg)
	}
	// The values go on to the last instruction, and no further.
	checkAt(t, l, 200, 199, 7)
	checkAtError(t, l, 200, 200, api.ErrArg)
	checkAt(t, l, 7, 6, 7)
	checkAtError(t, l, 7, 7, api.ErrArg)
	checkAt(t, runs(run(0, 3)), 1, 0, 3)
	checkAtError(t, runs(run(0, 3)), 1, 1, api.ErrArg)
}

func TestListGoesOnToTheLastInstruction(t *testing.T) {
	_, l, _ := example()
	checkList(t, l, 9, 7, 7, 0, 0, 0, 7, 7, 7, 7)
	checkList(t, runs(run(0, 3)), 1, 3)
	checkList(t, runs(run(0, 3)), 200, slices.Repeat([]uint64{3}, 200)...)
	checkList(t, oracleMake(stairs(200)), 200, stairs(200)...)
}

// P8.2

func TestMake(t *testing.T) {
	checkMake(t, []uint64{0}, run(0, 0))
	checkMake(t, []uint64{largest}, run(0, largest))
	checkMake(t, []uint64{0, 0}, run(0, 0))
	checkMake(t, []uint64{0, 1}, run(0, 0), run(1, 1))
	checkMake(t, []uint64{5, 0, 5}, run(0, 5), run(1, 0), run(2, 5))
	checkMake(t, []uint64{1 << 32, 0, 0, 1 << 32}, run(0, 1<<32), run(1, 0), run(3, 1<<32))
	checkMake(t, []uint64{1 << 63, 1<<63 + 1}, run(0, 1<<63), run(1, 1<<63+1))
	checkMake(t, make([]uint64, 200), run(0, 0))
	for _, n := range []int{1, 2, 199, 200} {
		checkMake(t, stairs(n), oracleMake(stairs(n))...)
	}
}

func TestMakeOfTooFewAndTooMany(t *testing.T) {
	checkMakeError(t, nil, api.ErrArg)
	checkMakeError(t, []uint64{}, api.ErrArg)
	checkMakeError(t, make([]uint64, 0, 9), api.ErrArg)
	for _, n := range []int{201, 202, 256, 257, 65537, 1000000} {
		checkMakeError(t, make([]uint64, n), api.ErrArg)
		checkMakeError(t, stairs(n), api.ErrArg)
	}
}

func TestMakeOfAllShortLists(t *testing.T) {
	for n := 1; n <= 6; n++ {
		allLists(n, 3, func(v []uint64) {
			checkMake(t, v, oracleMake(v)...)
		})
	}
}

// P8.3

func TestEncode(t *testing.T) {
	checkEncode(t, runs(run(0, 0)), 1, 1, 0, 0)
	checkEncode(t, runs(run(0, 127)), 1, 1, 0, 127)
	checkEncode(t, runs(run(0, 128)), 200, 1, 0, 128, 1)
	checkEncode(t, runs(run(0, 300), run(127, 0)), 128, 2, 0, 172, 2, 127, 0)
	checkEncode(t, runs(run(0, 1), run(128, 2)), 129, 2, 0, 1, 128, 1, 2)
	checkEncode(t, runs(run(0, 1), run(100, 2), run(199, 1)), 200, 3, 0, 1, 100, 2, 99, 1)
	checkEncode(t, runs(run(0, largest)), 1, 1, 0, 255, 255, 255, 255, 255, 255, 255, 255, 255, 1)
	for _, n := range []int{127, 128, 200} {
		l := oracleMake(stairs(n))
		checkEncode(t, l, n, oracleEncode(l)...)
		checkDecode(t, at(0, oracleEncode(l)), n, len(oracleEncode(l)), l...)
	}
}

func TestDecodeReadsFromAtOn(t *testing.T) {
	_, l, b := example()
	checkDecode(t, at(2, []byte{9, 9}, b), 6, 9, l...)
	checkDecode(t, at(1, []byte{200}, b, []byte{200}), 200, 8, l...)
	checkDecode(t, at(len(b), b, b), 6, 2*len(b), l...)
	most := append(make([]byte, api.MaxDump-len(b)), b...)
	checkDecode(t, at(api.MaxDump-len(b), most), 6, api.MaxDump, l...)
	checkDecodeError(t, at(api.MaxDump, most), 6, api.ErrShort)
}

// The cursor is looked at before the number of instructions, and this before the bytes.
func TestDecodeOfOtherArguments(t *testing.T) {
	_, _, b := example()
	for _, n := range wrongCounts() {
		for _, c := range badCursors() {
			checkDecodeError(t, c, n, api.ErrBad)
		}
		for _, c := range []api.Cursor{at(0, b), at(7, b), at(0), at(0, []byte{128, 0}), at(0, []byte{255, 255, 1}), at(0, []byte{0}), at(0, []byte{1, 1, 1})} {
			checkDecodeError(t, c, n, api.ErrArg)
		}
	}
	for _, c := range badCursors() {
		checkDecodeError(t, c, 6, api.ErrBad)
		checkDecodeError(t, c, 1, api.ErrBad)
		checkDecodeError(t, c, 200, api.ErrBad)
	}
}

func TestDecodeOfANumberOfRuns(t *testing.T) {
	for _, n := range []int{1, 2, 127, 128, 200} {
		for _, more := range []uint64{uint64(n) + 1, uint64(n) + 2, 1 << 8, 1 << 16, 1 << 32, 1<<32 + 1, 1 << 63, 1<<63 + 1, largest} {
			checkDecodeError(t, at(0, wire.Vary(more)), n, api.ErrMany)
			checkDecodeError(t, at(0, wire.Vary(more), make([]byte, 500)), n, api.ErrMany)
		}
		checkDecodeError(t, at(0, wire.Vary(uint64(n))), n, api.ErrShort)
		checkDecodeError(t, at(0), n, api.ErrShort)
		checkDecodeError(t, at(0, []byte{128}), n, api.ErrShort)
		checkDecodeError(t, at(0, []byte{129, 0, 0, 0}), n, api.ErrForm)
		checkDecodeError(t, at(0, []byte{128, 0}), n, api.ErrForm)
		checkDecodeError(t, at(0, bytes.Repeat([]byte{255}, 12)), n, api.ErrForm)
		// No runs are read without another error, but are not valid.
		checkDecodeError(t, at(0, []byte{0}), n, api.ErrForm)
		checkDecodeError(t, at(0, []byte{0, 0, 0}), n, api.ErrForm)
	}
}

func TestDecodeOfRunsThatAreNotValid(t *testing.T) {
	for _, b := range [][]byte{
		{1, 1, 7},
		{1, 5, 7},
		{1, 6, 7},
		{2, 1, 7, 1, 0},
		{2, 0, 7, 2, 7},
		{2, 0, 7, 0, 0},
		{2, 0, 7, 6, 0},
		{2, 0, 7, 7, 0},
		{2, 0, 7, 255, 1, 0},
		{3, 0, 7, 3, 0, 3, 7},
		{3, 0, 7, 3, 0, 0, 7},
		{3, 0, 7, 3, 0, 1, 0},
		{3, 0, 7, 0, 0, 1, 7},
		{3, 0, 7, 9, 0, 1, 7},
	} {
		checkDecodeError(t, at(0, b), 6, api.ErrForm)
		checkDecodeError(t, at(0, b, []byte{1, 0, 0}), 6, api.ErrForm)
	}
}

// A From that is too great is not taken for a smaller one, on the way to which it went round.
func TestDecodeOfGreatSteps(t *testing.T) {
	great := []uint64{6, 7, 200, 256, 1<<8 + 1, 1<<16 + 1, 1 << 31, 1 << 32, 1<<32 + 1, 1 << 62, 1<<63 - 1, 1 << 63, 1<<63 + 1, largest - 5, largest - 1, largest}
	for _, by := range great {
		step := wire.Vary(by)
		checkDecodeError(t, at(0, []byte{1}, step, []byte{7}), 6, api.ErrForm)
		checkDecodeError(t, at(0, []byte{2, 0, 7}, step, []byte{8}), 6, api.ErrForm)
		checkDecodeError(t, at(0, []byte{2, 0, 7}, step, []byte{7}), 6, api.ErrForm)
		checkDecodeError(t, at(0, []byte{3, 0, 7, 1, 8}, step, []byte{9}), 6, api.ErrForm)
		for _, and := range great {
			more := wire.Vary(and)
			checkDecodeError(t, at(0, []byte{2}, step, []byte{7}, more, []byte{8}), 6, api.ErrForm)
			checkDecodeError(t, at(0, []byte{3, 0, 7}, step, []byte{8}, more, []byte{9}), 6, api.ErrForm)
		}
	}
	// All steps of the longest table are too great, and what there is of bytes is read.
	b := wire.Vary(200)
	for range 200 {
		b = append(append(b, wire.Vary(largest)...), wire.Vary(largest)...)
	}
	checkDecodeError(t, at(0, b), 200, api.ErrForm)
	checkDecodeError(t, at(0, b[:len(b)-1]), 200, api.ErrShort)
}

// Errors of later numbers come before what is not valid, and the error of the first number is the one that is returned.
func TestDecodeOfSeveralErrors(t *testing.T) {
	for _, b := range [][]byte{
		{1, 1},
		{2, 1, 7},
		{2, 1, 7, 1},
		{2, 0, 7, 0},
		{2, 0, 7, 9, 128},
		{3, 0, 7, 1, 7, 1},
	} {
		checkDecodeError(t, at(0, b), 6, api.ErrShort)
	}
	for _, b := range [][]byte{
		{1, 128, 0},
		{1, 0, 128, 0},
		{2, 0, 7, 129, 0, 8},
		{2, 0, 7, 1, 128, 0},
		{2, 0, 128, 0, 1},
		{2, 128, 0},
		{1, 128, 128, 128, 128, 128, 128, 128, 128, 128, 2, 0},
		{1, 0, 255, 255, 255, 255, 255, 255, 255, 255, 255, 2},
		{1, 0, 255, 255, 255, 255, 255, 255, 255, 255, 255, 255},
	} {
		checkDecodeError(t, at(0, b), 6, api.ErrForm)
	}
}

func TestDecodeOfAllShortBytes(t *testing.T) {
	alphabet := []byte{0, 1, 2, 3, 5, 128, 129, 255}
	for size := range 7 {
		allLists(size, len(alphabet), func(v []uint64) {
			b := make([]byte, size)
			for i, x := range v {
				b[i] = alphabet[x]
			}
			c := api.Cursor{Bytes: b}
			for _, n := range []int{1, 3, 200} {
				place, l, e := oracleDecode(c, n)
				if e != api.OK {
					checkDecodeError(t, c, n, e)
					continue
				}
				checkDecode(t, c, n, place, l...)
			}
		})
	}
}

// Bytes that were changed here and there have the oracle's errors.
func TestDecodeOfDamagedBytes(t *testing.T) {
	r := rule(1)
	met := map[api.Errno]int{}
	for range 30000 {
		v := someList(r, 12)
		b := oracleEncode(oracleMake(v))
		for range 1 + r.IntN(2) {
			b[r.IntN(len(b))] = []byte{0, 1, 2, 127, 128, 255, byte(r.Uint32())}[r.IntN(7)]
		}
		c := at(0, b[:len(b)-r.IntN(2)])
		place, l, e := oracleDecode(c, len(v))
		met[e]++
		if e != api.OK {
			checkDecodeError(t, c, len(v), e)
			continue
		}
		checkDecode(t, c, len(v), place, l...)
	}
	for _, e := range []api.Errno{api.OK, api.ErrForm, api.ErrShort, api.ErrMany} {
		if met[e] < 500 {
			t.Errorf("only %d had the error %d", met[e], e)
		}
	}
}

// P8.4

func TestLookupsAgreeWithTheList(t *testing.T) {
	r := rule(2)
	for range 2000 {
		v := someList(r, 200)
		l, e := Make(v)
		if e != api.OK || Check(l, len(v)) != api.OK {
			t.Fatalf("%s: %s, error %d", told(v), told(l), e)
		}
		checkList(t, l, len(v), v...)
		for i, x := range v {
			checkAt(t, l, len(v), i, x)
		}
	}
}

func TestThereIsOneTableForEachList(t *testing.T) {
	for n := 1; n <= 4; n++ {
		tables := map[string]string{}
		allRuns(n, n, func(l []api.Run) {
			if Check(l, n) != api.OK {
				return
			}
			v, e := List(l, n)
			if e != api.OK {
				t.Fatalf("%v for %d: error %d", l, n, e)
			}
			if other, ok := tables[fmt.Sprint(v)]; ok {
				t.Fatalf("%v has the runs %v and %s", v, l, other)
			}
			tables[fmt.Sprint(v)] = fmt.Sprint(l)
			checkMake(t, v, l...)
		})
		if len(tables) != 1<<n {
			t.Errorf("%d lists of %d have tables", len(tables), n)
		}
	}
}

func TestHowManyRunsThereAre(t *testing.T) {
	r := rule(3)
	for range 2000 {
		v := someList(r, 200)
		others := 0
		for i := range len(v) - 1 {
			if v[i+1] != v[i] {
				others++
			}
		}
		if l, e := Make(v); e != api.OK || len(l) != others+1 {
			t.Fatalf("%s: %d runs, error %d, not %d", told(v), len(l), e, others+1)
		}
	}
}

func TestWhatWasWrittenIsRead(t *testing.T) {
	behind := [][]byte{nil, {0}, {1}, {127}, {128}, {255}, {1, 0, 0}, bytes.Repeat([]byte{128}, 20)}
	r := rule(4)
	for range 1000 {
		v := someList(r, 200)
		l := oracleMake(v)
		b, e := Encode(l, len(v))
		if e != api.OK {
			t.Fatalf("%s: error %d", told(l), e)
		}
		for _, more := range behind {
			checkDecode(t, at(0, b, more), len(v), len(b), l...)
			checkDecode(t, at(len(more), more, b), len(v), len(more)+len(b), l...)
		}
		// It can also be read for more instructions than there are, but not if it ends too early.
		checkDecode(t, at(0, b), 200, len(b), l...)
		for range 3 {
			checkDecodeError(t, at(0, b[:r.IntN(len(b))]), len(v), api.ErrShort)
		}
	}
}

func TestEachValueIsWrittenAndRead(t *testing.T) {
	for _, x := range edges() {
		l := runs(run(0, x), run(1, ^x), run(199, x))
		checkValid(t, l, 200)
		checkDecode(t, at(0, oracleEncode(l)), 200, len(oracleEncode(l)), l...)
	}
}

func TestEachPlaceIsWrittenAndRead(t *testing.T) {
	for from := 1; from < 200; from++ {
		l := runs(run(0, 1), run(from, 0))
		checkValid(t, l, from+1)
		checkValid(t, l, 200)
		checkNotValid(t, l, from, api.ErrBad)
		b := oracleEncode(l)
		checkDecode(t, at(0, b), from+1, len(b), l...)
		checkDecode(t, at(0, b), 200, len(b), l...)
		if from > 1 {
			checkDecodeError(t, at(0, b), from, api.ErrForm)
		}
	}
}

func TestWhatIsReadIsWrittenAgain(t *testing.T) {
	r := rule(5)
	read := 0
	for range 200000 {
		b := make([]byte, 3+r.IntN(8))
		for i := range b {
			b[i] = byte(r.IntN(4))
			if r.IntN(20) == 0 {
				b[i] += 128
			}
		}
		b[0], b[1] = 1+b[0]%3, 0
		c, l, e := Decode(api.Cursor{Bytes: b}, 6)
		if e != api.OK {
			continue
		}
		read++
		checkEncode(t, l, 6, b[:c.At]...)
	}
	if read < 5000 {
		t.Errorf("only %d were read", read)
	}
}

// R2: arguments are only read, and results share no memory.

func TestArgumentsAreOnlyRead(t *testing.T) {
	v, l, b := example()
	values, table, coded := append(v, 55, 66), append(l, run(8, 88), run(9, 99)), append(b, 1, 0, 0)
	keptValues, keptTable, keptCoded := slices.Clone(values), slices.Clone(table), slices.Clone(coded)
	for range 2 {
		checkMake(t, values[:6], l...)
		checkValid(t, table[:3], 6)
		checkNotValid(t, table[1:3], 6, api.ErrBad)
		checkDecode(t, api.Cursor{Bytes: coded[:7]}, 6, 7, l...)
		checkDecodeError(t, api.Cursor{Bytes: coded[:6]}, 6, api.ErrShort)
	}
	if !slices.Equal(values, keptValues) || !slices.Equal(table, keptTable) || !slices.Equal(coded, keptCoded) {
		t.Errorf("the arguments have become %v, %v and %v", values, table, coded)
	}
}

// spoil writes over all the memory that a slice has.
func spoil[E any](l []E, with E) {
	for i := range l[:cap(l)] {
		l[:cap(l)][i] = with
	}
}

func TestResultsShareNoMemory(t *testing.T) {
	v, l, b := example()
	c := api.Cursor{Bytes: b}
	for range 2 {
		made, _ := Make(v)
		spoil(made, run(9, 9))
		list, _ := List(l, 6)
		spoil(list, 99)
		coded, _ := Encode(l, 6)
		spoil(coded, 99)
		_, read, _ := Decode(c, 6)
		spoil(read, run(9, 9))
	}
	keptValues, keptTable, keptCoded := example()
	if !slices.Equal(v, keptValues) || !slices.Equal(l, keptTable) || !slices.Equal(b, keptCoded) {
		t.Errorf("the arguments have become %v, %v and %v", v, l, b)
	}
	checkMake(t, v, l...)
	checkValid(t, l, 6)
	checkDecode(t, c, 6, 7, l...)
}
