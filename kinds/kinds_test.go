package kinds

import (
	"fmt"
	"math"
	"math/big"
	"math/rand/v2"
	"regexp"
	"slices"
	"strings"
	"testing"

	"wreckage/api"
)

var (
	aBool = api.Type{Kind: api.KindBool}
	anInt = api.Type{Kind: api.KindInt}
	aText = api.Type{Kind: api.KindText}
	// aName is a name by the words of the chapter.
	aName = regexp.MustCompile(`\A[a-zA-Z][a-zA-Z0-9]{0,15}\z`)
)

func pointerTo(i int) api.Type { return api.Type{Kind: api.KindPointer, Elem: i} }

func sliceOf(i int) api.Type { return api.Type{Kind: api.KindSlice, Elem: i} }

func arrayOf(n, i int) api.Type { return api.Type{Kind: api.KindArray, Elem: i, Len: n} }

// structOf has fields of these types, with the names a, b, c, ..
func structOf(types ...int) api.Type {
	t := api.Type{Kind: api.KindStruct}
	for n, i := range types {
		t.Fields = append(t.Fields, api.Field{Name: string(rune('a' + n)), Type: i})
	}
	return t
}

// named is the type with other names of its fields.
func named(t api.Type, names ...string) api.Type {
	t.Fields = slices.Clone(t.Fields)
	for n, s := range names {
		t.Fields[n].Name = s
	}
	return t
}

// rule gives different numbers, the same ones in each run.
func rule(seed uint64) *rand.Rand {
	return rand.New(rand.NewPCG(seed, 4))
}

func copied(l []api.Type) []api.Type {
	c := slices.Clone(l)
	for i := range c {
		c[i].Fields = slices.Clone(c[i].Fields)
	}
	return c
}

func equal(l, m []api.Type) bool {
	return slices.EqualFunc(l, m, func(t, u api.Type) bool {
		return t.Kind == u.Kind && t.Elem == u.Elem && t.Len == u.Len && slices.Equal(t.Fields, u.Fields)
	})
}

// told is what is told of a table that may be long.
func told(l []api.Type) string {
	if len(l) > 40 {
		return fmt.Sprintf("a table of %d types", len(l))
	}
	var s []string
	for i, t := range l {
		s = append(s, fmt.Sprintf("%d: kind %d elem %d len %d fields %v", i, t.Kind, t.Elem, t.Len, t.Fields))
	}
	return strings.Join(s, ", ")
}

// The chapter by its words: the oracle has no tables, and goes on from type to type.

func oracleParts(t api.Type) []int {
	var r []int
	if t.Kind == api.KindArray {
		r = append(r, t.Elem)
	}
	for _, f := range t.Fields {
		r = append(r, f.Type)
	}
	return r
}

func oracleLeads(t api.Type) []int {
	if t.Kind == api.KindPointer || t.Kind == api.KindSlice {
		return []int{t.Elem}
	}
	return oracleParts(t)
}

func oracleHolds(l []api.Type, i, k int) bool {
	return i == k || slices.ContainsFunc(oracleParts(l[i]), func(p int) bool { return oracleHolds(l, p, k) })
}

func oracleDepth(l []api.Type, i int) int {
	most := 0
	for _, p := range oracleParts(l[i]) {
		most = max(most, oracleDepth(l, p))
	}
	return most + 1
}

// oracleReach takes more types as long as there are any.
func oracleReach(l []api.Type, i int) []int {
	r := []int{i}
	for at := 0; at < len(r); at++ {
		for _, k := range oracleLeads(l[r[at]]) {
			if !slices.Contains(r, k) {
				r = append(r, k)
			}
		}
	}
	slices.Sort(r)
	return r
}

// oracleAlike looks further and further from all pairs, until nothing changes any more.
func oracleAlike(l []api.Type) map[[2]int]bool {
	alike := map[[2]int]bool{}
	for i := range l {
		for k := range l {
			alike[[2]int{i, k}] = true
		}
	}
	for {
		further := map[[2]int]bool{}
		for pair := range alike {
			if oracleLooksAlike(l[pair[0]], l[pair[1]], alike) {
				further[pair] = true
			}
		}
		if len(further) == len(alike) {
			return alike
		}
		alike = further
	}
}

func oracleLooksAlike(t, u api.Type, alike map[[2]int]bool) bool {
	if t.Kind != u.Kind || t.Len != u.Len || len(t.Fields) != len(u.Fields) {
		return false
	}
	for n := range t.Fields {
		if t.Fields[n].Name != u.Fields[n].Name {
			return false
		}
	}
	others := oracleLeads(u)
	for n, k := range oracleLeads(t) {
		if !alike[[2]int{k, others[n]}] {
			return false
		}
	}
	return true
}

// oracleWidth is exact, however great it is; known has what was computed before.
func oracleWidth(l []api.Type, i, depth int, known map[[2]int]*big.Int) *big.Int {
	if w, ok := known[[2]int{i, depth}]; ok {
		return w
	}
	w := big.NewInt(1)
	add := func(times, k, depth int) {
		w.Add(w, new(big.Int).Mul(big.NewInt(int64(times)), oracleWidth(l, k, depth, known)))
	}
	t := l[i]
	switch {
	case t.Kind == api.KindPointer && depth > 0:
		add(1, t.Elem, depth-1)
	case t.Kind == api.KindSlice && depth > 0:
		add(16, t.Elem, depth-1)
	case t.Kind == api.KindArray:
		add(t.Len, t.Elem, depth)
	case t.Kind == api.KindStruct:
		for _, f := range t.Fields {
			add(1, f.Type, depth)
		}
	}
	known[[2]int{i, depth}] = w
	return w
}

func oracleIsType(t api.Type, i, n int) bool {
	plain := t.Elem == 0 && t.Len == 0 && len(t.Fields) == 0
	switch t.Kind {
	case 1, 2, 3:
		return plain
	case 4, 7:
		return 0 <= t.Elem && t.Elem < n && t.Len == 0 && len(t.Fields) == 0
	case 5:
		names := map[string]int{}
		for _, f := range t.Fields {
			names[f.Name]++
			if !aName.MatchString(f.Name) || f.Type < 0 || f.Type > i-1 {
				return false
			}
		}
		return t.Elem == 0 && t.Len == 0 && len(names) == len(t.Fields) && 1 <= len(names) && len(names) <= 8
	case 6:
		return 0 <= t.Elem && t.Elem <= i-1 && 1 <= t.Len && t.Len <= 16 && len(t.Fields) == 0
	}
	return false
}

func oracleCheck(l []api.Type) api.Errno {
	if len(l) > 32 {
		return api.ErrBad
	}
	for i, t := range l {
		if !oracleIsType(t, i, len(l)) {
			return api.ErrBad
		}
	}
	known := map[[2]int]*big.Int{}
	for i := range l {
		if oracleWidth(l, i, 3, known).Cmp(big.NewInt(5000)) > 0 {
			return api.ErrBad
		}
	}
	return api.OK
}

// someType is a type whose parts are before i, and which leads to one of n types.
func someType(r *rand.Rand, i, n int) api.Type {
	kind := uint8(1 + r.IntN(7))
	if i == 0 && (kind == api.KindStruct || kind == api.KindArray) {
		kind = api.KindPointer
	}
	switch kind {
	case api.KindPointer:
		return pointerTo(r.IntN(n))
	case api.KindSlice:
		return sliceOf(r.IntN(n))
	case api.KindArray:
		return arrayOf(1+r.IntN(3)*r.IntN(6), r.IntN(i))
	case api.KindStruct:
		types := make([]int, 1+r.IntN(3))
		for f := range types {
			types[f] = r.IntN(i)
		}
		t := structOf(types...)
		if r.IntN(4) == 0 {
			t = named(t, "z")
		}
		return t
	}
	return api.Type{Kind: kind}
}

// someTable is a table of at most most types, which may be too wide.
func someTable(r *rand.Rand, most int) []api.Type {
	n := 1 + r.IntN(most)
	l := make([]api.Type, n)
	for i := range l {
		l[i] = someType(r, i, n)
	}
	return l
}

// validTables calls f with many different valid tables.
func validTables(seed uint64, count, most int, f func([]api.Type)) {
	r := rule(seed)
	for count > 0 {
		if l := someTable(r, most); oracleCheck(l) == api.OK {
			f(l)
			count--
		}
	}
}

// spoiled changes one number or name of the table.
func spoiled(r *rand.Rand, l []api.Type) []api.Type {
	l = copied(l)
	t := &l[r.IntN(len(l))]
	numbers := []int{-1, 0, 1, 2, len(l) - 1, len(l), 16, 17, math.MaxInt, math.MinInt, r.IntN(len(l))}
	number := numbers[r.IntN(len(numbers))]
	switch r.IntN(6) {
	case 0:
		t.Kind = uint8(r.IntN(10))
	case 1:
		t.Elem = number
	case 2:
		t.Len = number
	case 3:
		t.Fields = append(t.Fields, api.Field{Name: []string{"a", "y", "", "0"}[r.IntN(4)], Type: max(0, r.IntN(len(l))-1)})
	default:
		if len(t.Fields) == 0 {
			break
		}
		f := &t.Fields[r.IntN(len(t.Fields))]
		if r.IntN(2) == 0 {
			f.Type = number
		} else {
			f.Name = []string{"", "a", "b", "Z9", "a-", strings.Repeat("n", 17)}[r.IntN(6)]
		}
	}
	return l
}

func checkTable(t *testing.T, l []api.Type, want api.Errno) {
	t.Helper()
	if e := Check(l); e != want {
		t.Errorf("Check of %s: error %d, not %d", told(l), e, want)
	}
}

func checkHolds(t *testing.T, l []api.Type, i, k int, want bool) {
	t.Helper()
	if is, e := Holds(l, i, k); is != want || e != api.OK {
		t.Errorf("Holds of %d and %d in %s: %t, error %d", i, k, told(l), is, e)
	}
}

func checkDepth(t *testing.T, l []api.Type, i, want int) {
	t.Helper()
	if d, e := Depth(l, i); d != want || e != api.OK {
		t.Errorf("Depth of %d in %s: %d, error %d, not %d", i, told(l), d, e, want)
	}
}

func checkReach(t *testing.T, l []api.Type, i int, want ...int) {
	t.Helper()
	if r, e := Reach(l, i); !slices.Equal(r, want) || e != api.OK {
		t.Errorf("Reach of %d in %s: %v, error %d, not %v", i, told(l), r, e, want)
	}
}

func checkSame(t *testing.T, l []api.Type, i, k int, want bool) {
	t.Helper()
	if is, e := Same(l, i, k); is != want || e != api.OK {
		t.Errorf("Same of %d and %d in %s: %t, error %d", i, k, told(l), is, e)
	}
	if is, e := Same(l, k, i); is != want || e != api.OK {
		t.Errorf("Same of %d and %d in %s: %t, error %d", k, i, told(l), is, e)
	}
}

func checkWidth(t *testing.T, l []api.Type, i, want int) {
	t.Helper()
	if w, e := Width(l, i); w != want || e != api.OK {
		t.Errorf("Width of %d in %s: %d, error %d, not %d", i, told(l), w, e, want)
	}
}

// checkErrors calls all functions with an index; with two, the other one is good.
func checkErrors(t *testing.T, l []api.Type, i, good int, want api.Errno) {
	t.Helper()
	for _, pair := range [][2]int{{i, good}, {good, i}, {i, i}} {
		if is, e := Holds(l, pair[0], pair[1]); is || e != want {
			t.Errorf("Holds of %d in %s: %t, error %d, not %d", pair, told(l), is, e, want)
		}
		if is, e := Same(l, pair[0], pair[1]); is || e != want {
			t.Errorf("Same of %d in %s: %t, error %d, not %d", pair, told(l), is, e, want)
		}
	}
	if d, e := Depth(l, i); d != 0 || e != want {
		t.Errorf("Depth of %d in %s: %d, error %d, not %d", i, told(l), d, e, want)
	}
	if r, e := Reach(l, i); len(r) != 0 || e != want {
		t.Errorf("Reach of %d in %s: %v, error %d, not %d", i, told(l), r, e, want)
	}
	if w, e := Width(l, i); w != 0 || e != want {
		t.Errorf("Width of %d in %s: %d, error %d, not %d", i, told(l), w, e, want)
	}
}

// checkBad is of tables that are not valid: this is named first, whatever the indices are.
func checkBad(t *testing.T, l []api.Type) {
	t.Helper()
	checkTable(t, l, api.ErrBad)
	for _, i := range []int{0, -1, len(l) - 1, len(l)} {
		checkErrors(t, l, i, 0, api.ErrBad)
	}
}

// P4.1

func TestNames(t *testing.T) {
	for s, want := range map[string]bool{
		"a": true, "z": true, "A": true, "Z": true, "main": true, "x1": true, "a0": true, "a9": true, "Z0z9": true, "aaa": true,
		strings.Repeat("n", api.MaxName-1): true, strings.Repeat("n", api.MaxName): true, "Z" + strings.Repeat("0", api.MaxName-1): true,
		strings.Repeat("n", api.MaxName+1): false, strings.Repeat("n", 1000): false, "n" + strings.Repeat("0", api.MaxName): false,
		"": false, "0": false, "9": false, "1a": false, "0a": false, " ": false, " a": false, "a ": false, "a b": false, "a\n": false, "\na": false, "\x00": false, "a\x00": false,
		"_": false, "_a": false, "a_b": false, "a-b": false, "a.b": false, "-": false, "a+": false, "@": false, "[": false, "`": false, "{": false, "a/": false, "a:": false,
		"\u00e4": false, "a\u00e4": false, "\u0430": false, "a\u0661": false, "\uff41": false, "a\xff": false, "\xff": false, "\"a\"": false,
	} {
		if is := Named(s); is != want {
			t.Errorf("Named of %q: %t", s, is)
		}
	}
}

func TestNamesOfEachByteAtEachPlace(t *testing.T) {
	for size := 1; size <= api.MaxName+2; size++ {
		for at := range size {
			for c := range 256 {
				b := []byte(strings.Repeat("n", size))
				b[at] = byte(c)
				if is := Named(string(b)); is != aName.Match(b) {
					t.Errorf("Named of %q: %t", b, is)
				}
			}
		}
	}
}

func TestCheckOfValidTables(t *testing.T) {
	full := structOf(0, 0, 0, 0, 0, 0, 0, 0)
	long := make([]api.Type, api.MaxTypes)
	for i := range long {
		long[i] = pointerTo(i)
	}
	for _, l := range [][]api.Type{
		nil, {}, {aBool}, {anInt}, {aText}, {aText, aText, anInt, aBool},
		{pointerTo(0)}, {sliceOf(0)}, {pointerTo(1), pointerTo(0)}, {sliceOf(2), anInt, pointerTo(0)}, {pointerTo(2), anInt, structOf(0, 1)},
		{anInt, arrayOf(1, 0)}, {anInt, arrayOf(api.MaxLen, 0)}, {anInt, arrayOf(2, 0), arrayOf(3, 1), arrayOf(4, 2)},
		{anInt, structOf(0)}, {anInt, full}, {anInt, aText, structOf(1, 0), structOf(2, 1, 0, 2)}, {anInt, structOf(0), structOf(0)},
		{anInt, named(structOf(0, 0), "a", "A")}, {anInt, named(structOf(0, 0, 0), "n", "n1", "n11")}, {anInt, named(structOf(0), strings.Repeat("n", api.MaxName))},
		{anInt, pointerTo(2), structOf(0, 1), pointerTo(4), structOf(0, 3)},
		long,
	} {
		checkTable(t, l, api.OK)
		for i := range l {
			if len(l[i].Fields) == 0 {
				l = copied(l)
				l[i].Fields = []api.Field{}
				checkTable(t, l, api.OK)
			}
		}
	}
}

func TestCheckOfAllKinds(t *testing.T) {
	for kind := range 256 {
		// A table, and whether this kind is one that it may have at its end.
		for _, c := range []struct {
			last  api.Type
			valid bool
		}{
			{api.Type{}, kind == 1 || kind == 2 || kind == 3 || kind == 4 || kind == 7},
			{api.Type{Elem: 1}, kind == 4 || kind == 7},
			{api.Type{Elem: 1, Len: 1}, false},
			{api.Type{Len: 1}, kind == 6},
			{structOf(0), kind == 5},
		} {
			c.last.Kind = uint8(kind)
			want := api.ErrBad
			if c.valid {
				want = api.OK
			}
			checkTable(t, []api.Type{anInt, c.last}, want)
			checkTable(t, []api.Type{anInt, c.last, aText}, want)
		}
	}
}

func TestCheckOfNumbersThatAKindDoesNotHave(t *testing.T) {
	for _, n := range []int{1, -1, 2, 17, math.MaxInt, math.MinInt} {
		for _, u := range []api.Type{aBool, anInt, aText, structOf(0)} {
			u.Elem = n
			checkBad(t, []api.Type{anInt, u, aText, aText})
		}
		for _, u := range []api.Type{aBool, anInt, aText, structOf(0), pointerTo(0), sliceOf(0)} {
			u.Len = n
			checkBad(t, []api.Type{anInt, u, aText, aText})
		}
	}
	for _, u := range []api.Type{aBool, anInt, aText, pointerTo(0), sliceOf(0), arrayOf(1, 0)} {
		u.Fields = structOf(0).Fields
		checkBad(t, []api.Type{anInt, u, aText, aText})
	}
}

func TestCheckOfIndices(t *testing.T) {
	before := []api.Type{anInt, aBool, aText}
	behind := []api.Type{aText, anInt}
	for _, to := range []int{math.MinInt, -1 << 32, -2, -1, 0, 1, 2, 3, 4, 5, 6, 7, 31, 32, 1 << 32, math.MaxInt} {
		isPart := to == 0 || to == 1 || to == 2
		for _, c := range []struct {
			last  api.Type
			valid bool
		}{
			{pointerTo(to), isPart || to == 3 || to == 4 || to == 5},
			{sliceOf(to), isPart || to == 3 || to == 4 || to == 5},
			{arrayOf(2, to), isPart},
			{structOf(to), isPart},
			{structOf(to, 0), isPart},
			{structOf(0, 1, to), isPart},
		} {
			l := slices.Concat(before, []api.Type{c.last}, behind)
			if c.valid {
				checkTable(t, l, api.OK)
			} else {
				checkBad(t, l)
			}
		}
	}
}

func TestCheckOfLengths(t *testing.T) {
	for n := -3; n < 40; n++ {
		want := api.ErrBad
		if n >= 1 && n <= api.MaxLen {
			want = api.OK
		}
		checkTable(t, []api.Type{anInt, arrayOf(n, 0)}, want)
	}
	for _, n := range []int{math.MinInt, -1 << 32, 1<<32 + 1, 1 << 62, math.MaxInt} {
		checkBad(t, []api.Type{anInt, arrayOf(n, 0)})
	}
}

func TestCheckOfFields(t *testing.T) {
	many := make([]int, api.MaxFields+1)
	checkTable(t, []api.Type{anInt, structOf(many[:api.MaxFields]...)}, api.OK)
	checkBad(t, []api.Type{anInt, structOf(many...)})
	checkBad(t, []api.Type{anInt, structOf()})
	checkBad(t, []api.Type{anInt, {Kind: api.KindStruct, Fields: []api.Field{}}})
	for _, s := range []string{"", "0", "1a", "a b", "a_", "\u00e4", "a\x00", strings.Repeat("n", api.MaxName+1)} {
		checkBad(t, []api.Type{anInt, named(structOf(0), s)})
		checkBad(t, []api.Type{anInt, named(structOf(0, 0, 0), "x", s)})
		checkBad(t, []api.Type{anInt, named(structOf(0, 0, 0), "x", "y", s)})
	}
	for at := range api.MaxFields {
		for other := range api.MaxFields {
			l := []api.Type{anInt, structOf(many[:api.MaxFields]...)}
			l[1].Fields[at].Name = l[1].Fields[other].Name
			if at != other {
				checkBad(t, l)
			}
		}
	}
}

func TestCheckOfAsManyTypesAsAreAllowed(t *testing.T) {
	for _, u := range []api.Type{aBool, anInt, aText, pointerTo(0), sliceOf(1)} {
		for size, want := range map[int]api.Errno{31: api.OK, 32: api.OK, 33: api.ErrBad, 34: api.ErrBad, 100: api.ErrBad, 100000: api.ErrBad} {
			checkTable(t, slices.Repeat([]api.Type{u}, size), want)
		}
	}
	checkBad(t, slices.Repeat([]api.Type{anInt}, api.MaxTypes+1))
}

// wide has a struct at its end, of the width 5000 + more.
func wide(more int) []api.Type {
	return []api.Type{anInt, arrayOf(16, 0), arrayOf(16, 1), arrayOf(16, 2), arrayOf(15+more, 0), structOf(3, 2, 2, 1, 1, 1, 1, 4)}
}

func TestCheckOfWidths(t *testing.T) {
	checkWidth(t, wide(-1), 5, api.MaxWidth-1)
	checkWidth(t, wide(0), 5, api.MaxWidth)
	checkBad(t, wide(1))
	// One pointer more is one value more; what is behind three of them does not count.
	checkWidth(t, append(wide(-1), pointerTo(5)), 6, api.MaxWidth)
	checkBad(t, append(wide(0), pointerTo(5)))
	checkBad(t, append(wide(-1), pointerTo(5), pointerTo(6)))
	checkWidth(t, append(wide(-1), structOf(5)), 6, api.MaxWidth)
	checkBad(t, append(wide(0), structOf(5)))
	checkBad(t, append(wide(-1), structOf(5, 0)))
	checkWidth(t, append(wide(-1), arrayOf(1, 5)), 6, api.MaxWidth)
	checkBad(t, append(wide(0), arrayOf(1, 5)))
	checkBad(t, append(wide(-1), arrayOf(2, 5)))
	checkBad(t, append(wide(-1), sliceOf(5)))
	// A slice counts as often as it may be long, and three of them are followed.
	checkWidth(t, []api.Type{sliceOf(0)}, 0, 4369)
	checkBad(t, []api.Type{sliceOf(1), structOf(0, 0)})
	checkWidth(t, []api.Type{anInt, arrayOf(16, 0), structOf(1, 0), sliceOf(2), sliceOf(3)}, 4, 1+16*(1+16*19))
	checkBad(t, []api.Type{anInt, arrayOf(16, 0), structOf(1, 0, 0), sliceOf(2), sliceOf(3)})
}

func TestCheckOfWidthsThatNoNumberHas(t *testing.T) {
	for size := 4; size <= api.MaxTypes; size++ {
		for n := 5; n <= api.MaxLen; n++ {
			arrays, structs := []api.Type{anInt}, []api.Type{anInt}
			for i := 1; i < size; i++ {
				arrays = append(arrays, arrayOf(n, i-1))
				structs = append(structs, structOf(slices.Repeat([]int{i - 1}, min(n, api.MaxFields))...))
			}
			checkTable(t, arrays, oracleCheck(arrays))
			checkTable(t, structs, oracleCheck(structs))
		}
	}
	for size := 2; size <= api.MaxTypes; size++ {
		// Each one leads to the next, and all of them to the widest one by one more.
		slicesOfSlices := make([]api.Type, size)
		for i := range slicesOfSlices {
			slicesOfSlices[i] = sliceOf((i + 1) % size)
		}
		checkTable(t, slicesOfSlices, api.OK)
		slicesOfSlices[size-1] = structOf(slices.Repeat([]int{0}, 7)...)
		checkBad(t, slicesOfSlices)
	}
}

func TestCheckSeesEachType(t *testing.T) {
	bad := []api.Type{{}, {Kind: 8}, {Kind: api.KindInt, Len: 1}, pointerTo(-1), sliceOf(99), structOf(), arrayOf(0, 0), arrayOf(2, 31), structOf(31)}
	for _, u := range bad {
		for at := range api.MaxTypes {
			l := slices.Repeat([]api.Type{anInt}, api.MaxTypes)
			l[at] = u
			checkTable(t, l, api.ErrBad)
		}
	}
}

func TestCheckIsThatOfTheChapter(t *testing.T) {
	r := rule(1)
	count := map[api.Errno]int{}
	for range 6000 {
		l := someTable(r, 12)
		for range 4 {
			want := oracleCheck(l)
			checkTable(t, l, want)
			count[want]++
			l = spoiled(r, l)
		}
	}
	if count[api.OK] < 2000 || count[api.ErrBad] < 2000 {
		t.Errorf("the tables are too much alike: %v", count)
	}
}

func TestErrorsInTheirOrder(t *testing.T) {
	valid := []api.Type{pointerTo(2), anInt, structOf(0, 1)}
	for _, i := range []int{math.MinInt, -1 << 32, -2, -1, 3, 4, api.MaxTypes, 1 << 32, math.MaxInt} {
		for good := range valid {
			checkErrors(t, valid, i, good, api.ErrArg)
			// That the table is not valid is named first.
			checkErrors(t, append(copied(valid), api.Type{}), i, good, api.ErrBad)
		}
	}
	for _, i := range []int{math.MinInt, -1, 0, 1, math.MaxInt} {
		checkErrors(t, nil, i, i, api.ErrArg)
		checkErrors(t, []api.Type{}, i, i, api.ErrArg)
		checkErrors(t, []api.Type{{}}, i, i, api.ErrBad)
	}
	// A type is of the table only if it is within its length.
	checkErrors(t, valid[:2:2], 2, 0, api.ErrBad)
	checkErrors(t, []api.Type{anInt, aText, aBool}[:2], 2, 0, api.ErrArg)
}

// P4.2

// list is the table of the chapter's examples, with the types that it adds.
func list() []api.Type {
	next := func(i int) api.Type { return named(structOf(0, i), "a", "next") }
	return []api.Type{anInt, pointerTo(2), next(1), pointerTo(4), next(3)}
}

func TestExamples(t *testing.T) {
	l := list()[:3]
	checkTable(t, l, api.OK)
	checkDepth(t, l, 2, 2)
	checkHolds(t, l, 2, 0, true)
	checkHolds(t, l, 2, 1, true)
	checkReach(t, l, 2, 0, 1, 2)
	checkReach(t, l, 1, 0, 1, 2)
	checkWidth(t, l, 2, 12)
	l = list()
	checkSame(t, l, 2, 4, true)
	checkSame(t, l, 1, 3, true)
	l[3] = pointerTo(2)
	checkSame(t, l, 2, 4, true)
	checkSame(t, l, 1, 3, true)
}

func TestHolds(t *testing.T) {
	// A bool in an array in a struct in an array in a struct; a pointer and a slice hold nothing but themselves.
	l := []api.Type{aBool, arrayOf(2, 0), structOf(0, 1), arrayOf(3, 2), structOf(5, 3), pointerTo(4), sliceOf(4), structOf(6, 5)}
	l[4] = structOf(3)
	for i, all := range [][]int{{0}, {0, 1}, {0, 1, 2}, {0, 1, 2, 3}, {0, 1, 2, 3, 4}, {5}, {6}, {5, 6, 7}} {
		for k := range l {
			checkHolds(t, l, i, k, slices.Contains(all, k))
		}
	}
	// Alike is not the same.
	checkHolds(t, []api.Type{anInt, anInt, structOf(1)}, 2, 0, false)
	checkHolds(t, []api.Type{anInt, anInt, structOf(1)}, 2, 1, true)
}

func TestDepth(t *testing.T) {
	l := []api.Type{aBool, anInt, aText, pointerTo(8), sliceOf(0), arrayOf(2, 0), structOf(3, 4), structOf(5, 0), structOf(0, 7, 6, 1), arrayOf(16, 8)}
	for i, want := range []int{1, 1, 1, 1, 1, 2, 2, 3, 4, 5} {
		checkDepth(t, l, i, want)
	}
	deep := []api.Type{anInt}
	for i := 1; i < api.MaxTypes; i++ {
		deep = append(deep, arrayOf(1, i-1))
	}
	checkDepth(t, deep, api.MaxTypes-1, api.MaxTypes)
	deep[20] = pointerTo(19)
	checkDepth(t, deep, api.MaxTypes-1, api.MaxTypes-20)
	checkDepth(t, deep, 19, 20)
}

func TestReach(t *testing.T) {
	l := []api.Type{pointerTo(3), aText, sliceOf(5), structOf(1, 2), pointerTo(4), arrayOf(2, 1), anInt, structOf(6, 6)}
	for i, want := range [][]int{{0, 1, 2, 3, 5}, {1}, {1, 2, 5}, {1, 2, 3, 5}, {4}, {1, 5}, {6}, {6, 7}} {
		checkReach(t, l, i, want...)
	}
	ring := make([]api.Type, api.MaxTypes)
	all := make([]int, api.MaxTypes)
	for i := range ring {
		ring[i] = pointerTo((i + 7) % api.MaxTypes)
		all[i] = i
	}
	for i := range ring {
		checkReach(t, ring, i, all...)
	}
}

func TestHoldsDepthAndReachAreThoseOfTheChapter(t *testing.T) {
	validTables(2, 1500, 14, func(l []api.Type) {
		for i := range l {
			checkDepth(t, l, i, oracleDepth(l, i))
			checkReach(t, l, i, oracleReach(l, i)...)
			for k := range l {
				checkHolds(t, l, i, k, oracleHolds(l, i, k))
			}
		}
	})
}

// P4.3

func TestSameOfDifferentKinds(t *testing.T) {
	l := []api.Type{aBool, anInt, aText, pointerTo(1), sliceOf(1), arrayOf(1, 1), structOf(1)}
	for i := range l {
		for k := range l {
			checkSame(t, l, i, k, i == k)
		}
	}
}

func TestSameLooksAtAllOfAType(t *testing.T) {
	base := []api.Type{anInt, aBool, anInt}
	of := func(u, v api.Type) []api.Type { return append(slices.Clone(base), u, v) }
	for _, c := range []struct {
		one, other api.Type
		want       bool
	}{
		{pointerTo(0), pointerTo(2), true},
		{pointerTo(0), pointerTo(1), false},
		{pointerTo(0), sliceOf(0), false},
		{sliceOf(0), sliceOf(2), true},
		{sliceOf(0), sliceOf(1), false},
		{arrayOf(2, 0), arrayOf(2, 2), true},
		{arrayOf(2, 0), arrayOf(3, 0), false},
		{arrayOf(2, 0), arrayOf(2, 1), false},
		{structOf(0, 1), structOf(2, 1), true},
		{structOf(0, 1), structOf(1, 0), false},
		{structOf(0, 1), structOf(0), false},
		{structOf(0, 0), structOf(0), false},
		{structOf(0, 1), structOf(0, 0), false},
		{structOf(0), named(structOf(0), "A"), false},
		{structOf(0, 0), named(structOf(0, 0), "a", "c"), false},
		{structOf(0, 0), named(structOf(0, 0), "b", "a"), false},
		{structOf(0, 0, 0, 0, 0, 0, 0, 0), structOf(2, 2, 2, 2, 2, 2, 2, 2), true},
		{structOf(0, 0, 0, 0, 0, 0, 0, 0), structOf(2, 2, 2, 2, 2, 2, 2, 1), false},
		{pointerTo(3), pointerTo(4), true},
		{pointerTo(4), pointerTo(3), true},
		{pointerTo(3), pointerTo(0), false},
		{pointerTo(4), sliceOf(3), false},
		{sliceOf(4), sliceOf(3), true},
	} {
		l := of(c.one, c.other)
		checkSame(t, l, 3, 4, c.want)
		// What leads to them is alike, too, if they are, however it does.
		for _, way := range []func(int) api.Type{pointerTo, sliceOf, func(i int) api.Type { return structOf(i) }, func(i int) api.Type { return arrayOf(1, i) }} {
			checkSame(t, append(slices.Clone(l), way(3), way(4)), 5, 6, c.want)
		}
	}
}

func TestSameGoesRoundAndRound(t *testing.T) {
	// Two rings of 2 and of 3 pointers are the same way for ever; one with a way out at some place is not.
	rings := []api.Type{pointerTo(1), pointerTo(0), pointerTo(3), pointerTo(4), pointerTo(2)}
	for i := range rings {
		for k := range rings {
			checkSame(t, rings, i, k, true)
		}
	}
	chain := make([]api.Type, api.MaxTypes)
	for i := range chain {
		chain[i] = pointerTo(min(i+1, api.MaxTypes-1))
	}
	checkSame(t, chain, 0, api.MaxTypes-1, true)
	chain[api.MaxTypes-1] = anInt
	for i := range chain {
		checkSame(t, chain, 0, i, i == 0)
	}
	// Two ways from a struct: the second one differs, though both pairs are seen on the first one.
	l := []api.Type{anInt, pointerTo(5), pointerTo(6), aText, aBool, structOf(1, 0), structOf(2, 3)}
	checkSame(t, l, 5, 6, false)
	checkSame(t, l, 1, 2, false)
	l[6] = structOf(1, 0)
	checkSame(t, l, 5, 6, true)
	checkSame(t, l, 1, 2, true)
}

func TestSameOfEmptyFields(t *testing.T) {
	l := []api.Type{anInt, {Kind: api.KindInt, Fields: []api.Field{}}, pointerTo(0), {Kind: api.KindPointer, Elem: 1, Fields: []api.Field{}}}
	checkSame(t, l, 0, 1, true)
	checkSame(t, l, 2, 3, true)
}

func TestWidth(t *testing.T) {
	l := []api.Type{aBool, anInt, aText, arrayOf(3, 1), arrayOf(16, 3), structOf(0, 3, 2), pointerTo(1), pointerTo(6), pointerTo(7), pointerTo(8), pointerTo(9), sliceOf(1), sliceOf(0), sliceOf(6)}
	for i, want := range []int{1, 1, 1, 4, 65, 7, 2, 3, 4, 4, 4, 17, 17, 33} {
		checkWidth(t, l, i, want)
	}
	// What three pointers lead to is not followed further; what is no pointer is.
	l = []api.Type{anInt, structOf(0, 0, 0), pointerTo(1), pointerTo(2), structOf(3, 3), pointerTo(4), structOf(5, 1)}
	for i, want := range []int{1, 4, 5, 6, 13, 14, 19} {
		checkWidth(t, l, i, want)
	}
	checkWidth(t, []api.Type{pointerTo(0)}, 0, 4)
	checkWidth(t, []api.Type{pointerTo(1), sliceOf(0)}, 0, 1+1+16*(1+1))
	checkWidth(t, []api.Type{pointerTo(1), sliceOf(0)}, 1, 1+16*(1+1+16))
}

func TestSameAndWidthAreThoseOfTheChapter(t *testing.T) {
	found := map[bool]int{}
	check := func(l []api.Type) {
		alike := oracleAlike(l)
		for i := range l {
			w := oracleWidth(l, i, 3, map[[2]int]*big.Int{})
			checkWidth(t, l, i, int(w.Int64()))
			for k := range l {
				want := alike[[2]int{i, k}]
				checkSame(t, l, i, k, want)
				if i < k {
					found[want]++
				}
			}
		}
	}
	validTables(3, 700, 14, check)
	r := rule(4)
	validTables(5, 300, 8, func(l []api.Type) { check(twice(r, l)) })
	if found[true] < 1000 || found[false] < 1000 {
		t.Errorf("the types are too much alike: %v", found)
	}
}

// twice has the table two times: what leads to one of the types may lead to its copy.
func twice(r *rand.Rand, l []api.Type) []api.Type {
	both := append(copied(l), copied(l)...)
	for i := range both {
		u := &both[i]
		second := i >= len(l)
		if (u.Kind == api.KindArray && second || u.Kind == api.KindPointer || u.Kind == api.KindSlice) && r.IntN(2) == 0 {
			u.Elem += len(l)
		}
		if u.Kind == api.KindArray && second && u.Elem >= i {
			u.Elem -= len(l)
		}
		for f := range u.Fields {
			if second && u.Fields[f].Type+len(l) < i && r.IntN(2) == 0 {
				u.Fields[f].Type += len(l)
			}
		}
	}
	return both
}

func TestATypeIsAlikeItsCopy(t *testing.T) {
	r := rule(6)
	validTables(7, 300, 16, func(l []api.Type) {
		both := twice(r, l)
		for i := range l {
			checkSame(t, both, i, i+len(l), true)
			w, e := Width(both, i)
			checkWidth(t, both, i+len(l), w)
			checkWidth(t, l, i, w)
			if e != api.OK {
				t.Errorf("Width of %d in %s: error %d", i, told(both), e)
			}
		}
	})
}

// P4.4

// answers are what there is to be known of all types of a table.
type answers struct {
	holds, same [][]bool
	reach       [][]int
	depth       []int
	width       []int
}

func asked(t *testing.T, l []api.Type) answers {
	t.Helper()
	a := answers{}
	for i := range l {
		depth, e1 := Depth(l, i)
		width, e2 := Width(l, i)
		reach, e3 := Reach(l, i)
		a.depth, a.width, a.reach = append(a.depth, depth), append(a.width, width), append(a.reach, reach)
		a.holds, a.same = append(a.holds, make([]bool, len(l))), append(a.same, make([]bool, len(l)))
		for k := range l {
			var e4, e5 api.Errno
			a.holds[i][k], e4 = Holds(l, i, k)
			a.same[i][k], e5 = Same(l, i, k)
			if e := max(e1, e2, e3, e4, e5); e != api.OK {
				t.Fatalf("type %d of %s: error %d", i, told(l), e)
			}
		}
	}
	return a
}

func TestTypesAreWellFounded(t *testing.T) {
	validTables(8, 400, 16, func(l []api.Type) {
		a := asked(t, l)
		for i := range l {
			if !a.holds[i][i] {
				t.Errorf("%d of %s does not hold itself", i, told(l))
			}
			for k := range l {
				if a.holds[i][k] && (k > i || k != i && a.depth[k] >= a.depth[i]) {
					t.Errorf("%d of %s holds %d; the depths are %v", i, told(l), k, a.depth)
				}
				if a.holds[i][k] && !slices.Contains(a.reach[i], k) {
					t.Errorf("%d of %s holds %d, and reaches %v", i, told(l), k, a.reach[i])
				}
				for m := range l {
					if a.holds[i][k] && a.holds[k][m] && !a.holds[i][m] {
						t.Errorf("%d of %s does not hold %d, which %d holds", i, told(l), m, k)
					}
				}
			}
		}
	})
}

func TestWhatIsReachedIsClosed(t *testing.T) {
	validTables(9, 400, 16, func(l []api.Type) {
		a := asked(t, l)
		for i, r := range a.reach {
			if !slices.IsSorted(r) || !slices.Contains(r, i) {
				t.Errorf("%d of %s reaches %v", i, told(l), r)
			}
			for _, k := range r {
				for _, n := range oracleLeads(l[k]) {
					if !slices.Contains(r, n) {
						t.Errorf("%d of %s reaches %v without %d", i, told(l), r, n)
					}
				}
				from := slices.ContainsFunc(r, func(m int) bool { return slices.Contains(oracleLeads(l[m]), k) })
				if k != i && !from {
					t.Errorf("%d of %s reaches %d, to which nothing leads", i, told(l), k)
				}
			}
		}
	})
}

func TestBeingAlikeIsAnEquivalence(t *testing.T) {
	r := rule(10)
	validTables(11, 250, 8, func(l []api.Type) {
		l = twice(r, l)
		a := asked(t, l)
		for i := range l {
			if !a.same[i][i] {
				t.Errorf("%d of %s is not alike itself", i, told(l))
			}
			for k := range l {
				if a.same[i][k] != a.same[k][i] {
					t.Errorf("%d and %d of %s are alike in one order alone", i, k, told(l))
				}
				if !a.same[i][k] {
					continue
				}
				if a.depth[i] != a.depth[k] || a.width[i] != a.width[k] {
					t.Errorf("%d and %d of %s are alike; the depths are %v, the widths %v", i, k, told(l), a.depth, a.width)
				}
				others := oracleLeads(l[k])
				for n, m := range oracleLeads(l[i]) {
					if !a.same[m][others[n]] {
						t.Errorf("%d and %d of %s are alike, and %d and %d are not", i, k, told(l), m, others[n])
					}
				}
				for m := range l {
					if a.same[k][m] && !a.same[i][m] {
						t.Errorf("%d of %s is alike %d, and not %d", i, told(l), k, m)
					}
				}
			}
		}
	})
}

func TestMoreTypesChangeNothingAboutTheOnesBefore(t *testing.T) {
	r := rule(12)
	validTables(13, 400, 10, func(l []api.Type) {
		more := copied(l)
		for range 4 {
			more = append(more, someType(r, len(more), len(more)+1))
		}
		if oracleCheck(more) != api.OK {
			return
		}
		a, b := asked(t, l), asked(t, more)
		for i := range l {
			if a.depth[i] != b.depth[i] || a.width[i] != b.width[i] || !slices.Equal(a.reach[i], b.reach[i]) || !slices.Equal(a.holds[i], b.holds[i][:len(l)]) || !slices.Equal(a.same[i], b.same[i][:len(l)]) {
				t.Errorf("%d of %s is another one in %s", i, told(l), told(more))
			}
		}
	})
}

// R2: arguments are only read, and results share no memory.

func TestArgumentsAreOnlyRead(t *testing.T) {
	validTables(14, 50, 10, func(l []api.Type) {
		// There is room behind the table, and behind the fields, that belongs to somebody else.
		room := append(copied(l), aText, structOf(1, 2))
		for i := range room {
			room[i].Fields = append(slices.Clone(room[i].Fields), api.Field{Name: "mine", Type: 9})[:len(room[i].Fields)]
		}
		kept := copied(room)
		asked(t, room[:len(l)])
		Check(room[:0])
		checkErrors(t, room[:len(l)], -1, 0, api.ErrArg)
		if !equal(room, kept) {
			t.Errorf("%s has become %s", told(kept), told(room))
		}
		for i := range room {
			if f := room[i].Fields; f[:len(f)+1][len(f)] != (api.Field{Name: "mine", Type: 9}) {
				t.Errorf("what is behind the fields of %d has become %v", i, f[:len(f)+1])
			}
		}
	})
}

func TestResultsShareNoMemory(t *testing.T) {
	l := list()
	for range 3 {
		r, e := Reach(l, 2)
		other, _ := Reach(l, 2)
		if e != api.OK || !slices.Equal(r, []int{0, 1, 2}) {
			t.Fatalf("%v, error %d", r, e)
		}
		for i := range r[:cap(r)] {
			r[:cap(r)][i] = 99
		}
		if !slices.Equal(other, []int{0, 1, 2}) || !equal(l, list()) {
			t.Errorf("a change of one result is seen in %v, or in %s", other, told(l))
		}
	}
}

func FuzzTables(f *testing.F) {
	f.Add(uint64(1), uint8(3), uint8(0), 0)
	f.Add(uint64(2), uint8(30), uint8(5), -1)
	f.Fuzz(func(t *testing.T, seed uint64, most, changes uint8, i int) {
		r := rule(seed)
		l := someTable(r, int(most)%40+1)
		for range changes % 8 {
			l = spoiled(r, l)
		}
		want := oracleCheck(l)
		checkTable(t, l, want)
		if want == api.OK && (i < 0 || i >= len(l)) {
			want = api.ErrArg
		}
		if want != api.OK {
			checkErrors(t, l, i, 0, want)
			return
		}
		checkDepth(t, l, i, oracleDepth(l, i))
		checkReach(t, l, i, oracleReach(l, i)...)
		checkWidth(t, l, i, int(oracleWidth(l, i, 3, map[[2]int]*big.Int{}).Int64()))
		alike := oracleAlike(l)
		for k := range l {
			checkSame(t, l, i, k, alike[[2]int{i, k}])
			checkHolds(t, l, i, k, oracleHolds(l, i, k))
		}
	})
}
