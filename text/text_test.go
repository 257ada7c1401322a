package text

import (
	"fmt"
	"math"
	"math/big"
	"math/rand/v2"
	"regexp"
	"slices"
	"strings"
	"testing"

	"wreckage/api"
)

// The forms by the words of the chapter. A text in quotes has plain bytes, bytes behind a backslash, and each other byte by its digits.
const (
	quotedForm = `"(?:[ !#-\[\]-~]|\\["\\n]|\\x(?:0[0-9b-f]|1[0-9a-f]|7f|[89a-f][0-9a-f]))*"`
	numberForm = `0|-?[1-9][0-9]*`
	hexForm    = `0x(?:0|[1-9a-f][0-9a-f]*)`
)

var (
	aNumber = regexp.MustCompile(`\A(?:` + numberForm + `)\z`)
	aHex    = regexp.MustCompile(`\A(?:` + hexForm + `)\z`)
	aQuoted = regexp.MustCompile(`\A` + quotedForm + `\z`)
	aList   = regexp.MustCompile(`\A\[(?:` + quotedForm + `(?:, ` + quotedForm + `)*)?\]\z`)
)

// rule gives different numbers, the same ones in each run.
func rule(seed uint64) *rand.Rand {
	return rand.New(rand.NewPCG(seed, 3))
}

func bytesOf(r *rand.Rand, n int) string {
	b := make([]byte, n)
	for i := range b {
		b[i] = byte(r.Uint32())
	}
	return string(b)
}

// wordsOf calls f with each text of at most size letters.
func wordsOf(letters []string, size int, f func(string)) {
	var from func(front string, left int)
	from = func(front string, left int) {
		f(front)
		if left == 0 {
			return
		}
		for _, l := range letters {
			from(front+l, left-1)
		}
	}
	from("", size)
}

func letters(s string) []string {
	return strings.Split(s, "")
}

// short is what is told of a text that may be long.
func short(s string) string {
	if len(s) > 60 {
		return fmt.Sprintf("%q .. (%d bytes)", s[:50], len(s))
	}
	return fmt.Sprintf("%q", s)
}

func checkNumber(t *testing.T, n int64, want string) {
	t.Helper()
	if s := Number(n); s != want {
		t.Errorf("Number of %d: %q, not %q", n, s, want)
	}
	if m, e := Unnumber(want); m != n || e != api.OK {
		t.Errorf("Unnumber of %q: %d, error %d", want, m, e)
	}
}

func checkHex(t *testing.T, n uint64, want string) {
	t.Helper()
	if s := Hex(n); s != want {
		t.Errorf("Hex of %d: %q, not %q", n, s, want)
	}
	if m, e := Unhex(want); m != n || e != api.OK {
		t.Errorf("Unhex of %q: %d, error %d", want, m, e)
	}
}

func checkQuote(t *testing.T, s, want string) {
	t.Helper()
	if q, e := Quote(s); q != want || e != api.OK {
		t.Errorf("Quote of %s: %s, error %d, not %s", short(s), short(q), e, short(want))
	}
	if back, e := Unquote(want); back != s || e != api.OK {
		t.Errorf("Unquote of %s: %s, error %d, not %s", short(want), short(back), e, short(s))
	}
}

func checkList(t *testing.T, l []string, want string) {
	t.Helper()
	if s, e := List(l); s != want || e != api.OK {
		t.Errorf("List of %d texts: %s, error %d, not %s", len(l), short(s), e, short(want))
	}
	if back, e := Unlist(want); !slices.Equal(back, l) || e != api.OK {
		t.Errorf("Unlist of %s: %d texts, error %d, not %d texts", short(want), len(back), e, len(l))
	}
}

func checkNumberError(t *testing.T, s string, want api.Errno) {
	t.Helper()
	if n, e := Unnumber(s); n != 0 || e != want {
		t.Errorf("Unnumber of %s: %d, error %d, not %d", short(s), n, e, want)
	}
}

func checkHexError(t *testing.T, s string, want api.Errno) {
	t.Helper()
	if n, e := Unhex(s); n != 0 || e != want {
		t.Errorf("Unhex of %s: %d, error %d, not %d", short(s), n, e, want)
	}
}

func checkQuotedError(t *testing.T, q string, want api.Errno) {
	t.Helper()
	if s, e := Unquote(q); s != "" || e != want {
		t.Errorf("Unquote of %s: %s, error %d, not %d", short(q), short(s), e, want)
	}
}

func checkUnlistError(t *testing.T, s string, want api.Errno) {
	t.Helper()
	if l, e := Unlist(s); len(l) != 0 || e != want {
		t.Errorf("Unlist of %s: %d texts, error %d, not %d", short(s), len(l), e, want)
	}
}

func checkListError(t *testing.T, l []string, want api.Errno) {
	t.Helper()
	if s, e := List(l); s != "" || e != want {
		t.Errorf("List of %d texts: %s, error %d, not %d", len(l), short(s), e, want)
	}
}

func quoted(t *testing.T, s string) string {
	t.Helper()
	q, e := Quote(s)
	if e != api.OK {
		t.Fatalf("Quote of %s: error %d", short(s), e)
	}
	return q
}

func list(t *testing.T, l []string) string {
	t.Helper()
	s, e := List(l)
	if e != api.OK {
		t.Fatalf("List of %d texts: error %d", len(l), e)
	}
	return s
}

// P3.1

func TestNumbers(t *testing.T) {
	for n, want := range map[int64]string{
		0:             "0",
		1:             "1",
		-1:            "-1",
		9:             "9",
		10:            "10",
		-10:           "-10",
		100:           "100",
		2000:          "2000",
		-1200300:      "-1200300",
		1234567890:    "1234567890",
		1 << 31:       "2147483648",
		-1 << 31:      "-2147483648",
		1<<32 - 1:     "4294967295",
		1 << 53:       "9007199254740992",
		1<<53 + 1:     "9007199254740993",
		math.MaxInt64: "9223372036854775807",
		math.MinInt64: "-9223372036854775808",
	} {
		checkNumber(t, n, want)
	}
}

func TestNumbersToTheBase16(t *testing.T) {
	for n, want := range map[uint64]string{
		0:              "0x0",
		1:              "0x1",
		9:              "0x9",
		10:             "0xa",
		15:             "0xf",
		16:             "0x10",
		255:            "0xff",
		256:            "0x100",
		3735928559:     "0xdeadbeef",
		0x0123456789:   "0x123456789",
		0xabcdef:       "0xabcdef",
		1<<32 - 1:      "0xffffffff",
		1<<53 + 1:      "0x20000000000001",
		1<<63 - 1:      "0x7fffffffffffffff",
		1 << 63:        "0x8000000000000000",
		math.MaxUint64: "0xffffffffffffffff",
	} {
		checkHex(t, n, want)
	}
}

func TestNumbersOfAllSizes(t *testing.T) {
	r := rule(1)
	for range 3000 {
		n := r.Uint64() >> r.UintN(64)
		checkHex(t, n, fmt.Sprintf("0x%x", n))
		checkNumber(t, int64(n), fmt.Sprintf("%d", int64(n)))
		checkNumber(t, -int64(n), fmt.Sprintf("%d", -int64(n)))
	}
	for bit := range 64 {
		for _, by := range []uint64{0, 1, 2} {
			n := uint64(1)<<bit + by - 1
			checkHex(t, n, fmt.Sprintf("0x%x", n))
			checkNumber(t, int64(n), fmt.Sprintf("%d", int64(n)))
			checkNumber(t, -int64(n), fmt.Sprintf("%d", -int64(n)))
		}
	}
	for n := range int64(3000) {
		checkNumber(t, n, fmt.Sprint(n))
		checkNumber(t, -n, fmt.Sprint(-n))
		checkHex(t, uint64(n), fmt.Sprintf("%#x", n))
	}
}

func TestUnnumberOfWhatIsNone(t *testing.T) {
	for _, s := range []string{
		"", "-", "--1", "-0", "00", "007", "-007", "01", "-01", "+1", "+0", " 1", "1 ", "1\n", "\n1", "- 1", "1-", "1-1", "-1-",
		"1.0", ".5", "1e3", "1_000", "1,000", "0x10", "0b1", "0o7", "a", "1a", "a1", "ff", "\x00", "1\x00", "\xff", "1\xff", "\u0661", "\uff11", "\u22121",
		"/", ":", "1/", "1:", "-a", "--", "-+1", "inf", "nil", "true", "\"1\"", "'1'", "00000000000000000000000000000000000000001",
	} {
		checkNumberError(t, s, api.ErrForm)
	}
	for c := range 256 {
		if c >= '0' && c <= '9' {
			continue
		}
		one := string([]byte{byte(c)})
		for _, s := range []string{one, "1" + one, "1" + one + "1", "-1" + one, "-" + one + "1", "12345678901234567890" + one} {
			checkNumberError(t, s, api.ErrForm)
		}
		if c != '-' {
			checkNumberError(t, one+"1", api.ErrForm)
		}
	}
}

func TestUnhexOfWhatIsNone(t *testing.T) {
	for _, s := range []string{
		"", "0", "x", "0x", "0x00", "0x01", "0x0ff", "0X1", "0xA", "0xFF", "0xaF", "0Xff", "ff", "10", "xff", "1xff", "00xff", " 0xff", "0xff ", "0x ff", "0x-1",
		"-0x1", "-0x0", "+0x1", "0x+1", "0x0x1", "0x1_0", "0x_1", "0xg", "0x1g", "0x1.0", "0x1p3", "#ff", "$ff", "ffh", "\\xff", "0x\x00", "0x\xff", "0x\uff11", "0x1\n",
		"0x0000000000000000000000001", "0b1", "0o7",
	} {
		checkHexError(t, s, api.ErrForm)
	}
	for c := range 256 {
		if c >= '0' && c <= '9' || c >= 'a' && c <= 'f' {
			continue
		}
		one := string([]byte{byte(c)})
		for _, s := range []string{one, "0x" + one, "0x" + one + "1", "0x1" + one, "0x1" + one + "1", one + "0x1", "0x12345678901234567" + one} {
			checkHexError(t, s, api.ErrForm)
		}
		if c != 'x' {
			checkHexError(t, "0"+one+"1", api.ErrForm)
		}
	}
}

func TestUnnumberOfNumbersOutOfRange(t *testing.T) {
	for _, s := range []string{
		"9223372036854775808", "-9223372036854775809", "9223372036854775817", "10000000000000000000", "-10000000000000000000",
		"18446744073709551615", "18446744073709551616", "18446744073709551617", "-18446744073709551616", "36893488147419103232",
		"99999999999999999999", "100000000000000000000", "340282366920938463463374607431768211456", "-340282366920938463463374607431768211456",
	} {
		checkNumberError(t, s, api.ErrRange)
	}
	last := new(big.Int).SetInt64(math.MaxInt64)
	for by := int64(1); by < 200; by++ {
		n := new(big.Int).Add(last, big.NewInt(by))
		checkNumberError(t, n.String(), api.ErrRange)
		checkNumberError(t, n.Neg(n.Add(n, big.NewInt(1))).String(), api.ErrRange)
	}
}

func TestUnhexOfNumbersOutOfRange(t *testing.T) {
	for _, s := range []string{
		"0x10000000000000000", "0x10000000000000001", "0x1ffffffffffffffff", "0xfffffffffffffffff", "0x80000000000000000", "0x100000000000000000000000000000000",
	} {
		checkHexError(t, s, api.ErrRange)
	}
}

func TestNumbersOfAsManyBytesAsAreAllowed(t *testing.T) {
	for size, want := range map[int]api.Errno{30: api.ErrRange, 1999: api.ErrRange, api.MaxLine: api.ErrRange, api.MaxLine + 1: api.ErrMany, 5000: api.ErrMany} {
		checkNumberError(t, strings.Repeat("9", size), want)
		checkNumberError(t, "-"+strings.Repeat("1", size-1), want)
		checkHexError(t, "0x"+strings.Repeat("9", size-2), want)
		checkHexError(t, "0x"+strings.Repeat("f", size-2), want)
	}
}

func TestNumberErrorsInTheirOrder(t *testing.T) {
	huge := strings.Repeat("9", api.MaxLine)
	for _, s := range []string{huge[1:] + "x", "-0" + huge[2:], "0" + huge[1:], " " + huge[1:], strings.Repeat("x", api.MaxLine), strings.Repeat("0", api.MaxLine), strings.Repeat("-", api.MaxLine)} {
		checkNumberError(t, s, api.ErrForm)
		checkNumberError(t, s+"9", api.ErrMany)
		checkNumberError(t, s+"x", api.ErrMany)
	}
	for _, s := range []string{"0x" + huge[3:] + "g", "0x0" + huge[3:], "0X" + huge[2:], huge, strings.Repeat("x", api.MaxLine), "0x" + strings.Repeat("0", api.MaxLine-2)} {
		checkHexError(t, s, api.ErrForm)
		checkHexError(t, s+"9", api.ErrMany)
		checkHexError(t, s+"x", api.ErrMany)
	}
	// The first digit alone tells that it is too great, but a later one that there is no number.
	checkNumberError(t, "99999999999999999999x", api.ErrForm)
	checkNumberError(t, "-99999999999999999999-", api.ErrForm)
	checkNumberError(t, "099999999999999999999", api.ErrForm)
	checkHexError(t, "0xfffffffffffffffffG", api.ErrForm)
	checkHexError(t, "0x0fffffffffffffffff", api.ErrForm)
}

func TestReadNumbersAreThoseOfTheChapter(t *testing.T) {
	wordsOf(letters("-019+x a"), 5, func(s string) {
		n, e := Unnumber(s)
		if !aNumber.MatchString(s) {
			checkNumberError(t, s, api.ErrForm)
		} else if e != api.OK || fmt.Sprint(n) != s {
			t.Errorf("Unnumber of %q: %d, error %d", s, n, e)
		}
	})
	wordsOf(letters("01afgxX-"), 5, func(s string) {
		for _, s := range []string{s, "0x" + s} {
			n, e := Unhex(s)
			if !aHex.MatchString(s) {
				checkHexError(t, s, api.ErrForm)
			} else if e != api.OK || fmt.Sprintf("0x%x", n) != s {
				t.Errorf("Unhex of %q: %d, error %d", s, n, e)
			}
		}
	})
}

// P3.2

// form is what a byte is in quotes.
func form(c byte) string {
	switch {
	case c == 34:
		return "\\\""
	case c == 92:
		return "\\\\"
	case c == 10:
		return "\\n"
	case c >= 32 && c <= 126:
		return string([]byte{c})
	}
	return fmt.Sprintf("\\x%02x", c)
}

// inQuotes is a text in quotes, however long it is.
func inQuotes(s string) string {
	q := "\""
	for i := range len(s) {
		q += form(s[i])
	}
	return q + "\""
}

func TestQuoteExamples(t *testing.T) {
	for s, want := range map[string]string{
		"":                `""`,
		"a":               `"a"`,
		"a\"\n\x00":       `"a\"\n\x00"`,
		"it's":            `"it's"`,
		"a\"b":            `"a\"b"`,
		"\\":              `"\\"`,
		"\\n":             `"\\n"`,
		"\\\n":            `"\\\n"`,
		"\\x00":           `"\\x00"`,
		"\\\"":            `"\\\""`,
		"\t\n\xff":        `"\x09\n\xff"`,
		"\r\n":            `"\x0d\n"`,
		"\a\b\f\v":        `"\x07\x08\x0c\x0b"`,
		"\x1f ~\x7f\x80":  `"\x1f ~\x7f\x80"`,
		"\u00e9":          `"\xc3\xa9"`,
		"\u20ac":          `"\xe2\x82\xac"`,
		"\ufffd":          `"\xef\xbf\xbd"`,
		"\xc3":            `"\xc3"`,
		"[\", ]":          `"[\", ]"`,
		"`$%{}`":          "\"`$%{}`\"",
		"\x00\x000":       `"\x00\x000"`,
		"n":               `"n"`,
		"x41":             `"x41"`,
		"\n\n":            `"\n\n"`,
		"\"\"":            `"\"\""`,
		"\x0a\x0b\x09":    `"\n\x0b\x09"`,
		"\x10\xab\xa0":    `"\x10\xab\xa0"`,
		"/'?\u0001":       `"/'?\x01"`,
		"#[]^!":           `"#[]^!"`,
		" leading, last ": `" leading, last "`,
	} {
		checkQuote(t, s, want)
	}
	if q := quoted(t, "a\"\n\x00"); len(q) != 11 {
		t.Errorf("the example has %d bytes", len(q))
	}
}

func TestQuoteOfEachByte(t *testing.T) {
	for c := range 256 {
		one := string([]byte{byte(c)})
		checkQuote(t, one, "\""+form(byte(c))+"\"")
		checkQuote(t, "a"+one, "\"a"+form(byte(c))+"\"")
		checkQuote(t, one+"\\", "\""+form(byte(c))+"\\\\\"")
		checkQuote(t, one+one+"0", "\""+form(byte(c))+form(byte(c))+"0\"")
	}
}

func TestQuoteOfAllPairs(t *testing.T) {
	for x := range 1 << 16 {
		s := string([]byte{byte(x >> 8), byte(x)})
		checkQuote(t, s, "\""+form(s[0])+form(s[1])+"\"")
	}
}

func TestQuoteOfTextsOfAllSizes(t *testing.T) {
	r := rule(2)
	for size := range api.MaxQuote + 1 {
		s := bytesOf(r, size)
		checkQuote(t, s, inQuotes(s))
	}
}

func TestQuoteLimit(t *testing.T) {
	for c := range 256 {
		most := strings.Repeat(string([]byte{byte(c)}), api.MaxQuote)
		checkQuote(t, most, "\""+strings.Repeat(form(byte(c)), api.MaxQuote)+"\"")
		for _, more := range []string{"a", "\x00", strings.Repeat("b", 5000)} {
			if q, e := Quote(most + more); q != "" || e != api.ErrMany {
				t.Errorf("Quote of %d bytes: %s, error %d", len(most+more), short(q), e)
			}
		}
	}
}

func TestUnquoteOfWhatIsNone(t *testing.T) {
	for _, q := range []string{
		``, `"`, `a`, `a"`, `"a`, `a""`, `""a`, ` ""`, `"" `, `"""`, `""""`, `"a"b"`, `"a""b"`, `'a'`, "`a`", `""` + "\n", "\n" + `""`,
		`\`, `\"`, `\"\"`, `"\`, `"\"`, `"\\\"`, `"a\"`, `"\\`, `"\n`, `"\x`, `"\x0`, `"\x00`, `"\x"`, `"\x0"`, `"\x00\"`,
		`"\t"`, `"\r"`, `"\a"`, `"\b"`, `"\f"`, `"\v"`, `"\e"`, `"\0"`, `"\000"`, `"\'"`, `"\/"`, `"\ "`, `"\N"`, `"\u0041"`, `"\u00e9"`, `"\U0001f600"`, `"\X00"`,
		`"\x61"`, `"\x20"`, `"\x7e"`, `"\x22"`, `"\x5c"`, `"\x0a"`, `"\x0A"`, `"\xFF"`, `"\xfF"`, `"\xAb"`, `"\xaB"`, `"\x1F"`, `"\xg0"`, `"\x0g"`, `"\x-1"`, `"\x+1"`, `"\x 1"`, `"\x1 "`, `"\x_1"`, `"\x0"0"`,
		"\"\n\"", "\"\t\"", "\"\x00\"", "\"\x1f\"", "\"\x7f\"", "\"\x80\"", "\"\xff\"", "\"\u00e9\"", "\"\ufffd\"", "\"\\\n\"", "\"\\\x00\"", "\"\\x\x00\x00\"",
		`"ab\x61"`, `"\n\x0a"`, `"\\\x5c"`, `[]`, `["a"]`, `"a", "b"`, `nil`, `0`,
	} {
		checkQuotedError(t, q, api.ErrForm)
	}
	// No byte is written by its digits if it has another form, and none is itself if it has not to be.
	for c := range 256 {
		plain := string([]byte{byte(c)})
		if form(byte(c)) != plain {
			checkQuotedError(t, "\""+plain+"\"", api.ErrForm)
			checkQuotedError(t, "\"a"+plain+"b\"", api.ErrForm)
		}
		if digits := fmt.Sprintf("\\x%02x", c); form(byte(c)) != digits {
			checkQuotedError(t, "\""+digits+"\"", api.ErrForm)
		}
		if digits := fmt.Sprintf("\\x%02X", c); form(byte(c)) != digits {
			checkQuotedError(t, "\""+digits+"\"", api.ErrForm)
		}
		if c != '"' && c != '\\' && c != 'n' {
			checkQuotedError(t, "\"\\"+plain+"\"", api.ErrForm)
		}
		if !strings.Contains("\"\\nx", plain) {
			checkQuotedError(t, "\"\\"+plain+"00\"", api.ErrForm)
		}
	}
}

func TestUnquoteOfTextsThatAreTooLong(t *testing.T) {
	for _, f := range []string{"a", `\"`, `\\`, `\n`, `\x00`, `\xff`} {
		most := strings.Repeat(f, api.MaxQuote)
		one, e := Unquote("\"" + most + "\"")
		if len(one) != api.MaxQuote || e != api.OK {
			t.Errorf("Unquote of as many %s as are allowed: %d bytes, error %d", f, len(one), e)
		}
		checkQuotedError(t, "\""+most+f+"\"", api.ErrMany)
		checkQuotedError(t, "\""+most+"a\"", api.ErrMany)
		checkQuotedError(t, "\"a"+most+"\"", api.ErrMany)
		// That there is no text in quotes is named first.
		checkQuotedError(t, "\""+most+f, api.ErrForm)
		checkQuotedError(t, most+f+"\"", api.ErrForm)
		checkQuotedError(t, "\""+most+f+"\"a", api.ErrForm)
		checkQuotedError(t, "\""+most+f+"\\t\"", api.ErrForm)
		checkQuotedError(t, "\""+most+"\\x61\"", api.ErrForm)
	}
}

func TestUnquoteLimit(t *testing.T) {
	for _, size := range []int{api.MaxQuote + 1, api.MaxLine - 2, api.MaxLine - 1, 5000} {
		checkQuotedError(t, "\""+strings.Repeat("a", size)+"\"", api.ErrMany)
	}
	for _, c := range []string{"a", "\"", "\\", "\n", "\x00"} {
		checkQuotedError(t, strings.Repeat(c, api.MaxLine), api.ErrForm)
		checkQuotedError(t, strings.Repeat(c, api.MaxLine+1), api.ErrMany)
		checkQuotedError(t, "\"\""+strings.Repeat(c, api.MaxLine-2), api.ErrForm)
		checkQuotedError(t, "\"\""+strings.Repeat(c, api.MaxLine-1), api.ErrMany)
	}
}

func TestReadQuotesAreThoseOfTheChapter(t *testing.T) {
	wordsOf(append(letters("\"\\nx0af t\n\xff"), "\\x", "\\\"", "\\\\"), 4, func(s string) {
		for _, q := range []string{s, "\"" + s + "\""} {
			read, e := Unquote(q)
			if !aQuoted.MatchString(q) {
				checkQuotedError(t, q, api.ErrForm)
			} else if e != api.OK || inQuotes(read) != q {
				t.Errorf("Unquote of %q: %q, error %d", q, read, e)
			}
		}
	})
	for x := range 1 << 16 {
		q := "\"\\x" + string([]byte{byte(x >> 8), byte(x)}) + "\""
		if s, e := Unquote(q); (e == api.OK) != aQuoted.MatchString(q) || e == api.OK && inQuotes(s) != q {
			t.Errorf("Unquote of %q: %q, error %d", q, s, e)
		}
	}
}

// P3.3

func TestListExamples(t *testing.T) {
	for _, c := range []struct {
		l    []string
		want string
	}{
		{nil, `[]`},
		{[]string{}, `[]`},
		{[]string{""}, `[""]`},
		{[]string{"a", ""}, `["a", ""]`},
		{[]string{"", ""}, `["", ""]`},
		{[]string{"a, b", "]"}, `["a, b", "]"]`},
		{[]string{`"`, `\`, "\n"}, `["\"", "\\", "\n"]`},
		{[]string{`", "`, `"]`, `["`}, `["\", \"", "\"]", "[\""]`},
		{[]string{`\", \"`}, `["\\\", \\\""]`},
		{[]string{"\x00", "\xff", "\u00e9"}, `["\x00", "\xff", "\xc3\xa9"]`},
		{[]string{"a", "a", "a"}, `["a", "a", "a"]`},
		{[]string{"b", "a", "c"}, `["b", "a", "c"]`},
		{[]string{"[]"}, `["[]"]`},
		{[]string{" ", ","}, `[" ", ","]`},
	} {
		checkList(t, c.l, c.want)
	}
}

func TestListsOfAllSizes(t *testing.T) {
	r := rule(4)
	for size := range api.MaxList + 1 {
		l := make([]string, size)
		parts := make([]string, size)
		for i := range l {
			l[i] = bytesOf(r, r.IntN(12))
			parts[i] = inQuotes(l[i])
		}
		checkList(t, l, "["+strings.Join(parts, ", ")+"]")
	}
}

func TestListLimit(t *testing.T) {
	for _, size := range []int{0, 1, api.MaxQuote} {
		for _, c := range []string{"a", "\x00", "\""} {
			l := slices.Repeat([]string{strings.Repeat(c, size)}, api.MaxList)
			checkList(t, l, "["+strings.Repeat(inQuotes(l[0])+", ", api.MaxList-1)+inQuotes(l[0])+"]")
			checkListError(t, append(l, ""), api.ErrMany)
			checkListError(t, append(l, l...), api.ErrMany)
			for i := range l {
				one := slices.Clone(l)
				one[i] = strings.Repeat(c, api.MaxQuote+1)
				checkListError(t, one, api.ErrMany)
			}
		}
	}
	checkListError(t, []string{strings.Repeat("a", api.MaxQuote+1)}, api.ErrMany)
	checkListError(t, []string{"", strings.Repeat("\x00", 5000), ""}, api.ErrMany)
	checkListError(t, make([]string, 10000), api.ErrMany)
}

func TestUnlistOfWhatIsNone(t *testing.T) {
	for _, s := range []string{
		``, `[`, `]`, `][`, `[[]`, `[]]`, `[[]]`, `[ ]`, ` []`, `[] `, "[]\n", `[,]`, `[, ]`, `()`, `{}`, `"a"`, `"a", "b"`, `nil`, `0`,
		`["a"`, `"a"]`, `["a]`, `[a"]`, `[a]`, `['a']`, `[1]`, `[nil]`, `[["a"]]`, `["a"]]`, `["a"] `, ` ["a"]`, `[ "a"]`, `["a" ]`, `["a"]["b"]`, `["a"], ["b"]`, `["a"]"`,
		`["a",]`, `["a", ]`, `[, "a"]`, `[,"a"]`, `["a","b"]`, `["a"  "b"]`, `["a" "b"]`, `["a""b"]`, `["a",  "b"]`, `["a" , "b"]`, `["a" ,"b"]`, `["a",, "b"]`, `["a", , "b"]`, `["a"; "b"]`,
		"[\"a\",\n\"b\"]", "[\"a\",\t\"b\"]", "[\"a\"\n]", `["a", "b"`, `["a", "b",`, `["a", "b", `, `["a", "b", ]`, `["a", b]`, `["a", "b]`, `["a", "b"c]`, `["a", []]`,
		`["\"]`, `["\\\"]`, `["\t"]`, `["\x61"]`, `["\xFF"]`, `["\x0a"]`, "[\"\n\"]", "[\"\xff\"]", `["a", "\x61"]`, `["a", "\"]`, `["a"b"]`, "[\"a\"\x00]", `["a", "b"]a`, `a["a"]`,
	} {
		checkUnlistError(t, s, api.ErrForm)
	}
	for c := range 256 {
		one := string([]byte{byte(c)})
		for _, s := range []string{one, one + `[]`, `[]` + one, `[` + one + `]`, `["a"` + one + `]`, `[` + one + `"a"]`, `["a"` + one + `, "b"]`, `["a"]` + one, one + `["a"]`, `["a", ` + one + `"b"]`, `["a",` + one + one + `"b"]`} {
			checkUnlistError(t, s, api.ErrForm)
		}
		if c != ' ' {
			checkUnlistError(t, `["a",`+one+`"b"]`, api.ErrForm)
		}
		if c != ',' {
			checkUnlistError(t, `["a"`+one+` "b"]`, api.ErrForm)
		}
		if c != '[' {
			checkUnlistError(t, one+`"a", "b"]`, api.ErrForm)
		}
		if c != ']' {
			checkUnlistError(t, `["a", "b"`+one, api.ErrForm)
		}
	}
}

func TestUnlistOfTooMany(t *testing.T) {
	for _, one := range []string{`""`, `"a"`, `"\x00"`} {
		for size, want := range map[int]api.Errno{api.MaxList - 1: api.OK, api.MaxList: api.OK, api.MaxList + 1: api.ErrMany, api.MaxList + 2: api.ErrMany, 1000: api.ErrMany} {
			s := "[" + strings.Repeat(one+", ", size-1) + one + "]"
			if want != api.OK {
				checkUnlistError(t, s, want)
			} else if l, e := Unlist(s); e != api.OK || len(l) != size {
				t.Errorf("Unlist of %d texts: %d, error %d", size, len(l), e)
			}
			// That there is no list is named first.
			checkUnlistError(t, s[:len(s)-1], api.ErrForm)
			checkUnlistError(t, s[1:], api.ErrForm)
			checkUnlistError(t, s+" ", api.ErrForm)
			checkUnlistError(t, s[:len(s)-1]+", ]", api.ErrForm)
			checkUnlistError(t, s[:len(s)-1]+", \"\\t\"]", api.ErrForm)
		}
	}
}

func TestUnlistOfTextsThatAreTooLong(t *testing.T) {
	for _, f := range []string{"a", `\"`, `\\`, `\n`, `\x00`} {
		most := "\"" + strings.Repeat(f, api.MaxQuote) + "\""
		l, e := Unlist("[\"\", " + most + ", " + most + "]")
		if e != api.OK || len(l) != 3 || len(l[1]) != api.MaxQuote || len(l[2]) != api.MaxQuote {
			t.Errorf("Unlist of texts of as many %s as are allowed: %d texts, error %d", f, len(l), e)
		}
		// Some of these texts in quotes have more bytes than a line.
		for _, size := range []int{api.MaxQuote + 1, 700, 2500} {
			long := "\"" + strings.Repeat(f, size) + "\""
			for _, s := range []string{"[" + long + "]", "[" + long + ", \"a\"]", "[\"a\", " + long + "]", "[\"\", " + long + ", \"\"]", "[" + long + ", " + long + "]"} {
				checkUnlistError(t, s, api.ErrMany)
				checkUnlistError(t, s+"]", api.ErrForm)
				checkUnlistError(t, s[:len(s)-1]+",]", api.ErrForm)
				checkUnlistError(t, s[:len(s)-1]+", \"\\x61\"]", api.ErrForm)
			}
		}
	}
}

func TestUnlistLimit(t *testing.T) {
	for _, c := range []string{"a", "\"", "[", "]", "\x00"} {
		checkUnlistError(t, strings.Repeat(c, api.MaxDump), api.ErrForm)
		checkUnlistError(t, strings.Repeat(c, api.MaxDump+1), api.ErrMany)
	}
	for extra, want := range map[int]api.Errno{0: api.ErrForm, 1: api.ErrMany} {
		checkUnlistError(t, "[]"+strings.Repeat(" ", api.MaxDump-2+extra), want)
		checkUnlistError(t, "[\""+strings.Repeat("a", api.MaxDump-3+extra)+"]", want)
		checkUnlistError(t, "["+strings.Repeat("\"\", ", api.MaxDump/4-1)+"\"\""+strings.Repeat(" ", extra+1), want)
	}
	checkUnlistError(t, "[\""+strings.Repeat("a", api.MaxDump-4)+"\"]", api.ErrMany)
	checkUnlistError(t, "["+strings.Repeat("\"\", ", api.MaxDump/4-1)+"\"a\"]", api.ErrMany)
}

func TestReadListsAreThoseOfTheChapter(t *testing.T) {
	check := func(s string) {
		l, e := Unlist(s)
		if !aList.MatchString(s) {
			checkUnlistError(t, s, api.ErrForm)
			return
		}
		parts := make([]string, len(l))
		for i := range l {
			parts[i] = inQuotes(l[i])
		}
		if again := "[" + strings.Join(parts, ", ") + "]"; e != api.OK || again != s {
			t.Errorf("Unlist of %q: %q, error %d", s, l, e)
		}
	}
	wordsOf(append(letters("[]\"\\, a"), "\", \"", "\\\""), 4, func(s string) {
		check(s)
		check("[" + s + "]")
		check("[\"" + s + "\"]")
	})
}

// P3.4

func TestWhatIsWrittenIsPrinted(t *testing.T) {
	check := func(s string) {
		t.Helper()
		for i := range len(s) {
			if s[i] < 32 || s[i] > 126 {
				t.Fatalf("%s has the byte %d", short(s), s[i])
			}
		}
	}
	r := rule(5)
	for range 500 {
		l := make([]string, r.IntN(5))
		for i := range l {
			l[i] = bytesOf(r, r.IntN(300))
			check(quoted(t, l[i]))
		}
		check(list(t, l))
		check(Number(int64(r.Uint64())))
		check(Hex(r.Uint64()))
	}
	for c := range 256 {
		check(quoted(t, string([]byte{byte(c)})))
		check(list(t, []string{string([]byte{byte(c)})}))
	}
}

// mutants are texts that differ in one byte from s: it is left out, put in, or another one.
func mutants(r *rand.Rand, s string) []string {
	const some = "\"\\nx0a9f-,[] \x00\xff"
	var l []string
	for i := range len(s) {
		c := some[r.IntN(len(some))]
		l = append(l, s[:i]+s[i+1:], s[:i]+string([]byte{c})+s[i:], s[:i]+string([]byte{c})+s[i+1:])
	}
	return l
}

func TestWhatIsReadIsWrittenAgain(t *testing.T) {
	r := rule(6)
	for range 300 {
		n := r.Uint64() >> r.UintN(64)
		texts := []string{bytesOf(r, r.IntN(5)), bytesOf(r, r.IntN(5))}
		for _, s := range slices.Concat(mutants(r, Number(int64(n))), mutants(r, Hex(n)), mutants(r, quoted(t, texts[0])), mutants(r, list(t, texts))) {
			if x, e := Unnumber(s); e == api.OK && Number(x) != s {
				t.Errorf("%d was read of %q", x, s)
			}
			if x, e := Unhex(s); e == api.OK && Hex(x) != s {
				t.Errorf("%d was read of %q", x, s)
			}
			if x, e := Unquote(s); e == api.OK && quoted(t, x) != s {
				t.Errorf("%q was read of %q", x, s)
			}
			if x, e := Unlist(s); e == api.OK && list(t, x) != s {
				t.Errorf("%q was read of %q", x, s)
			}
		}
	}
}

func TestOnlyTheLastQuotationMarkEndsAText(t *testing.T) {
	r := rule(7)
	texts := []string{"", "\"", "\\", "\\\"", "\"\\", "\\\\", "\"\"", "a\"b\"c", "\", \"", "\"]", "\x22\x5c\x0a"}
	for range 100 {
		texts = append(texts, bytesOf(r, r.IntN(30)))
	}
	for _, s := range texts {
		q := quoted(t, s)
		for end := range q {
			checkQuotedError(t, q[:end], api.ErrForm)
		}
		for _, more := range []string{"\"", "a", "\"\"", ", \"a\"", "]", "\\\""} {
			checkQuotedError(t, q+more, api.ErrForm)
		}
	}
}

func TestListsArePartedInOneWay(t *testing.T) {
	// Texts of the marks that part a list: whatever they say, different lists have different texts.
	words := []string{"", "\"", ", ", "\", \"", "]", "[", "\\", "a"}
	seen := map[string][]string{}
	wordsOf(words, 4, func(s string) {
		for _, l := range [][]string{{s}, {s, ""}, {"", s}, {s[:len(s)/2], s[len(s)/2:]}} {
			text := list(t, l)
			if other, ok := seen[text]; ok && !slices.Equal(other, l) {
				t.Errorf("%q and %q have the text %s", other, l, text)
			}
			seen[text] = l
			if back, e := Unlist(text); e != api.OK || !slices.Equal(back, l) {
				t.Errorf("Unlist of %s: %q, error %d", text, back, e)
			}
		}
	})
}

// R2: arguments are only read, and results share no memory.

func TestArgumentsAreOnlyRead(t *testing.T) {
	room := []string{"a", "\"", "c", "behind", "behind"}
	kept := slices.Clone(room)
	List(room[:3])
	List(room[:0])
	if !slices.Equal(room, kept) {
		t.Errorf("the texts have become %q", room)
	}
}

func TestResultsShareNoMemory(t *testing.T) {
	const s = `["a", "b", "c"]`
	for range 3 {
		l, e := Unlist(s)
		other, _ := Unlist(s)
		if e != api.OK || !slices.Equal(l, []string{"a", "b", "c"}) {
			t.Fatalf("%q, error %d", l, e)
		}
		for i := range l[:cap(l)] {
			l[:cap(l)][i] = "z"
		}
		if !slices.Equal(other, []string{"a", "b", "c"}) {
			t.Errorf("a change of one result is seen in another one: %q", other)
		}
	}
}

func FuzzReadStrictly(f *testing.F) {
	for _, s := range []string{"", "0", "-1", "0x0", `""`, `"\x00"`, `[]`, `["a", ""]`, `["\"]`} {
		f.Add(s)
	}
	f.Fuzz(func(t *testing.T, s string) {
		if _, e := Unnumber(s); len(s) <= api.MaxLine && (e == api.ErrForm) == aNumber.MatchString(s) {
			t.Errorf("Unnumber of %q: error %d", s, e)
		}
		if _, e := Unhex(s); len(s) <= api.MaxLine && (e == api.ErrForm) == aHex.MatchString(s) {
			t.Errorf("Unhex of %q: error %d", s, e)
		}
		if x, e := Unquote(s); len(s) <= api.MaxLine && (e == api.ErrForm) == aQuoted.MatchString(s) || e == api.OK && inQuotes(x) != s {
			t.Errorf("Unquote of %q: %q, error %d", s, x, e)
		}
		if x, e := Unlist(s); len(s) <= api.MaxDump && (e == api.ErrForm) == aList.MatchString(s) || e == api.OK && list(t, x) != s {
			t.Errorf("Unlist of %q: %q, error %d", s, x, e)
		}
	})
}
