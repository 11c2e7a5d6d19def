package words

import (
	"math"
	"regexp"
	"slices"
	"strconv"
	"strings"
	"testing"
	"unsafe"

	"quintain/api"
)

const top = api.MaxNumber

// texts are all texts of at most most bytes of an alphabet.
func texts(alphabet string, most int) []string {
	list := []string{""}
	for at := 0; at < len(list); at++ {
		if len(list[at]) == most {
			break
		}
		for i := range len(alphabet) {
			list = append(list, list[at]+alphabet[i:i+1])
		}
	}
	return list
}

// wantLine holds what Line answers for s against depth and list, or an error.
func wantLine(t *testing.T, s string, depth int, list []string, want api.Errno) {
	t.Helper()
	d, l, e := Line(s)
	if d != depth || !slices.Equal(l, list) || e != want {
		t.Errorf("%q: %v %q %v, wanted %v %q %v", s, d, l, e, depth, list, want)
	}
}

// P2.1
func TestLine(t *testing.T) {
	for _, c := range []struct {
		s     string
		depth int
		list  []string
	}{
		{"  on go", 2, []string{"on", "go"}},
		{"a", 0, []string{"a"}},
		{" a", 1, []string{"a"}},
		{"       a", 7, []string{"a"}},
		{"a b", 0, []string{"a", "b"}},
		{"chart c", 0, []string{"chart", "c"}},
		{"   on go x<3&b - x=x+1;send:up", 3, []string{"on", "go", "x<3&b", "-", "x=x+1;send:up"}},
		{"- ! ~", 0, []string{"-", "!", "~"}},
		{"A Z 0 9 _ \" \\ `", 0, []string{"A", "Z", "0", "9", "_", "\"", "\\", "`"}},
		{strings.Repeat(" ", 1000) + strings.Repeat("w", 1000), 1000, []string{strings.Repeat("w", 1000)}},
	} {
		wantLine(t, c.s, c.depth, c.list, api.OK)
	}
	long := slices.Repeat([]string{"ab"}, 5000)
	wantLine(t, " "+strings.Join(long, " "), 1, long, api.OK)
}

// P2.1
func TestLineThatIsNone(t *testing.T) {
	for _, s := range []string{
		"", " ", "  ", strings.Repeat(" ", 1000),
		"a ", " a ", "a  ", "a b ", strings.Repeat("a ", 1000),
		"a  b", "a   b", " a  b", "a b  c", "a  b c",
		"a\tb", "\ta", "a\t", "a\n", "\na", "a\r\n", "a\nb", "a \nb", "a\x00", "\x00a", "\x00",
		"\x7f", "a\x7f", "\x7fa", "a b\x7f", "\x80", "a\xff", "a\u00a0b", "\u00e4", "a \u2028", "a b \xffc",
	} {
		wantLine(t, s, 0, nil, api.ErrForm)
	}
}

// P2.1: each byte there is, at each place where one may stand.
func TestBytesOfLines(t *testing.T) {
	for i := range 256 {
		b := string([]byte{byte(i)})
		if '!' <= i && i <= '~' {
			wantLine(t, b, 0, []string{b}, api.OK)
			wantLine(t, " "+b+"x", 1, []string{b + "x"}, api.OK)
			wantLine(t, "x"+b, 0, []string{"x" + b}, api.OK)
			wantLine(t, "x "+b+" y", 0, []string{"x", b, "y"}, api.OK)
			wantLine(t, "x"+b+"y", 0, []string{"x" + b + "y"}, api.OK)
			continue
		}
		wantLine(t, b, 0, nil, api.ErrForm)
		wantLine(t, "x"+b, 0, nil, api.ErrForm)
		wantLine(t, "x "+b+" y", 0, nil, api.ErrForm)
		wantLine(t, "x "+b, 0, nil, api.ErrForm)
		if b != " " {
			wantLine(t, " "+b+"x", 0, nil, api.ErrForm)
			wantLine(t, "x"+b+"y", 0, nil, api.ErrForm)
		}
	}
}

// P2.1, P2.4: all short texts, against a form of their own.
func TestShortLines(t *testing.T) {
	form := regexp.MustCompile(`^( *)[!-~]+( [!-~]+)*$`)
	lines := 0
	for _, s := range texts(" a!~\x7f\x1f", 6) {
		m := form.FindStringSubmatch(s)
		if m == nil {
			wantLine(t, s, 0, nil, api.ErrForm)
			continue
		}
		lines++
		depth := len(m[1])
		wantLine(t, s, depth, strings.Split(s[depth:], " "), api.OK)
	}
	if lines < 1000 {
		t.Error("too few of them are lines", lines)
	}
}

// P2.1: what is answered is of that call alone.
func TestLinesShareNothing(t *testing.T) {
	s := "  on go - - -"
	_, first, _ := Line(s)
	spare := first[:cap(first)]
	for i := range spare {
		spare[i] = "changed"
	}
	_ = append(first, "more")
	wantLine(t, s, 2, []string{"on", "go", "-", "-", "-"}, api.OK)
}

// P2.1: the words are new memory, not pieces of the line.
func TestWordsAreNotOfTheLine(t *testing.T) {
	for _, s := range []string{"a", "  on go - - send:up", strings.Repeat("ab ", 100) + "c"} {
		begin := uintptr(unsafe.Pointer(unsafe.StringData(s)))
		_, list, _ := Line(s)
		for i, w := range list {
			at := uintptr(unsafe.Pointer(unsafe.StringData(w)))
			if begin <= at && at < begin+uintptr(len(s)) {
				t.Errorf("%.30q: word %v is a piece of it", s, i)
			}
		}
	}
}

// names are names, at their edges too.
func names() []string {
	return []string{"a", "z", "m", "ab", "a1", "a_", "a_1", "az09_", "z0", "a__", "abcdefghijk", "abcdefghijkl", "a23456789_12", "zzzzzzzzzzzz",
		"trues", "tru", "falses", "fals", "i", "inn", "ina", "in_", "in1", "r", "rea", "re0", "ima", "im_", "done", "don", "on", "chart", "error"}
}

// noNames are texts that are neither a name nor an event's name.
func noNames() []string {
	return []string{"", "true", "false", "in", "re", "im",
		"abcdefghijklm", "a234567890123", strings.Repeat("a", 24), strings.Repeat("a", 1<<16),
		"1", "1a", "0", "_", "_a", "A", "Ab", "aB", "abcdefghijkL", "TRUE", "In",
		" ", " a", "a ", "a b", "a-", "-a", "-", "a.b", ".", ".a", "a.", "a\n", "\na", "a\x00", "\x00", "\xff", "a\xff", "\u00e4", "a\u00e4", "a\u0661",
		"done.", "done.done.a", "done.a.b", "done..a", "done. a", "Done.a", "don.a", "ddone.a", "done:a", "donea.b", "one.a", " done.a", "error.a"}
}

// P2.2
func TestNames(t *testing.T) {
	for _, s := range names() {
		if !Name(s) || !Event(s) || !Event("done."+s) || Name("done."+s) {
			t.Error(s, Name(s), Event(s), Event("done."+s), Name("done."+s))
		}
	}
	for _, s := range noNames() {
		if Name(s) || Event(s) || Event("done."+s) || Name("done."+s) {
			t.Errorf("%q: %v %v %v %v", s, Name(s), Event(s), Event("done."+s), Name("done."+s))
		}
	}
}

// P2.2: each byte there is, at the first place, in the middle, at the last one.
func TestBytesOfNames(t *testing.T) {
	for i := range 256 {
		b := string([]byte{byte(i)})
		letter := 'a' <= i && i <= 'z'
		other := letter || '0' <= i && i <= '9' || i == '_'
		for s, want := range map[string]bool{b: letter, b + "x": letter, "x" + b: other, "x" + b + "y": other, "abcdefghijk" + b: other, b + "bcdefghijkl": letter, "abcdefghijkl" + b: false, b + "abcdefghijkl": false} {
			if Name(s) != want || Event(s) != want || Event("done."+s) != want {
				t.Errorf("%q: %v %v %v", s, Name(s), Event(s), Event("done."+s))
			}
		}
	}
}

// P2.2: how long a name may be.
func TestLengthsOfNames(t *testing.T) {
	for n := range 40 {
		s := strings.Repeat("n", n)
		want := 1 <= n && n <= 12
		if Name(s) != want || Event(s) != want || Event("done."+s) != want {
			t.Error(n, Name(s), Event(s), Event("done."+s))
		}
	}
}

// P2.2: all short texts, against a form of their own.
func TestShortNames(t *testing.T) {
	form := regexp.MustCompile(`^[a-z][a-z0-9_]{0,11}$`)
	taken := []string{"true", "false", "in", "re", "im"}
	for _, s := range texts("imrent_7.", 5) {
		want := form.MatchString(s) && !slices.Contains(taken, s)
		if Name(s) != want || Event(s) != want || Event("done."+s) != want {
			t.Errorf("%q: %v %v %v", s, Name(s), Event(s), Event("done."+s))
		}
	}
}

// P2.3
func TestNumber(t *testing.T) {
	for _, c := range []struct {
		s string
		n int64
		e api.Errno
	}{
		{"0", 0, api.OK}, {"1", 1, api.OK}, {"9", 9, api.OK}, {"-1", -1, api.OK}, {"-9", -9, api.OK}, {"-7", -7, api.OK},
		{"10", 10, api.OK}, {"-10", -10, api.OK}, {"100", 100, api.OK}, {"1234567890", 1234567890, api.OK}, {"-9876543210", -9876543210, api.OK},
		{"1099511627775", top - 1, api.OK}, {"1099511627776", top, api.OK}, {"1099511627777", 0, api.ErrRange},
		{"-1099511627775", 1 - top, api.OK}, {"-1099511627776", -top, api.OK}, {"-1099511627777", 0, api.ErrRange},
		{"1099511627780", 0, api.ErrRange}, {"1099511627786", 0, api.ErrRange}, {"2000000000000", 0, api.ErrRange}, {"10995116277760", 0, api.ErrRange},
		{"9223372036854775807", 0, api.ErrRange}, {"9223372036854775808", 0, api.ErrRange}, {"-9223372036854775808", 0, api.ErrRange}, {"-9223372036854775809", 0, api.ErrRange},
		// By what is left of it in 64 bits each of these would be within.
		{"18446744073709551616", 0, api.ErrRange}, {"18446744073709551617", 0, api.ErrRange}, {"-18446744073709551623", 0, api.ErrRange}, {"36893488147419103232", 0, api.ErrRange},
		{"99999999999999999999", 0, api.ErrRange}, {"-99999999999999999999", 0, api.ErrRange},
		{"1" + strings.Repeat("0", 1<<16), 0, api.ErrRange}, {"-1" + strings.Repeat("0", 1<<16), 0, api.ErrRange},
	} {
		if n, e := Number(c.s); n != c.n || e != c.e {
			t.Errorf("%.30q: %v %v, wanted %v %v", c.s, n, e, c.n, c.e)
		}
	}
}

// P2.3
func TestNumberThatIsNone(t *testing.T) {
	digits := strings.Repeat("9", 1<<16)
	for _, s := range []string{
		"", "-", "--", "--1", "+", "+1", "-+1", "+-1", "-0", "00", "-00", "01", "07", "-07", "000", "0-", "1-", "1-1", "-1-",
		" ", " 1", "1 ", "- 1", "1 0", "\t1", "1\n", "1a", "a1", "a", "0x1", "0b1", "0o7", "1e3", "1.0", ".5", "1_000", "0_", "1,0", "1i", "inf", "nan",
		"1\x00", "\x00", "\xff", "1\xff", "\u0661", "1\u0662", "/", ":", "1/", "1:", "-/", "-:",
		"1099511627776a", "1099511627777a", "-1099511627777 ", "99999999999999999999-", "01099511627777", "-01099511627777",
		digits + "a", "-" + digits + " ", "0" + digits, "-0" + digits,
	} {
		if n, e := Number(s); n != 0 || e != api.ErrForm {
			t.Errorf("%.30q: %v %v", s, n, e)
		}
	}
}

// P2.3: all short texts, against a form of their own.
func TestShortNumbers(t *testing.T) {
	form := regexp.MustCompile(`^(0|-?[1-9][0-9]*)$`)
	for _, s := range texts("-+01289/: a", 5) {
		want, wantErr := int64(0), api.ErrForm
		if form.MatchString(s) {
			want, _ = strconv.ParseInt(s, 10, 64)
			wantErr = api.OK
		}
		if n, e := Number(s); n != want || e != wantErr {
			t.Errorf("%q: %v %v, wanted %v %v", s, n, e, want, wantErr)
		}
	}
}

// P2.3: each byte there is, alone, behind a -, ahead of and behind digits.
func TestBytesOfNumbers(t *testing.T) {
	for i := range 256 {
		b := string([]byte{byte(i)})
		digit := '0' <= i && i <= '9'
		d := int64(i - '0')
		for _, c := range []struct {
			s    string
			good bool
			n    int64
		}{
			{b, digit, d},
			{"-" + b, digit && b != "0", -d},
			{"3" + b, digit, 30 + d},
			{"-3" + b, digit, -30 - d},
			{b + "3", digit && b != "0" || b == "-", 3 + 10*d},
			{"1" + b + "2", digit, 102 + 10*d},
		} {
			want, wantErr := c.n, api.OK
			if !c.good {
				want, wantErr = 0, api.ErrForm
			} else if c.s == "-3" {
				want = -3
			}
			if n, e := Number(c.s); n != want || e != wantErr {
				t.Errorf("%q: %v %v, wanted %v %v", c.s, n, e, want, wantErr)
			}
		}
	}
}

// P2.3
func TestDigits(t *testing.T) {
	for n, want := range map[int64]string{
		0: "0", 1: "1", -1: "-1", 9: "9", 10: "10", -10: "-10", 99: "99", 100: "100", -101: "-101",
		top: "1099511627776", -top: "-1099511627776", top + 1: "1099511627777", -top - 1: "-1099511627777",
		math.MaxInt64: "9223372036854775807", math.MaxInt64 - 1: "9223372036854775806",
		math.MinInt64: "-9223372036854775808", math.MinInt64 + 1: "-9223372036854775807",
		math.MaxInt32: "2147483647", math.MinInt32: "-2147483648", 1 << 53: "9007199254740992", 1<<53 + 1: "9007199254740993",
	} {
		if s := Digits(n); s != want {
			t.Error(n, s)
		}
	}
}

// P2.4
func TestWordsPutTogether(t *testing.T) {
	pieces := []string{"a", "on", "-", "x=x+1;send:up", "!", "~~", "done.q", "3-4i", "Zz"}
	for depth := range 9 {
		for i := range pieces {
			for j := range pieces {
				for n := 1; n <= 4; n++ {
					list := []string{pieces[i], pieces[j], pieces[(i+j)%len(pieces)], pieces[i]}[:n]
					s := strings.Repeat(" ", depth) + strings.Join(list, " ")
					d, l, e := Line(s)
					if e != api.OK || d != depth || !slices.Equal(l, list) || strings.Repeat(" ", d)+strings.Join(l, " ") != s {
						t.Fatalf("%q: %v %q %v", s, d, l, e)
					}
				}
			}
		}
	}
}

// P2.4
func TestNumberOfDigits(t *testing.T) {
	var list []int64
	for n := int64(-1100); n <= 1100; n++ {
		list = append(list, n, n*997, n*1_000_003, top+n, -top+n)
	}
	for bit := range 63 {
		for n := int64(-2); n <= 2; n++ {
			list = append(list, 1<<bit+n, -1<<bit+n)
		}
	}
	list = append(list, math.MaxInt64, math.MinInt64, math.MinInt64+1)
	for _, n := range list {
		want, wantErr := n, api.OK
		if n > top || n < -top {
			want, wantErr = 0, api.ErrRange
		}
		if m, e := Number(Digits(n)); m != want || e != wantErr {
			t.Error(n, m, e)
		}
	}
}
