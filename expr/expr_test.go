package expr

import (
	"math"
	"slices"
	"strconv"
	"strings"
	"testing"
	"unsafe"

	"quintain/api"
)

const (
	top     = api.MaxNumber
	topPart = api.MaxPart
)

func num(n int64) api.Cell    { return api.Cell{Op: api.OInt, A: n} }
func imag(n int64) api.Cell   { return api.Cell{Op: api.OImag, A: n} }
func named(s string) api.Cell { return api.Cell{Op: api.OVar, Name: s} }
func in(s string) api.Cell    { return api.Cell{Op: api.OIn, Name: s} }
func op(n int) api.Cell       { return api.Cell{Op: n} }

// list makes cells of short texts: an operator's, or that of one operand.
func list(words ...string) []api.Cell {
	ops := map[string]int{"true": api.OTrue, "false": api.OFalse, "neg": api.ONeg, "not": api.ONot, "re": api.ORe, "im": api.OIm,
		"+": api.OAdd, "-": api.OSub, "*": api.OMul, "/": api.ODiv, "%": api.OMod, "=": api.OEq, "!=": api.ONe,
		"<": api.OLt, "<=": api.OLe, ">": api.OGt, ">=": api.OGe, "&": api.OAnd, "|": api.OOr}
	var l []api.Cell
	for _, w := range words {
		n, err := strconv.ParseInt(strings.TrimSuffix(w, "i"), 10, 64)
		switch {
		case ops[w] != 0:
			l = append(l, op(ops[w]))
		case err == nil && strings.HasSuffix(w, "i"):
			l = append(l, imag(n))
		case err == nil:
			l = append(l, num(n))
		default:
			l = append(l, named(w))
		}
	}
	return l
}

// wantParse holds what Parse answers for s against what it should.
func wantParse(t *testing.T, s string, l []api.Cell, place int, want api.Errno) {
	t.Helper()
	got, p, e := Parse(s)
	if !slices.Equal(got, l) || p != place || e != want {
		t.Errorf("%.60q: %v %v %v, wanted %v %v %v", s, got, p, e, l, place, want)
	}
}

// wantShow holds what Show answers for l against what it should.
func wantShow(t *testing.T, l []api.Cell, s string, want api.Errno) {
	t.Helper()
	if got, e := Show(l); got != s || e != want {
		t.Errorf("%v: %q %v, wanted %q %v", l, got, e, s, want)
	}
	if Right(l) != (want == api.OK) {
		t.Errorf("%v: Right answers %v", l, Right(l))
	}
}

// both are expressions, each with its text.
var both = []struct {
	s string
	l []api.Cell
}{
	{"0", list("0")}, {"1", list("1")}, {"9", list("9")}, {"10", list("10")}, {"907", list("907")}, {"1099511627776", list("1099511627776")}, {"1099511627775", list("1099511627775")},
	{"0i", list("0i")}, {"1i", list("1i")}, {"10i", list("10i")}, {"1048576i", list("1048576i")}, {"1048575i", list("1048575i")},
	{"true", list("true")}, {"false", list("false")}, {"a", list("a")}, {"abcdefghijkl", list("abcdefghijkl")}, {"a_0", list("a_0")}, {"trues", list("trues")}, {"inn", list("inn")}, {"rea", list("rea")}, {"ima", list("ima")}, {"i", list("i")},
	{"in(a)", []api.Cell{in("a")}}, {"in(abcdefghijkl)", []api.Cell{in("abcdefghijkl")}}, {"in(inn)", []api.Cell{in("inn")}}, {"in(a_0)", []api.Cell{in("a_0")}},
	{"re(p)", list("p", "re")}, {"im(p)", list("p", "im")}, {"re(im(p))", list("p", "im", "re")}, {"re(p+q)", list("p", "q", "+", "re")}, {"im(a|b)", list("a", "b", "|", "im")},
	{"-a", list("a", "neg")}, {"!a", list("a", "not")}, {"--a", list("a", "neg", "neg")}, {"!!a", list("a", "not", "not")}, {"-!a", list("a", "not", "neg")}, {"!-a", list("a", "neg", "not")}, {"-1", list("1", "neg")}, {"-0", list("0", "neg")}, {"-1099511627776", list("1099511627776", "neg")},
	{"a+b", list("a", "b", "+")}, {"a-b", list("a", "b", "-")}, {"a*b", list("a", "b", "*")}, {"a/b", list("a", "b", "/")}, {"a%b", list("a", "b", "%")},
	{"a=b", list("a", "b", "=")}, {"a!=b", list("a", "b", "!=")}, {"a<b", list("a", "b", "<")}, {"a<=b", list("a", "b", "<=")}, {"a>b", list("a", "b", ">")}, {"a>=b", list("a", "b", ">=")},
	{"a&b", list("a", "b", "&")}, {"a|b", list("a", "b", "|")},
	{"x+2*y", list("x", "2", "y", "*", "+")}, {"(x+2)*y", list("x", "2", "+", "y", "*")}, {"x*2+y", list("x", "2", "*", "y", "+")}, {"x*(2+y)", list("x", "2", "y", "+", "*")},
	{"a-(b+c)", list("a", "b", "c", "+", "-")}, {"a-b+c", list("a", "b", "-", "c", "+")}, {"a+b-c", list("a", "b", "+", "c", "-")}, {"a+(b-c)", list("a", "b", "c", "-", "+")}, {"a+b+c", list("a", "b", "+", "c", "+")}, {"a+(b+c)", list("a", "b", "c", "+", "+")},
	{"a*b/c", list("a", "b", "*", "c", "/")}, {"a*(b/c)", list("a", "b", "c", "/", "*")}, {"a%b%c", list("a", "b", "%", "c", "%")}, {"a%(b%c)", list("a", "b", "c", "%", "%")},
	{"a&b&c", list("a", "b", "&", "c", "&")}, {"a&(b&c)", list("a", "b", "c", "&", "&")}, {"a|b|c", list("a", "b", "|", "c", "|")}, {"a|(b|c)", list("a", "b", "c", "|", "|")},
	{"a|b&c", list("a", "b", "c", "&", "|")}, {"(a|b)&c", list("a", "b", "|", "c", "&")}, {"a&b|c", list("a", "b", "&", "c", "|")}, {"a&(b|c)", list("a", "b", "c", "|", "&")},
	{"(a=b)=c", list("a", "b", "=", "c", "=")}, {"a=(b=c)", list("a", "b", "c", "=", "=")}, {"(a<b)>=(c!=d)", list("a", "b", "<", "c", "d", "!=", ">=")}, {"a<b&c<d", list("a", "b", "<", "c", "d", "<", "&")}, {"a<b|c<d", list("a", "b", "<", "c", "d", "<", "|")},
	{"a<(b&c)", list("a", "b", "c", "&", "<")}, {"a+b<c", list("a", "b", "+", "c", "<")}, {"a<b+c", list("a", "b", "c", "+", "<")}, {"(a<b)+c", list("a", "b", "<", "c", "+")}, {"a+(b<c)", list("a", "b", "c", "<", "+")}, {"re(a<b)<c", list("a", "b", "<", "re", "c", "<")},
	{"-(a+b)", list("a", "b", "+", "neg")}, {"-a+b", list("a", "neg", "b", "+")}, {"-a*b", list("a", "neg", "b", "*")}, {"-(a*b)", list("a", "b", "*", "neg")}, {"a--b", list("a", "b", "neg", "-")}, {"a*-b", list("a", "b", "neg", "*")}, {"!(a=b)", list("a", "b", "=", "not")}, {"!a=b", list("a", "not", "b", "=")}, {"a=!b", list("a", "b", "not", "=")}, {"a!=!b", list("a", "b", "not", "!=")}, {"a<-b", list("a", "b", "neg", "<")}, {"-re(a)", list("a", "re", "neg")}, {"re(-a)", list("a", "neg", "re")},
	{"2*1i", list("2", "1i", "*")}, {"1i+i", list("1i", "i", "+")}, {"3-4i", list("3", "4i", "-")},
	{"!in(s1)&x<=3|true", []api.Cell{in("s1"), op(api.ONot), named("x"), num(3), op(api.OLe), op(api.OAnd), op(api.OTrue), op(api.OOr)}},
}

// P3.1, P3.2, P3.3
func TestTextsAndExpressions(t *testing.T) {
	for _, c := range both {
		wantParse(t, c.s, c.l, 0, api.OK)
		wantShow(t, c.l, c.s, api.OK)
	}
}

// P3.2: parentheses that aren't wanted tell the same.
func TestMoreParentheses(t *testing.T) {
	for _, c := range both {
		wantParse(t, "("+c.s+")", c.l, 0, api.OK)
		wantParse(t, "(("+c.s+"))", c.l, 0, api.OK)
		wantParse(t, "re(("+c.s+"))", append(slices.Clone(c.l), op(api.ORe)), 0, api.OK)
	}
	wantParse(t, "(a+b)+(c)", list("a", "b", "+", "c", "+"), 0, api.OK)
	wantParse(t, "(a*b)+(c*(d))", list("a", "b", "*", "c", "d", "*", "+"), 0, api.OK)
	wantParse(t, "-(-(a))", list("a", "neg", "neg"), 0, api.OK)
}

// P3.2
func TestPlacesOfFaults(t *testing.T) {
	for s, place := range map[string]int{
		// An operand must begin.
		"": 0, " ": 0, "+": 0, "+a": 0, "*a": 0, "=a": 0, "<a": 0, "&": 0, "|a": 0, ")": 0, "()": 1, "A": 0, "_": 0, "_a": 0, ".": 0, "#": 0, " a": 0, "\x00": 0, "\xff": 0, "ä": 0,
		"-": 1, "!": 1, "--": 2, "-!": 2, "-+a": 1, "-)": 1, "(": 1, "((": 2, "(+": 1, "a+": 2, "a+)": 2, "a++b": 2, "a+*b": 2, "a-": 2, "a<": 2, "a<=": 3, "a<=>b": 3, "a<>b": 2, "a==b": 2, "a=<b": 2, "a!==b": 3, "a!=": 3, "a&&b": 2, "a||b": 2, "(a+": 3, "(a+)": 3, "a+ b": 2,
		"abcdefghijklm": 0, "-abcdefghijklm": 1, "a+abcdefghijklm": 2, "abcdefghijklm+": 0, "a_A": 2,
		"in": 0, "re": 0, "im": 0, "re)": 0, "re (a)": 0, "in (a)": 0, "-re": 1, "a+im": 2, "in+a": 0, "re-": 0, "abcdefghijklm(": 0, "_(": 0,
		"re(": 3, "im(": 3, "re()": 3, "re(+": 3, "re(re": 3, "re(re(": 6, "im(a+)": 5,
		// A number is beyond its bound.
		"1099511627777": 0, "1099511627777+": 0, "-1099511627777": 1, "a+1099511627777": 2, "9223372036854775808": 0, "18446744073709551617": 0, "18446744073709551617i": 0, "1048577i": 0, "1099511627776i": 0, "1099511627777i": 0, "(1048577i": 1, "2-1048577i": 2, "99999999999999999999x": 0,
		// Behind in.
		"in(": 3, "in()": 3, "in(1)": 3, "in(1a)": 3, "in(_)": 3, "in(A)": 3, "in((a))": 3, "in(-a)": 3, "in(true)": 3, "in(in)": 3, "in(re(a))": 3, "in( a)": 3, "in(abcdefghijklm)": 3, "a+in(": 5,
		"in(a": 4, "in(a+b)": 4, "in(a b)": 4, "in(a(": 4, "in(aB)": 4, "in(abcdefghijkl": 15, "in(a.b)": 4, "!in(a&": 5,
		// Behind an operand.
		"a)": 1, "(a))": 3, "a(": 1, "a b": 1, "a ": 1, "a!": 1, "a!b": 1, "a!-": 1, "aA": 1, "a.b": 1, "a,b": 1, "a#": 1, "a\x00": 1, "a\xff": 1, "a^b": 1, "a~": 1, "a:b": 1, "aä": 1, "a\n": 1,
		"(a": 2, "((a)": 4, "(a b)": 2, "re(a": 4, "re(a,b)": 4, "(a+b": 4, "(a]": 2, "-a)": 2, "a+b)": 3, "a+b c": 3,
		"true(": 4, "truefalse(": 9, "false)": 5, "true1(": 5, "in(a)b": 5, "in(a))": 5, "re(a)b": 5, "(a)b": 3, "(a)(b)": 3, "(a)1": 3, "in(a)(": 5,
		"01": 1, "00": 1, "007": 1, "-01": 2, "0a": 1, "1a": 1, "1_": 1, "1(": 1, "1true": 1, "1ii": 2, "1i1": 2, "1ia": 2, "1in": 2, "1i(": 2, "0i0": 2, "00i": 1, "01i": 1, "1.5": 1, "1 i": 1, "1I": 1, "10i)": 3,
		// A comparison of one that stands in no parentheses.
		"1<2<3": 3, "a=b=c": 3, "a=b!=c": 3, "a<=b>=c": 4, "a!=b=c": 4, "a>b>": 3, "a<b+c<d": 5, "a<b*-c=d": 6, "(a<b<c)": 4, "a&b<c<d": 5, "(a)<(b)<(c)": 7, "a<b&c<d<e": 7, "-a<b<c": 4, "re(a<b<c)": 6, "a=b==c": 3, "(a=b)=c=d": 7, "a=(b=c)=d": 7,
	} {
		wantParse(t, s, nil, place, api.ErrForm)
	}
}

// P3.2: each byte there is, where an operand must begin and behind one.
func TestBytesOfTexts(t *testing.T) {
	for i := range 256 {
		b := string([]byte{byte(i)})
		switch {
		case 'a' <= i && i <= 'z':
			wantParse(t, b, list(b), 0, api.OK)
			wantParse(t, "x"+b, list("x"+b), 0, api.OK)
			wantParse(t, "in("+b+")", []api.Cell{in(b)}, 0, api.OK)
		case '0' <= i && i <= '9':
			wantParse(t, b, list(b), 0, api.OK)
			wantParse(t, "x"+b, list("x"+b), 0, api.OK)
			wantParse(t, "1"+b, list("1"+b), 0, api.OK)
			wantParse(t, "in("+b+")", nil, 3, api.ErrForm)
			wantParse(t, "(a)"+b, nil, 3, api.ErrForm)
		case i == '_':
			wantParse(t, b, nil, 0, api.ErrForm)
			wantParse(t, "x"+b, list("x"+b), 0, api.OK)
			wantParse(t, "in("+b+")", nil, 3, api.ErrForm)
		case strings.Contains("+-*/%=<>&|", b):
			want := 0
			if b == "-" {
				want = 1
			}
			wantParse(t, b, nil, want, api.ErrForm)
			wantParse(t, "x"+b, nil, 2, api.ErrForm)
			wantParse(t, "x"+b+"y", list("x", "y", b), 0, api.OK)
			wantParse(t, "in(x"+b, nil, 4, api.ErrForm)
		default:
			want := 0
			if b == "!" || b == "(" {
				want = 1
			}
			wantParse(t, b, nil, want, api.ErrForm)
			wantParse(t, "x"+b, nil, 1, api.ErrForm)
			wantParse(t, "x"+b+"y", nil, 1, api.ErrForm)
			wantParse(t, "in("+b+")", nil, 3, api.ErrForm)
		}
	}
}

// P3.2: how long a text may be.
func TestLengthsOfTexts(t *testing.T) {
	deep := func(n int, s string) string { return strings.Repeat("(", n) + s + strings.Repeat(")", n) }
	wantParse(t, deep(299, "ab"), list("ab"), 0, api.OK)
	wantParse(t, deep(299, "abc"), nil, 0, api.ErrLong)
	wantParse(t, deep(300, "a"), nil, 0, api.ErrLong)
	wantParse(t, strings.Repeat("(", 600), nil, 600, api.ErrForm)
	wantParse(t, strings.Repeat("(", 601), nil, 0, api.ErrLong)
	wantParse(t, strings.Repeat("-", 600), nil, 600, api.ErrForm)
	wantParse(t, strings.Repeat("-", 599)+"a", nil, 0, api.ErrLong)
	wantParse(t, strings.Repeat("re(", 200), nil, 600, api.ErrForm)
	wantParse(t, strings.Repeat("9", 600), nil, 0, api.ErrForm)
	wantParse(t, strings.Repeat("9", 601), nil, 0, api.ErrLong)
	wantParse(t, strings.Repeat("a", 600), nil, 0, api.ErrForm)
	wantParse(t, strings.Repeat(" ", 601), nil, 0, api.ErrLong)
	wantParse(t, strings.Repeat("(", 1<<20), nil, 0, api.ErrLong)
}

// P3.2: how many cells there may be, and what counts ahead of that.
func TestCellsOfTexts(t *testing.T) {
	sum := func(n int) string { return strings.Repeat("1+", n-1) + "1" }
	for ahead, want := range map[string]api.Errno{"": api.OK, "-": api.OK, "--": api.ErrLong, "---": api.ErrLong} {
		l, p, e := Parse(ahead + sum(16))
		if e != want || p != 0 || want == api.OK && len(l) != 31+len(ahead) || want != api.OK && len(l) != 0 {
			t.Error(ahead, len(l), p, e)
		}
	}
	wantParse(t, sum(17), nil, 0, api.ErrLong)
	wantParse(t, sum(300), nil, 0, api.ErrLong)
	wantParse(t, sum(300)+"+", nil, 600, api.ErrForm)
	wantParse(t, sum(17)+")", nil, 33, api.ErrForm)
	wantParse(t, strings.Repeat("-", 31)+"a", list(append([]string{"a"}, slices.Repeat([]string{"neg"}, 31)...)...), 0, api.OK)
	wantParse(t, strings.Repeat("-", 32)+"a", nil, 0, api.ErrLong)
	wantParse(t, strings.Repeat("-", 32), nil, 32, api.ErrForm)
}

// P3.1
func TestWhatIsNotRight(t *testing.T) {
	for _, l := range [][]api.Cell{
		nil, {},
		list("a", "b"), list("a", "b", "c", "+"), list("1", "true"), list("a", "b", "neg"),
		list("neg"), list("not"), list("re"), list("im"), list("+"), list("a", "+"), list("a", "neg", "+"), list("+", "a", "b"), list("a", "+", "b"), list("neg", "a"), list("a", "b", "+", "+"), list("a", "b", "|", "&", "c"),
		{num(-1)}, {num(top + 1)}, {num(math.MaxInt64)}, {num(math.MinInt64)}, {imag(-1)}, {imag(topPart + 1)}, {imag(top)}, {imag(math.MinInt64)},
		{named("")}, {named("1")}, {named("abcdefghijklm")}, {named("true")}, {named("in")}, {named("A")}, {named("a b")}, {named("done.a")},
		{in("")}, {in("1")}, {in("abcdefghijklm")}, {in("false")}, {in("re")}, {in("a)")}, {in("a\x00")},
		{{Op: api.OInt, A: 1, Name: "a"}}, {{Op: api.OImag, A: 1, Name: "a"}}, {{Op: api.OVar, A: 1, Name: "a"}}, {{Op: api.OIn, A: -1, Name: "a"}},
		{{Op: 0}}, {{Op: -1}}, {{Op: 24}}, {{Op: math.MaxInt}}, {{Op: math.MinInt}}, {{Op: 0, A: 1}}, {{Op: 0, Name: "a"}},
		{num(1), {Op: 0}}, {num(1), num(1), {Op: 24}}, {num(1), num(1), {Op: 0}}, {num(1), num(1), {Op: -1}}, {{Op: 24}, num(1)},
	} {
		wantShow(t, l, "", api.ErrForm)
	}
	for n := api.OTrue; n <= api.OOr; n++ {
		if n == api.OVar || n == api.OIn {
			continue
		}
		l := append(list("1", "1")[:min(2, operands(n))], op(n))
		if !Right(l) {
			t.Error(n, l)
		}
		for _, c := range []api.Cell{{Op: n, A: 1}, {Op: n, A: -1}, {Op: n, Name: "a"}, {Op: n, Name: " "}, {Op: n, A: math.MinInt64, Name: "a"}} {
			l[len(l)-1] = c
			wantShow(t, l, "", api.ErrForm)
		}
	}
}

// P3.1: the edges of what is in cells, and of how many there are.
func TestEdgesOfCells(t *testing.T) {
	wantShow(t, []api.Cell{num(top)}, "1099511627776", api.OK)
	wantShow(t, []api.Cell{imag(topPart)}, "1048576i", api.OK)
	wantShow(t, []api.Cell{in("abcdefghijkl"), named("abcdefghijkl"), op(api.OAnd)}, "in(abcdefghijkl)&abcdefghijkl", api.OK)
	for n := 1; n < 40; n++ {
		l := append(list("a"), slices.Repeat(list("not"), n-1)...)
		if n <= 32 {
			wantShow(t, l, strings.Repeat("!", n-1)+"a", api.OK)
		} else {
			wantShow(t, l, "", api.ErrForm)
		}
	}
	right := slices.Concat(slices.Repeat(list("a"), 16), slices.Repeat(list("-"), 15))
	wantShow(t, right, strings.Repeat("a-(", 14)+"a-a"+strings.Repeat(")", 14), api.OK)
	left := append(list("a"), slices.Repeat(list("a", "-"), 15)...)
	wantShow(t, left, strings.Repeat("a-", 15)+"a", api.OK)
	wantShow(t, slices.Repeat(list("a"), 1<<20), "", api.ErrForm)
	wantShow(t, append(list("a"), slices.Repeat(list("a", "-"), 1<<20)...), "", api.ErrForm)
}

// isRight goes through the cells from the last one on: how many values are
// still wanted.
func isRight(l []api.Cell) bool {
	wanted := 1
	for _, c := range slices.Backward(l) {
		if wanted == 0 {
			return false
		}
		switch {
		case c.Op < 1 || c.Op > 23:
			return false
		case c.Op <= api.OIn:
			wanted--
		case c.Op >= api.OAdd:
			wanted++
		}
	}
	return wanted == 0
}

// pairs are the places of opening parentheses that stand alone, each with that
// of the one that closes it.
func pairs(s string) [][2]int {
	var open []int
	var found [][2]int
	for i := range len(s) {
		switch s[i] {
		case '(':
			open = append(open, i)
		case ')':
			begin := open[len(open)-1]
			open = open[:len(open)-1]
			if begin == 0 || s[begin-1] < 'a' || s[begin-1] > 'z' {
				found = append(found, [2]int{begin, i})
			}
		}
	}
	return found
}

// wantBack holds an expression against what its text is read as, and each of
// its parentheses against what there is without them.
func wantBack(t *testing.T, l []api.Cell) {
	t.Helper()
	s, e := Show(l)
	if !Right(l) || e != api.OK {
		t.Fatal(l, s, e)
	}
	wantParse(t, s, l, 0, api.OK)
	for _, p := range pairs(s) {
		bare := s[:p[0]] + s[p[0]+1:p[1]] + s[p[1]+1:]
		if other, _, e := Parse(bare); e == api.OK && slices.Equal(other, l) {
			t.Fatalf("%v: %q tells it as well as %q", l, bare, s)
		}
	}
}

// lists hands out all lists of most cells at most that are among those.
func lists(among []api.Cell, most int, see func([]api.Cell)) {
	var down func(l []api.Cell)
	down = func(l []api.Cell) {
		see(l)
		if len(l) == most {
			return
		}
		for _, c := range among {
			down(append(l, c))
		}
	}
	down(make([]api.Cell, 0, most))
}

// P3.1, P3.3: all short lists of cells.
func TestShortExpressions(t *testing.T) {
	var all []api.Cell
	for n := 0; n <= 24; n++ {
		c := op(n)
		switch n {
		case api.OInt, api.OImag:
			c.A = 7
		case api.OVar, api.OIn:
			c.Name = "a"
		}
		all = append(all, c)
	}
	right := 0
	see := func(l []api.Cell) {
		if !isRight(l) {
			wantShow(t, l, "", api.ErrForm)
			return
		}
		right++
		wantBack(t, l)
	}
	lists(all, 4, see)
	lists(list("1", "neg", "re", "+", "*", "<", "&", "|"), 6, see)
	lists(list("1", "not", "-", "/", "=", "|"), 7, see)
	if right < 5000 {
		t.Error("too few of them are right", right)
	}
}

// P3.3: long expressions, made by a rule from a number.
func TestLongExpressions(t *testing.T) {
	seed := uint32(1)
	next := func(n int) int {
		seed = seed*1664525 + 1013904223
		return int(seed>>8) % n
	}
	for range 20000 {
		var l []api.Cell
		values := 0
		for size := 1 + next(32); len(l)+max(values, 1)-1 < size; {
			switch kind := next(4); {
			case values > 1 && kind == 0:
				l = append(l, op(api.OAdd+next(13)))
				values--
			case values > 0 && kind == 1:
				l = append(l, op(api.ONeg+next(4)))
			case len(l)+values+1 > size:
				size = 0
			default:
				l = append(l, []api.Cell{num(int64(next(1 << 20))), imag(int64(next(1 << 20))), op(api.OTrue), op(api.OFalse), named("ab"), in("s_1")}[next(6)])
				values++
			}
		}
		for ; values > 1; values-- {
			l = append(l, op(api.OAdd+next(13)))
		}
		if len(l) > 32 {
			t.Fatal("the rule makes too many", len(l))
		}
		wantBack(t, l)
	}
}

// yard reads a text by two stacks, from token to token, as a reading of its
// own: what waits is an operator, or a parenthesis and what stands ahead of it.
type yard struct {
	s     string
	at    int
	out   []api.Cell
	waits []api.Cell
}

const open = -1

func strength(n int) int {
	switch n {
	case api.OOr:
		return 1
	case api.OAnd:
		return 2
	case api.OEq, api.ONe, api.OLt, api.OLe, api.OGt, api.OGe:
		return 3
	case api.OAdd, api.OSub:
		return 4
	case api.OMul, api.ODiv, api.OMod:
		return 5
	case api.ONeg, api.ONot:
		return 6
	}
	return 0
}

func span(s, of string) string { return s[:len(s)-len(strings.TrimLeft(s, of))] }

const signs = "abcdefghijklmnopqrstuvwxyz0123456789_"

func isNamed(s string) bool {
	return s != "" && len(s) <= 12 && s[0] >= 'a' && !slices.Contains([]string{"true", "false", "in", "re", "im"}, s)
}

// begin reads up to the end of the next operand that has no operand within,
// and answers whether it went well, and whether one was read.
func (y *yard) begin() (bool, bool) {
	rest := y.s[y.at:]
	word := span(rest, signs)
	digits := span(rest, "0123456789")
	if strings.HasPrefix(digits, "0") {
		digits = "0"
	}
	wait := func(length int, cells ...api.Cell) (bool, bool) {
		y.at += length
		y.waits = append(y.waits, cells...)
		return true, false
	}
	put := func(length int, c api.Cell) (bool, bool) {
		y.at += length
		y.out = append(y.out, c)
		return true, true
	}
	switch {
	case strings.HasPrefix(rest, "-"):
		return wait(1, op(api.ONeg))
	case strings.HasPrefix(rest, "!"):
		return wait(1, op(api.ONot))
	case strings.HasPrefix(rest, "("):
		return wait(1, op(open))
	case strings.HasPrefix(rest, "re("):
		return wait(3, op(api.ORe), op(open))
	case strings.HasPrefix(rest, "im("):
		return wait(3, op(api.OIm), op(open))
	case strings.HasPrefix(rest, "in("):
		name := span(rest[3:], signs)
		if !isNamed(name) {
			y.at += 3
			return false, false
		}
		if !strings.HasPrefix(rest[3+len(name):], ")") {
			y.at += 3 + len(name)
			return false, false
		}
		return put(4+len(name), in(name))
	case digits != "":
		n, err := strconv.ParseInt(digits, 10, 64)
		if strings.HasPrefix(rest[len(digits):], "i") {
			if err != nil || n > 1<<20 {
				return false, false
			}
			return put(len(digits)+1, imag(n))
		}
		if err != nil || n > 1<<40 {
			return false, false
		}
		return put(len(digits), num(n))
	case word == "true":
		return put(4, op(api.OTrue))
	case word == "false":
		return put(5, op(api.OFalse))
	case isNamed(word):
		return put(len(word), named(word))
	}
	return false, false
}

// pop puts down what waits and is of some strength at least.
func (y *yard) pop(least int) {
	for len(y.waits) > 0 {
		c := y.waits[len(y.waits)-1]
		if c.Op == open || strength(c.Op) < least {
			return
		}
		y.out = append(y.out, c)
		y.waits = y.waits[:len(y.waits)-1]
	}
}

// behind reads what stands behind an operand: whether it went well, whether
// another operand must begin, whether all is read.
func (y *yard) behind() (bool, bool, bool) {
	rest := y.s[y.at:]
	if rest == "" {
		y.pop(1)
		return len(y.waits) == 0, false, true
	}
	if rest[0] == ')' {
		y.pop(1)
		if len(y.waits) == 0 {
			return false, false, false
		}
		y.at++
		y.waits = y.waits[:len(y.waits)-1]
		if n := len(y.waits); n > 0 && (y.waits[n-1].Op == api.ORe || y.waits[n-1].Op == api.OIm) {
			y.out = append(y.out, y.waits[n-1])
			y.waits = y.waits[:n-1]
		}
		return true, false, false
	}
	for _, length := range []int{2, 1} {
		n := 0
		if length <= len(rest) {
			n = map[string]int{"|": 23, "&": 22, "=": 16, "!=": 17, "<": 18, "<=": 19, ">": 20, ">=": 21, "+": 11, "-": 12, "*": 13, "/": 14, "%": 15}[rest[:length]]
		}
		if n == 0 {
			continue
		}
		y.pop(max(strength(n), 4))
		if k := len(y.waits); strength(n) == 3 && k > 0 && strength(y.waits[k-1].Op) == 3 {
			return false, false, false
		}
		y.pop(strength(n))
		y.waits = append(y.waits, op(n))
		y.at += length
		return true, true, false
	}
	return false, false, false
}

func parsed(s string) ([]api.Cell, int, api.Errno) {
	y := yard{s: s}
	for wants, end := true, false; !end; {
		good, read := true, false
		if wants {
			good, read = y.begin()
			wants = !read
		} else {
			good, wants, end = y.behind()
		}
		if !good {
			return nil, y.at, api.ErrForm
		}
	}
	return y.out, 0, api.OK
}

// P3.2: all short texts of some pieces, against the reading above.
func TestShortTexts(t *testing.T) {
	good := 0
	for _, c := range []struct {
		pieces []string
		most   int
	}{
		{strings.Split("a 0 1 i - ! ( ) _", " "), 6},
		{strings.Split("a < > = ! - + & ( )", " "), 6},
		{strings.Split("1 < = + * & | ( )", " "), 6},
		{strings.Split("in re im ( ) a 1 true - = _", " "), 5},
		{strings.Split("ab 20 <= != >= % / * - | !", " "), 5},
	} {
		var down func(s string, n int)
		down = func(s string, n int) {
			l, place, e := parsed(s)
			wantParse(t, s, l, place, e)
			if e == api.OK {
				good++
			}
			for i := 0; n < c.most && i < len(c.pieces); i++ {
				down(s+c.pieces[i], n+1)
			}
		}
		down("", 0)
	}
	if good < 10000 {
		t.Error("too few of them are expressions", good)
	}
}

// P3.1, P3.2: what is handed in stays, its spare room too.
func TestNothingHandedInIsChanged(t *testing.T) {
	for _, c := range both {
		room := append(slices.Clone(c.l), list("x", "y", "z")...)
		was := slices.Clone(room)
		Right(room[:len(c.l)])
		if s, _ := Show(room[:len(c.l)]); s != c.s || !slices.Equal(room, was) {
			t.Errorf("%q: %v became %v", c.s, was, room)
		}
	}
}

// P3.2: what is answered is of that call alone.
func TestExpressionsShareNothing(t *testing.T) {
	s := "in(ab)|cd<12"
	first, _, _ := Parse(s)
	want := slices.Clone(first)
	spare := first[:cap(first)]
	for i := range spare {
		spare[i] = op(api.OFalse)
	}
	wantParse(t, s, want, 0, api.OK)
}

// begin is where a text lies.
func begin(s string) uintptr { return uintptr(unsafe.Pointer(unsafe.StringData(s))) }

// P3.1, P3.2: texts and names are new memory.
func TestNamesAreNew(t *testing.T) {
	for _, s := range []string{"abc", "in(abc)", "abc+in(abc)*def", "re(abc)"} {
		l, _, _ := Parse(s)
		for _, c := range l {
			if c.Name != "" && begin(s) <= begin(c.Name) && begin(c.Name) < begin(s)+uintptr(len(s)) {
				t.Errorf("%q: %v is a piece of it", s, c)
			}
		}
		shown, _ := Show(l)
		for _, c := range l {
			if c.Name != "" && begin(shown) <= begin(c.Name) && begin(c.Name) < begin(shown)+uintptr(len(shown)) {
				t.Errorf("%q is made of the memory of %v", shown, c)
			}
		}
	}
}
