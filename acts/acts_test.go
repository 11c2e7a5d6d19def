package acts

import (
	"math"
	"reflect"
	"regexp"
	"slices"
	"strconv"
	"strings"
	"testing"
	"unsafe"

	"quintain/api"
	"quintain/expr"
)

const (
	top     = api.MaxPart
	least   = math.MinInt64
	most    = math.MaxInt64
	written = api.MaxNumber
)

func op(n int) api.Cell          { return api.Cell{Op: n} }
func num(n int64) api.Cell       { return api.Cell{Op: api.OInt, A: n} }
func imaginary(n int64) api.Cell { return api.Cell{Op: api.OImag, A: n} }
func named(s string) api.Cell    { return api.Cell{Op: api.OVar, Name: s} }
func in(s string) api.Cell       { return api.Cell{Op: api.OIn, Name: s} }

func become(name string, l ...api.Cell) api.Action {
	return api.Action{Kind: api.ASet, Name: name, Expr: l}
}
func raise(name string) api.Action { return api.Action{Kind: api.ARaise, Name: name} }
func send(name string) api.Action  { return api.Action{Kind: api.ASend, Name: name} }

func numeral(n int64) api.Value { return api.Value{Kind: api.KInt, A: n} }
func truth(n int64) api.Value   { return api.Value{Kind: api.KBool, A: n} }
func dot(a, b int64) api.Value  { return api.Value{Kind: api.KPoint, A: a, B: b} }

// block makes a list of actions.
func block(l ...api.Action) []api.Action { return l }

// values makes a list of values.
func values(l ...api.Value) []api.Value { return l }

// same tells whether two blocks are one.
func same(l, m []api.Action) bool {
	return slices.EqualFunc(l, m, func(a, b api.Action) bool {
		return a.Kind == b.Kind && a.Name == b.Name && slices.Equal(a.Expr, b.Expr)
	})
}

// wantShow holds what Right and Show answer for l against what they should.
func wantShow(t *testing.T, l []api.Action, s string, want api.Errno) {
	t.Helper()
	if got, e := Show(l); got != s || e != want {
		t.Errorf("%v: %q %v, wanted %q %v", l, got, e, s, want)
	}
	if Right(l) != (want == api.OK) {
		t.Errorf("%v: Right answers %v", l, Right(l))
	}
}

// wantParse holds what Parse answers for s against what it should.
func wantParse(t *testing.T, s string, l []api.Action, want api.Errno) {
	t.Helper()
	if got, e := Parse(s); !same(got, l) || e != want {
		t.Errorf("%.80q: %v %v, wanted %v %v", s, got, e, l, want)
	}
}

// parsed answers the block of a text that is one.
func parsed(t *testing.T, s string) []api.Action {
	t.Helper()
	l, e := Parse(s)
	if e != api.OK {
		t.Fatal(s, e)
	}
	return l
}

// told is what Do answers.
type told struct {
	vals         []api.Value
	raised, sent []string
	ok           bool
}

// wantDo holds what Do answers against what it should.
func wantDo(t *testing.T, l []api.Action, vars []api.Var, vals []api.Value, want told) {
	t.Helper()
	v, raised, sent, ok := Do(l, vars, vals)
	if !slices.Equal(v, want.vals) || !slices.Equal(raised, want.raised) || !slices.Equal(sent, want.sent) || ok != want.ok {
		t.Errorf("%v of %v: %v %q %q %v, wanted %v", l, vals, v, raised, sent, ok, want)
	}
}

// some are variables of each kind, and what they hold.
func some() ([]api.Var, []api.Value) {
	return []api.Var{
		{Name: "x", Kind: api.KInt, Lo: 0, Hi: 5},
		{Name: "y", Kind: api.KInt, Lo: -9, Hi: 9},
		{Name: "b", Kind: api.KBool, Lo: 0, Hi: 1},
		{Name: "p", Kind: api.KPoint, Lo: -2, Hi: 2},
	}, values(numeral(4), numeral(-3), truth(1), dot(1, 1))
}

// wantText does the block of a text, by some variables.
func wantText(t *testing.T, s string, want told) {
	t.Helper()
	vars, vals := some()
	wantDo(t, parsed(t, s), vars, vals, want)
}

// texts are blocks, each with its text.
var texts = []struct {
	s string
	l []api.Action
}{
	{"x=x+1;send:done", block(become("x", named("x"), num(1), op(api.OAdd)), send("done"))},
	{"x=x+1", block(become("x", named("x"), num(1), op(api.OAdd)))},
	{"x=0", block(become("x", num(0)))}, {"x=-1", block(become("x", num(1), op(api.ONeg)))}, {"x=1099511627776", block(become("x", num(written)))}, {"x=1048576i", block(become("x", imaginary(top)))},
	{"b=true", block(become("b", op(api.OTrue)))}, {"b=false", block(become("b", op(api.OFalse)))}, {"p=1i*p", block(become("p", imaginary(1), named("p"), op(api.OMul)))}, {"x=re(p)-im(p)", block(become("x", named("p"), op(api.ORe), named("p"), op(api.OIm), op(api.OSub)))},
	{"b=x=y", block(become("b", named("x"), named("y"), op(api.OEq)))}, {"b=x!=y", block(become("b", named("x"), named("y"), op(api.ONe)))}, {"b=x<=y", block(become("b", named("x"), named("y"), op(api.OLe)))}, {"b=x>=y", block(become("b", named("x"), named("y"), op(api.OGe)))}, {"b=!b", block(become("b", named("b"), op(api.ONot)))}, {"b=(x=y)=b", block(become("b", named("x"), named("y"), op(api.OEq), named("b"), op(api.OEq)))},
	{"x=a-(b+c)", block(become("x", named("a"), named("b"), named("c"), op(api.OAdd), op(api.OSub)))},
	{"raise:go", block(raise("go"))}, {"send:go", block(send("go"))}, {"raise:done.a", block(raise("done.a"))}, {"send:done.a", block(send("done.a"))}, {"raise:done", block(raise("done"))}, {"raise:error", block(raise("error"))}, {"send:error", block(send("error"))}, {"raise:done.done", block(raise("done.done"))}, {"send:abcdefghijkl", block(send("abcdefghijkl"))}, {"raise:done.abcdefghijkl", block(raise("done.abcdefghijkl"))}, {"raise:a_0", block(raise("a_0"))},
	{"raise=1", block(become("raise", num(1)))}, {"send=send", block(become("send", named("send")))}, {"raise:raise", block(raise("raise"))}, {"send:raise", block(send("raise"))}, {"raise=1;raise:send;send=2", block(become("raise", num(1)), raise("send"), become("send", num(2)))}, {"abcdefghijkl=1", block(become("abcdefghijkl", num(1)))}, {"a_0=a_0", block(become("a_0", named("a_0")))}, {"done=1", block(become("done", num(1)))}, {"inn=1", block(become("inn", num(1)))},
	{"send:a;raise:b;x=1", block(send("a"), raise("b"), become("x", num(1)))}, {"x=1;x=1;x=1", block(become("x", num(1)), become("x", num(1)), become("x", num(1)))}, {"raise:a;raise:a", block(raise("a"), raise("a"))},
	{"x=1;x=2;raise:a;send:b;p=1i;b=true;raise:done.c;send:d", block(become("x", num(1)), become("x", num(2)), raise("a"), send("b"), become("p", imaginary(1)), become("b", op(api.OTrue)), raise("done.c"), send("d"))},
}

// P6.1, P6.2, P6.4
func TestTextsAndBlocks(t *testing.T) {
	for _, c := range texts {
		wantParse(t, c.s, c.l, api.OK)
		wantShow(t, c.l, c.s, api.OK)
	}
}

// P6.2: a text may have parentheses that aren't wanted; Show leaves them out.
func TestMoreParentheses(t *testing.T) {
	l := block(become("x", named("x"), num(1), op(api.OAdd)), raise("a"))
	wantParse(t, "x=((x)+(1));raise:a", l, api.OK)
	wantShow(t, l, "x=x+1;raise:a", api.OK)
}

// P6.1, P6.2: blocks of no action, of one, of eight, of nine and of many.
func TestLengthsOfBlocks(t *testing.T) {
	for _, a := range []struct {
		s string
		a api.Action
	}{{"x=1", become("x", num(1))}, {"raise:a", raise("a")}, {"send:a", send("a")}} {
		for n := 1; n <= api.MaxActs; n++ {
			s, l := strings.Join(slices.Repeat([]string{a.s}, n), ";"), slices.Repeat(block(a.a), n)
			wantParse(t, s, l, api.OK)
			wantShow(t, l, s, api.OK)
		}
		for _, n := range []int{9, 10, 100, 1000} {
			s := strings.Join(slices.Repeat([]string{a.s}, n), ";")
			wantParse(t, s, nil, api.ErrLong)
		}
		for _, n := range []int{9, 10, 1 << 16} {
			wantShow(t, slices.Repeat(block(a.a), n), "", api.ErrForm)
		}
	}
	wantShow(t, nil, "", api.ErrForm)
	wantShow(t, block(), "", api.ErrForm)
	wantShow(t, block(raise("a"))[:0], "", api.ErrForm)
	wantParse(t, "", nil, api.ErrForm)
}

// wrongActions are none that may stand in a right block.
func wrongActions() []api.Action {
	list := block(api.Action{}, api.Action{Name: "x"}, api.Action{Name: "x", Expr: []api.Cell{num(1)}})
	for _, kind := range []int{0, 4, 5, -1, -3, 1<<32 + 1, math.MaxInt, math.MinInt} {
		list = append(list, api.Action{Kind: kind, Name: "x"}, api.Action{Kind: kind, Name: "x", Expr: []api.Cell{num(1)}})
	}
	for _, name := range []string{"", "X", "1", "_a", "in", "re", "im", "true", "false", "abcdefghijklm", "a b", " a", "a ", "a=", "a;b", "a:b", "raise:a", "a.b", "ä", "a\x00"} {
		list = append(list, become(name, num(1)), raise(name), send(name), raise("done."+name), send("done."+name))
	}
	for _, name := range []string{"done.a", "done.", "done.done", "done.done.a"} {
		list = append(list, become(name, num(1)))
	}
	for _, name := range []string{"done.done.a", "done..a", ".a", "Done.a", "done.a.", "done.a.b", "xdone.a", "done.abcdefghijklm"} {
		list = append(list, raise(name), send(name))
	}
	for _, l := range [][]api.Cell{nil, {num(1)}, {named("x")}, {op(api.OTrue)}, {{}}, {op(99)}} {
		a, b := raise("a"), send("a")
		a.Expr, b.Expr = l, l
		if len(l) > 0 {
			list = append(list, a, b)
		}
	}
	for _, l := range wrongCells() {
		list = append(list, become("x", l...))
	}
	return list
}

// wrongCells are no right expressions, or ones that ask for states.
func wrongCells() [][]api.Cell {
	return [][]api.Cell{
		nil, {}, {{}}, {op(0)}, {op(24)}, {op(-1)}, {op(api.OAdd)}, {op(api.ONeg)}, {num(1), num(2)}, {num(1), op(api.OAdd)}, {num(-1)}, {num(written + 1)}, {imaginary(top + 1)}, {named("")}, {named("in")}, {named("X")}, {{Op: api.OTrue, A: 1}}, {{Op: api.OVar, Name: "x", A: 1}},
		append([]api.Cell{op(api.OTrue)}, slices.Repeat([]api.Cell{op(api.ONot)}, 32)...),
		{in("a")}, {in("x")}, {in("a"), op(api.ONot)}, {in("a"), op(api.OTrue), op(api.OAnd)}, {op(api.OTrue), in("a"), op(api.OOr)}, {named("x"), in("a"), named("y"), op(api.OAdd), op(api.OAdd)}, {in("")}, {in("in")}, {num(1), in("a")},
	}
}

// P6.1: actions that may not be, at each place of blocks of each length.
func TestWrongActions(t *testing.T) {
	good := block(become("x", num(1)), raise("a"), send("done.b"), become("y", named("x")), raise("c"), send("d"), become("z", op(api.OTrue)), raise("e"))
	for _, a := range wrongActions() {
		for n := 1; n <= api.MaxActs; n++ {
			for at := range n {
				l := slices.Clone(good[:n])
				l[at] = a
				wantShow(t, l, "", api.ErrForm)
			}
		}
	}
	for n := 1; n <= api.MaxActs; n++ {
		if !Right(good[:n]) {
			t.Error(n)
		}
	}
}

// P6.1: expressions of as many cells as may be; lists of no cells are one.
func TestEdgesOfExpressions(t *testing.T) {
	long := append([]api.Cell{named("b")}, slices.Repeat([]api.Cell{op(api.ONot)}, 31)...)
	wantShow(t, block(become("b", long...)), "b="+strings.Repeat("!", 31)+"b", api.OK)
	wantParse(t, "b="+strings.Repeat("!", 31)+"b", block(become("b", long...)), api.OK)
	wantShow(t, block(api.Action{Kind: api.ARaise, Name: "a", Expr: []api.Cell{}}, api.Action{Kind: api.ASend, Name: "a", Expr: long[:0]}), "raise:a;send:a", api.OK)
	// The longest text there may be is a text that Parse reads.
	wide := []api.Cell{num(written)}
	for range 15 {
		wide = append(slices.Concat([]api.Cell{num(written)}, wide), op(api.OSub))
	}
	wide = append(wide, op(api.ONeg))
	l := slices.Repeat(block(become("abcdefghijkl", wide...)), api.MaxActs)
	s, e := Show(l)
	if e != api.OK || len(s) < 2000 {
		t.Error(len(s), e)
	}
	wantParse(t, s, l, api.OK)
}

// P6.2: texts that are no actions'.
func TestTextsThatAreNone(t *testing.T) {
	for _, s := range []string{
		"", " ", "x", "x=", "=", "=1", "==", "1=x", "1", "x==1", "x=1=", "x=1=2=3", "x=+", "x=1+", "x=01", "x=(1", "x=1)", "x =1", "x= 1", " x=1", "x=1 ", "x=1\n", "x:=1", "x+=1", "x!=1", "x<=1", "x<1", "x>=1", "x:1", "X=1", "xX=1", "_x=1", "x.y=1", "done.a=1", "in=1", "re=1", "im=1", "true=1", "false=1", "abcdefghijklm=1", "in(a)=1", "re(p)=1", "-x=1", "(x)=1", "x=ä", "ä=1", "x=1\x00",
		"x=in(a)", "x=in(x)", "x=!in(a)", "x=true&in(a)", "x=in(a)|true", "x=(in(a))", "x=re(in(a))", "x=in", "x=in(", "x=in(a", "x=1099511627777", "x=1048577i", "x=1.5",
		"raise", "raise:", "raise: a", "raise:a ", "raise :a", " raise:a", "raise:A", "raise:1", "raise:in", "raise:true", "raise:a b", "raise:a=1", "raise:=1", "raise:x=", "raise::a", "raise:raise:a", "raise:send:a", "raise:abcdefghijklm", "raise:done.", "raise:done.in", "raise:done.A", "raise:done.done.a", "raise:a.b", "raise:done.abcdefghijklm", "raise:.a", "raise:done..a", "Raise:a", "raised:a", "raise;a", "raise,a", "xraise:a",
		"send", "send:", "send: a", "send:a ", "send :a", " send:a", "send:A", "send:1", "send:in", "send:false", "send:a b", "send:a=1", "send:=1", "send::a", "send:send:a", "send:raise:a", "send:abcdefghijklm", "send:done.", "send:done.re", "send:done.done.a", "send:a.b", "Send:a", "sends:a", "xsend:a", "set:x=1", "do:a", ":a", ":", "a:b",
		"x=1,raise:a", "x=1:raise:a", "x=1 raise:a", "x=1\nraise:a", "raise:a,b",
	} {
		wantParse(t, s, nil, api.ErrForm)
		for _, form := range []string{"T;x=1", "x=1;T", "raise:a;T;send:b", "T;T", "x=1;x=1;x=1;x=1;x=1;x=1;x=1;T"} {
			if strings.Count(s, ";") == 0 {
				wantParse(t, strings.ReplaceAll(form, "T", s), nil, api.ErrForm)
			}
		}
	}
}

// P6.2: semicolons at the ends, two side by side, and too many.
func TestSemicolons(t *testing.T) {
	for _, s := range []string{";", ";;", ";x=1", "x=1;", ";x=1;", "x=1;;x=1", "x=1;;", ";;x=1", "raise:a;", ";raise:a", "raise:a;;send:b", "raise:;a", "x;=1", "x=;1", "x=(1;2)", "x=1;x=1;x=1;x=1;x=1;x=1;x=1;", ";x=1;x=1;x=1;x=1;x=1;x=1;x=1", ";;;;;;;"} {
		wantParse(t, s, nil, api.ErrForm)
	}
	// There are nine texts, whatever they are: that is told first.
	for _, s := range []string{";;;;;;;;", ";;;;;;;;;", "x=1;x=1;x=1;x=1;x=1;x=1;x=1;x=1;", ";x=1;x=1;x=1;x=1;x=1;x=1;x=1;x=1", "a;b;c;d;e;f;g;h;i", "x=1;x=1;x=1;x=1;x=1;x=1;x=1;x=1;x=1", "x=in(a);;;;;;;;", "raise:A;;;;;;;;x", strings.Repeat(";", api.MaxText)} {
		wantParse(t, s, nil, api.ErrLong)
	}
}

// P6.2: how long a text may be, and the texts of expressions in it.
func TestLengthsOfTexts(t *testing.T) {
	for _, s := range []string{"x", "x=", "raise:", "x=1;", "raise:a;x=", " ", "\x00"} {
		fill := func(n int) string { return s + strings.Repeat("a", n-len(s)) }
		for _, n := range []int{api.MaxText - 1, api.MaxText} {
			wantParse(t, fill(n), nil, api.ErrForm)
		}
		for _, n := range []int{api.MaxText + 1, 2 * api.MaxText, 1 << 20} {
			wantParse(t, fill(n), nil, api.ErrLong)
		}
	}
	// Each text is as long as its expression lets it be.
	deep := func(inner string, pairs int) string {
		return strings.Repeat("(", pairs) + inner + strings.Repeat(")", pairs)
	}
	for inner, l := range map[string]api.Cell{"y": named("y"), "10": num(10)} {
		for _, name := range []string{"x", "abcdefghijkl"} {
			for pairs, want := range map[int]api.Errno{0: api.OK, 1: api.OK, 299: api.OK, 300: api.ErrForm, 301: api.ErrForm, 2900: api.ErrForm} {
				var good []api.Action
				if want == api.OK {
					good = block(become(name, l))
				}
				wantParse(t, name+"="+deep(inner, pairs), good, want)
			}
		}
	}
	whole := strings.Join(slices.Repeat([]string{"abcdefghijkl=" + deep("10", 299)}, api.MaxActs), ";")
	wantParse(t, whole, slices.Repeat(block(become("abcdefghijkl", num(10))), api.MaxActs), api.OK)
	// More cells than there may be aren't an expression's either.
	for n, want := range map[int]api.Errno{31: api.OK, 32: api.ErrForm, 33: api.ErrForm, 590: api.ErrForm} {
		l, e := Parse("raise:a;b=" + strings.Repeat("-", n) + "y")
		if e != want || (e == api.OK) != (len(l) == 2 && len(l[1].Expr) == n+1) || e != api.OK && len(l) > 0 {
			t.Error(n, l, e)
		}
	}
}

// The forms of texts, told by expressions of their own.
var (
	toldForm    = regexp.MustCompile(`^(raise|send):((?:done\.)?([a-z][a-z0-9_]{0,11}))$`)
	becomesForm = regexp.MustCompile(`^([a-z][a-z0-9_]{0,11})=((?s:.*))$`)
	takenForm   = regexp.MustCompile(`^(true|false|in|re|im)$`)
	asksForm    = regexp.MustCompile(`\bin\(`)
)

// byForm answers the block of a text, by these forms.
func byForm(s string) ([]api.Action, api.Errno) {
	parts := strings.Split(s, ";")
	if len(s) > 6000 || len(parts) > 8 {
		return nil, api.ErrLong
	}
	var l []api.Action
	for _, p := range parts {
		if m := toldForm.FindStringSubmatch(p); m != nil && !takenForm.MatchString(m[3]) {
			l = append(l, api.Action{Kind: map[string]int{"raise": 2, "send": 3}[m[1]], Name: m[2]})
			continue
		}
		m := becomesForm.FindStringSubmatch(p)
		if m == nil || takenForm.MatchString(m[1]) || asksForm.MatchString(m[2]) {
			return nil, api.ErrForm
		}
		cells, _, e := expr.Parse(m[2])
		if e != api.OK {
			return nil, api.ErrForm
		}
		l = append(l, api.Action{Kind: 1, Name: m[1], Expr: cells})
	}
	return l, api.OK
}

// wantBack holds what Parse answers against the forms above, and what Show
// makes of it against the text.
func wantBack(t *testing.T, s string, count map[api.Errno]int) {
	t.Helper()
	l, want := byForm(s)
	count[want]++
	wantParse(t, s, l, want)
	if want != api.OK {
		return
	}
	u, e := Show(l)
	if e != api.OK || !Right(l) {
		t.Errorf("%q: %v %q %v", s, l, u, e)
	}
	wantParse(t, u, l, api.OK)
	// None of these texts has parentheses that aren't wanted, but (x).
	if !strings.Contains(s, "(") && u != s {
		t.Errorf("%q is shown as %q", s, u)
	}
}

// P6.2, P6.4: all texts of few pieces, against the forms above.
func TestShortTexts(t *testing.T) {
	pieces := []string{"x", "=", "1", ";", "raise:", "send:", "done.", "in", "(x)", "!", "A"}
	count := map[api.Errno]int{}
	var down func(s string, n int)
	down = func(s string, n int) {
		wantBack(t, s, count)
		if n == 0 {
			return
		}
		for _, p := range pieces {
			down(s+p, n-1)
		}
	}
	down("", 5)
	if count[api.OK] < 100 || count[api.ErrForm] < 1000 {
		t.Error("too few", count)
	}
}

// P6.2: each byte there is, in the place of each byte of a text and ahead of
// it.
func TestBytesOfTexts(t *testing.T) {
	count := map[api.Errno]int{}
	for _, s := range []string{"x=y+1;raise:a;send:done.b", "a;b=1;c;d;e;f;g=1;raise:h"} {
		for at := range len(s) {
			for b := range 256 {
				wantBack(t, s[:at]+string([]byte{byte(b)})+s[at+1:], count)
				wantBack(t, s[:at]+string([]byte{byte(b)})+s[at:], count)
			}
		}
	}
	if count[api.OK] < 100 || count[api.ErrForm] < 1000 || count[api.ErrLong] < 10 {
		t.Error("too few", count)
	}
}

// P6.3: the chapter's example, and others.
func TestBlocksDone(t *testing.T) {
	_, were := some()
	// with answers what the variables held, but the x and the y.
	with := func(x, y int64) []api.Value { return values(numeral(x), numeral(y), were[2], were[3]) }
	failed := []string{"error"}
	for s, want := range map[string]told{
		"x=1/0;send:a":                        {were, failed, nil, false},
		"x=x+1;send:a;raise:b":                {with(5, -3), []string{"b"}, []string{"a"}, true},
		"raise:a;raise:b;raise:a":             {were, []string{"a", "b", "a"}, nil, true},
		"send:a;send:b;send:a":                {were, nil, []string{"a", "b", "a"}, true},
		"send:a;raise:b;send:c;raise:d":       {were, []string{"b", "d"}, []string{"a", "c"}, true},
		"raise:done.a;send:done.b":            {were, []string{"done.a"}, []string{"done.b"}, true},
		"raise:error;send:error":              {were, []string{"error"}, []string{"error"}, true},
		"x=1":                                 {with(1, -3), nil, nil, true},
		"x=1;x=x+1;x=x*2":                     {with(4, -3), nil, nil, true},
		"y=x;x=y+1":                           {with(5, 4), nil, nil, true},
		"y=x;x=0;y=y+x":                       {with(0, 4), nil, nil, true},
		"x=0-y":                               {with(3, -3), nil, nil, true},
		"x=x":                                 {were, nil, nil, true},
		"b=!b":                                {values(were[0], were[1], truth(0), were[3]), nil, nil, true},
		"b=x<y":                               {values(were[0], were[1], truth(0), were[3]), nil, nil, true},
		"b=false;b=b|x=4":                     {were, nil, nil, true},
		"p=p*1i":                              {values(were[0], were[1], were[2], dot(-1, 1)), nil, nil, true},
		"p=p+p":                               {values(were[0], were[1], were[2], dot(2, 2)), nil, nil, true},
		"x=re(p);y=im(p*1i*1i);p=p-p":         {values(numeral(1), numeral(-1), were[2], dot(0, 0)), nil, nil, true},
		"x=re(p)+im(p);send:a;b=x=2;raise:b":  {values(numeral(2), were[1], truth(1), were[3]), []string{"b"}, []string{"a"}, true},
		"send:a;raise:b;x=1/0;send:c;raise:d": {were, []string{"b", "error"}, []string{"a"}, false},
		"raise:error;x=1/0;raise:c":           {were, []string{"error", "error"}, nil, false},
		"x=1;y=x/0;x=2":                       {with(1, -3), failed, nil, false},
		"x=1;y=2;x=3;y=z":                     {with(3, 2), failed, nil, false},
	} {
		wantText(t, s, want)
	}
}

// P6.3: each way in which an action fails, at the first, a middle and the
// last place: what is ahead stays done, what comes behind isn't done.
func TestFailures(t *testing.T) {
	vars, vals := some()
	faults := block(
		api.Action{}, api.Action{Kind: 4, Name: "x", Expr: []api.Cell{num(1)}}, api.Action{Kind: -1, Name: "a"}, api.Action{Kind: math.MaxInt, Name: "a"}, api.Action{Kind: math.MinInt}, api.Action{Kind: 1<<32 + 1, Name: "x", Expr: []api.Cell{num(1)}}, api.Action{Kind: 1<<32 + 2, Name: "a"},
		become("z", num(1)), become("", num(1)), become("X", num(1)), become("xx", num(1)), become("x ", num(1)),
		become("x"), become("x", op(api.OAdd)), become("x", num(1), num(2)), become("x", num(-1)), become("x", op(99)),
	)
	for _, s := range []string{
		"x=z", "x=1/0", "x=1%0", "y=x/(x-x)", "x=1099511627776*1099511627776", "p=1048576i+1i", "x=b", "x=p", "x=1i", "x=true", "b=x", "b=1", "b=0", "b=p", "p=x", "p=1", "p=b", "x=x+b", "b=!x", "p=p+1", "x=re(x)",
		"x=6", "x=-1", "x=x+2", "x=y", "y=10", "y=-10", "x=1099511627776", "p=3i", "p=-3i", "p=1i+2i", "p=p*p*2i", "p=p*3i", "p=p*-3i", "b=z", "p=z",
	} {
		faults = append(faults, parsed(t, s)...)
	}
	ahead := block(become("x", num(2)), raise("a"), send("b"))
	behind := block(become("y", num(7)), raise("c"), send("d"), become("x", num(3)))
	done := slices.Clone(vals)
	done[0] = numeral(2)
	for _, a := range faults {
		wantDo(t, block(a), vars, vals, told{vals, []string{"error"}, nil, false})
		wantDo(t, slices.Concat(block(a), behind), vars, vals, told{vals, []string{"error"}, nil, false})
		// What is ahead makes x 2, by which some of these wouldn't fail.
		if slices.Contains(a.Expr, named("x")) {
			continue
		}
		wantDo(t, slices.Concat(ahead, block(a), behind), vars, vals, told{done, []string{"a", "error"}, []string{"b"}, false})
		wantDo(t, slices.Concat(ahead, block(a)), vars, vals, told{done, []string{"a", "error"}, []string{"b"}, false})
		wantDo(t, slices.Concat(ahead, block(a, a), behind, block(a)), vars, vals, told{done, []string{"a", "error"}, []string{"b"}, false})
	}
}

// wantSet holds what Do makes of one variable by one expression against what
// it should.
func wantSet(t *testing.T, v api.Var, held api.Value, l []api.Cell, want api.Value, ok bool) {
	t.Helper()
	if ok {
		wantDo(t, block(become(v.Name, l...)), []api.Var{v}, values(held), told{values(want), nil, nil, true})
		return
	}
	wantDo(t, block(become(v.Name, l...)), []api.Var{v}, values(held), told{values(held), []string{"error"}, nil, false})
}

// P6.3: numbers at the bounds of a variable, and one beyond.
func TestBoundsOfNumbers(t *testing.T) {
	more := []api.Cell{named("n"), num(1), op(api.OAdd)}
	fewer := []api.Cell{named("n"), num(1), op(api.OSub)}
	for _, b := range [][2]int64{{0, 5}, {-5, 0}, {-3, 3}, {3, 7}, {-7, -3}, {0, 0}, {4, 4}, {-written, written}, {least + 1, most - 1}, {least, most}} {
		v := api.Var{Name: "n", Kind: api.KInt, Lo: b[0], Hi: b[1]}
		wantSet(t, v, numeral(v.Hi), []api.Cell{named("n")}, numeral(v.Hi), true)
		wantSet(t, v, numeral(v.Lo), []api.Cell{named("n")}, numeral(v.Lo), true)
		wantSet(t, v, numeral(v.Hi), more, api.Value{}, false)
		wantSet(t, v, numeral(v.Lo), fewer, api.Value{}, false)
		if v.Lo < v.Hi {
			wantSet(t, v, numeral(v.Hi-1), more, numeral(v.Hi), true)
			wantSet(t, v, numeral(v.Lo+1), fewer, numeral(v.Lo), true)
		}
		// What a variable holds may stand beyond its bounds; what it becomes may not.
		if v.Lo > least && v.Hi < most {
			wantSet(t, v, numeral(v.Hi+1), []api.Cell{named("n")}, api.Value{}, false)
			wantSet(t, v, numeral(v.Lo-1), []api.Cell{named("n")}, api.Value{}, false)
			wantSet(t, v, numeral(v.Hi+1), fewer, numeral(v.Hi), true)
			wantSet(t, v, numeral(v.Lo-1), more, numeral(v.Lo), true)
		}
	}
	// Between these bounds there is nothing.
	wantSet(t, api.Var{Name: "n", Kind: api.KInt, Lo: 1, Hi: 0}, numeral(0), []api.Cell{named("n")}, api.Value{}, false)
	wantSet(t, api.Var{Name: "n", Kind: api.KInt, Lo: 1, Hi: 0}, numeral(1), []api.Cell{named("n")}, api.Value{}, false)
	wantSet(t, api.Var{Name: "n", Kind: api.KInt, Lo: most, Hi: least}, numeral(1), []api.Cell{named("n")}, api.Value{}, false)
}

// P6.3: truths are held against bounds as 0 or 1.
func TestBoundsOfTruths(t *testing.T) {
	for lo := int64(-1); lo <= 2; lo++ {
		for hi := int64(-1); hi <= 2; hi++ {
			v := api.Var{Name: "n", Kind: api.KBool, Lo: lo, Hi: hi}
			for _, held := range []int64{0, 1} {
				wantSet(t, v, truth(held), []api.Cell{op(api.OTrue)}, truth(1), lo <= 1 && 1 <= hi)
				wantSet(t, v, truth(held), []api.Cell{op(api.OFalse)}, truth(0), lo <= 0 && 0 <= hi)
				wantSet(t, v, truth(held), []api.Cell{named("n"), op(api.ONot)}, truth(1-held), lo <= 1-held && 1-held <= hi)
			}
		}
	}
}

// P6.3: of points each part is held against the bounds.
func TestBoundsOfPoints(t *testing.T) {
	for _, b := range [][2]int64{{-2, 2}, {0, 3}, {-3, 0}, {1, 2}, {-2, -1}, {0, 0}, {2, 2}, {-top, top}, {least, most}, {1, 0}} {
		v := api.Var{Name: "n", Kind: api.KPoint, Lo: b[0], Hi: b[1]}
		parts := []int64{-top, -4, -3, -2, -1, 0, 1, 2, 3, 4, top}
		for _, re := range parts {
			for _, im := range parts {
				ok := v.Lo <= re && re <= v.Hi && v.Lo <= im && im <= v.Hi
				wantSet(t, v, dot(re, im), []api.Cell{named("n")}, dot(re, im), ok)
				wantSet(t, v, dot(-re, -im), []api.Cell{named("n"), op(api.ONeg)}, dot(re, im), ok)
				wantSet(t, v, dot(im, -re), []api.Cell{named("n"), imaginary(1), op(api.OMul)}, dot(re, im), ok)
			}
		}
	}
	v := api.Var{Name: "n", Kind: api.KPoint, Lo: least, Hi: most}
	wantSet(t, v, dot(top, 0), []api.Cell{named("n"), imaginary(1), op(api.OMul)}, dot(0, top), true)
	wantSet(t, v, dot(0, top), []api.Cell{named("n"), imaginary(1), op(api.OAdd)}, api.Value{}, false)
	wantSet(t, v, dot(0, -top), []api.Cell{named("n"), imaginary(1), op(api.OSub)}, api.Value{}, false)
}

// P6.3: a value of another kind than the variable's, which counts, whatever
// the variable held.
func TestKindsOfValues(t *testing.T) {
	by := map[int][]api.Cell{api.KInt: {num(1)}, api.KBool: {op(api.OTrue)}, api.KPoint: {imaginary(1)}}
	is := map[int]api.Value{api.KInt: numeral(1), api.KBool: truth(1), api.KPoint: dot(0, 1)}
	for _, kind := range []int{0, api.KInt, api.KBool, api.KPoint, 4, -1, 1<<32 + 1, math.MaxInt, math.MinInt} {
		v := api.Var{Name: "n", Kind: kind, Lo: least, Hi: most}
		for of, l := range by {
			for _, held := range is {
				wantSet(t, v, held, l, is[of], of == kind)
				wantSet(t, v, held, []api.Cell{named("n")}, held, held.Kind == kind)
			}
		}
	}
}

// P6.3: of two variables of one name the first one counts, and becomes.
func TestVariablesOfOneName(t *testing.T) {
	vars := []api.Var{{Name: "o", Kind: api.KInt, Lo: -9, Hi: 9}, {Name: "n", Kind: api.KInt, Lo: 0, Hi: 3}, {Name: "n", Kind: api.KInt, Lo: 0, Hi: 9}, {Name: "n", Kind: api.KBool, Lo: 0, Hi: 1}}
	vals := values(numeral(5), numeral(1), numeral(7), truth(1))
	wantDo(t, parsed(t, "n=n+1;o=n"), vars, vals, told{values(numeral(2), numeral(2), numeral(7), truth(1)), nil, nil, true})
	wantDo(t, parsed(t, "n=n+1;n=n+1;n=n+1"), vars, vals, told{values(numeral(5), numeral(3), numeral(7), truth(1)), []string{"error"}, nil, false})
	wantDo(t, parsed(t, "n=4"), vars, vals, told{vals, []string{"error"}, nil, false})
	wantDo(t, parsed(t, "n=true"), vars, vals, told{vals, []string{"error"}, nil, false})
	wantDo(t, parsed(t, "o=n;n=0"), vars, vals, told{values(numeral(1), numeral(0), numeral(7), truth(1)), nil, nil, true})
}

// P6.3: lists of variables and values of unlike lengths, and values that
// aren't right: nothing comes to a value, but events are told.
func TestUnlikeLengths(t *testing.T) {
	vars, vals := some()
	for n := range len(vars) + 1 {
		for k := range len(vals) + 1 {
			for _, s := range []string{"x=1", "y=1", "b=true", "p=1i", "z=1"} {
				l := parsed(t, "raise:a;send:b;"+s+";raise:c")
				is := slices.IndexFunc(vars[:n], func(v api.Var) bool { return v.Name == s[:1] })
				if n != k || is < 0 {
					wantDo(t, l, vars[:n], vals[:k], told{vals[:k], []string{"a", "error"}, []string{"b"}, false})
				} else if v, raised, sent, ok := Do(l, vars[:n], vals[:k]); len(v) != k || v[is] == vals[is] && s != "b=true" || !slices.Equal(raised, []string{"a", "c"}) || !slices.Equal(sent, []string{"b"}) || !ok {
					t.Error(n, k, s, v, raised, sent, ok)
				}
			}
			wantDo(t, parsed(t, "raise:a;send:b"), vars[:n], vals[:k], told{vals[:k], []string{"a"}, []string{"b"}, true})
		}
	}
	for _, bad := range []api.Value{{}, {Kind: 4}, {Kind: api.KInt, B: 1}, {Kind: api.KBool, A: 2}, dot(top+1, 0)} {
		for at := range vals {
			l := slices.Clone(vals)
			l[at] = bad
			wantDo(t, parsed(t, "send:a;x=1"), vars, l, told{l, []string{"error"}, []string{"a"}, false})
			wantDo(t, parsed(t, "raise:a;send:b"), vars, l, told{l, []string{"a"}, []string{"b"}, true})
		}
	}
}

// P6.3: blocks that aren't right are done as far as their actions don't fail.
func TestBlocksThatAreNotRight(t *testing.T) {
	vars, vals := some()
	for _, l := range [][]api.Action{nil, {}, block(raise("a"))[:0]} {
		wantDo(t, l, vars, vals, told{vals, nil, nil, true})
		wantDo(t, l, nil, nil, told{nil, nil, nil, true})
		wantDo(t, l, []api.Var{}, []api.Value{}, told{nil, nil, nil, true})
	}
	for _, name := range []string{"", "A", "in", "done.", "a b", "abcdefghijklm"} {
		wantDo(t, block(raise(name), send(name)), vars, vals, told{vals, []string{name}, []string{name}, true})
	}
	full := func(a api.Action) api.Action {
		a.Expr = []api.Cell{num(1), num(0), op(api.ODiv)}
		return a
	}
	wantDo(t, block(full(raise("a")), full(send("b"))), vars, vals, told{vals, []string{"a"}, []string{"b"}, true})
	// No state is active.
	wantDo(t, block(become("b", in("a"))), vars, vals, told{values(vals[0], vals[1], truth(0), vals[3]), nil, nil, true})
	wantDo(t, block(become("b", in("b"), op(api.ONot))), vars, vals, told{vals, nil, nil, true})
	// A name that is none may still be a variable's.
	wantSet(t, api.Var{Name: "in", Kind: api.KInt, Hi: 9}, numeral(1), []api.Cell{num(7)}, numeral(7), true)
	wantSet(t, api.Var{Kind: api.KInt, Hi: 9}, numeral(1), []api.Cell{num(7)}, numeral(7), true)
	for _, n := range []int{9, 1 << 12} {
		wantDo(t, slices.Repeat(block(raise("a"), send("b")), n), vars, vals, told{vals, slices.Repeat([]string{"a"}, n), slices.Repeat([]string{"b"}, n), true})
	}
	wantDo(t, append(slices.Repeat(block(become("y", named("y"), num(1), op(api.OAdd))), 12), raise("a")), vars, vals, told{values(vals[0], numeral(9), vals[2], vals[3]), []string{"a"}, nil, true})
	wantDo(t, append(slices.Repeat(block(become("y", named("y"), num(1), op(api.OAdd))), 13), raise("a")), vars, vals, told{values(vals[0], numeral(9), vals[2], vals[3]), []string{"error"}, nil, false})
}

// plain is what variables hold, by themselves.
type plain struct {
	x, y, re, im int
	b            bool
}

// values answers them as values.
func (h plain) values() []api.Value {
	b := int64(0)
	if h.b {
		b = 1
	}
	return values(numeral(int64(h.x)), numeral(int64(h.y)), truth(b), dot(int64(h.re), int64(h.im)))
}

// fits tells whether all are within their bounds.
func (h plain) fits() bool {
	return 0 <= h.x && h.x <= 5 && -9 <= h.y && h.y <= 9 && -2 <= h.re && h.re <= 2 && -2 <= h.im && h.im <= 2
}

// move is an action, and what it is by itself: what is raised, what is sent,
// what variables become, if they may.
type move struct {
	a            api.Action
	raised, sent string
	becomes      func(plain) (plain, bool)
}

// moves are some actions.
func moves(t *testing.T) []move {
	of := func(s string, f func(h plain) (plain, bool)) move { return move{a: parsed(t, s)[0], becomes: f} }
	fails := func(h plain) (plain, bool) { return h, false }
	stays := func(h plain) (plain, bool) { return h, true }
	return []move{
		{raise("a"), "a", "", stays}, {raise("done.b"), "done.b", "", stays}, {send("c"), "", "c", stays},
		of("x=x+1", func(h plain) (plain, bool) { h.x++; return h, true }),
		of("y=y*-2+x", func(h plain) (plain, bool) { h.y = h.x - 2*h.y; return h, true }),
		of("x=12/x", func(h plain) (plain, bool) {
			if h.x == 0 {
				return h, false
			}
			h.x = 12 / h.x
			return h, true
		}),
		of("x=0", func(h plain) (plain, bool) { h.x = 0; return h, true }),
		of("b=!b&x>y", func(h plain) (plain, bool) { h.b = !h.b && h.x > h.y; return h, true }),
		of("p=p*1i+1i", func(h plain) (plain, bool) { h.re, h.im = -h.im, h.re+1; return h, true }),
		of("p=p*p", func(h plain) (plain, bool) { h.re, h.im = h.re*h.re-h.im*h.im, 2*h.re*h.im; return h, true }),
		of("x=x+b", fails), of("z=1", fails), {a: api.Action{Kind: 7}, becomes: fails},
	}
}

// P6.3, P6.4: all blocks of few of these actions, against what they are by
// themselves, and in two parts.
func TestShortBlocks(t *testing.T) {
	all := moves(t)
	vars, vals := some()
	held := plain{4, -3, 1, 1, true}
	if !slices.Equal(held.values(), vals) {
		t.Fatal("not the same", vals)
	}
	good, bad := 0, 0
	var down func(l []api.Action, h plain, raised, sent []string, ok bool, n int)
	down = func(l []api.Action, h plain, raised, sent []string, ok bool, n int) {
		want := told{h.values(), raised, sent, ok}
		wantDo(t, l, vars, vals, want)
		wantParts(t, l, vars, vals, want)
		if ok {
			good++
		} else {
			bad++
		}
		if n == 0 {
			return
		}
		for _, m := range all {
			longer := append(slices.Clone(l), m.a)
			if !ok {
				down(longer, h, raised, sent, false, n-1)
				continue
			}
			now, may := m.becomes(h)
			if !may || !now.fits() {
				down(longer, h, append(slices.Clone(raised), "error"), sent, false, n-1)
				continue
			}
			more, out := slices.Clone(raised), slices.Clone(sent)
			if m.raised != "" {
				more = append(more, m.raised)
			}
			if m.sent != "" {
				out = append(out, m.sent)
			}
			down(longer, now, more, out, true, n-1)
		}
	}
	down(nil, held, nil, nil, true, 4)
	if good < 2000 || bad < 2000 {
		t.Error("too few", good, bad)
	}
}

// wantParts holds what a block in two parts makes against what it should at
// once; behind a part that fails nothing is done.
func wantParts(t *testing.T, l []api.Action, vars []api.Var, vals []api.Value, want told) {
	t.Helper()
	for at := range len(l) + 1 {
		v, raised, sent, ok := Do(l[:at], vars, vals)
		if ok {
			w, more, out, good := Do(l[at:], vars, v)
			v, raised, sent, ok = w, slices.Concat(raised, more), slices.Concat(sent, out), good
		}
		if !slices.Equal(v, want.vals) || !slices.Equal(raised, want.raised) || !slices.Equal(sent, want.sent) || ok != want.ok {
			t.Errorf("%v in two parts, at %d: %v %q %q %v, wanted %v", l, at, v, raised, sent, ok, want)
		}
	}
}

// P6.1, P6.4: all blocks of some right actions and of some wrong ones: Parse
// of Show is the block, where there is a text.
func TestParseOfShow(t *testing.T) {
	good := block(become("x", named("x"), num(1), op(api.OAdd)), become("b", named("x"), num(2), op(api.OEq)), become("raise", num(1)), raise("a"), raise("done.a"), send("b"), send("done.done"))
	bad := block(raise("in"), become("x"), become("x", in("a")), api.Action{Kind: 4, Name: "a"})
	var down func(l []api.Action, right bool)
	down = func(l []api.Action, right bool) {
		s, e := Show(l)
		if right && len(l) > 0 {
			if e != api.OK || !Right(l) {
				t.Error(l, s, e)
			}
			wantParse(t, s, l, api.OK)
		} else {
			wantShow(t, l, "", api.ErrForm)
		}
		if len(l) == 4 {
			return
		}
		for _, a := range good {
			down(append(slices.Clone(l), a), right)
		}
		for _, a := range bad {
			down(append(slices.Clone(l), a), false)
		}
	}
	down(nil, true)
}

// P6.4: longer expressions, made by a rule from a number, in blocks of eight.
func TestParseOfShowOfLongBlocks(t *testing.T) {
	seed := uint32(6)
	next := func(n int) int {
		seed = seed*1664525 + 1013904223
		return int(seed>>8) % n
	}
	leaves := []api.Cell{num(0), num(written), imaginary(top), op(api.OTrue), op(api.OFalse), named("x"), named("abcdefghijkl")}
	cells := func() []api.Cell {
		l := []api.Cell{leaves[next(len(leaves))]}
		for len(l) < 31 && next(12) > 0 {
			switch leaf := leaves[next(len(leaves))]; next(3) {
			case 0:
				l = append(l, op(api.ONeg+next(4)))
			case 1:
				l = append(l, leaf, op(api.OAdd+next(13)))
			default:
				l = append(slices.Concat([]api.Cell{leaf}, l), op(api.OAdd+next(13)))
			}
		}
		return l
	}
	for range 2000 {
		var l []api.Action
		for range api.MaxActs {
			l = append(l, become("v"+strconv.Itoa(next(9)), cells()...))
		}
		s, e := Show(l)
		if e != api.OK {
			t.Fatal(l, e)
		}
		wantParse(t, s, l, api.OK)
	}
}

// P6.1, P6.2, P6.3: what is handed in stays, its spare room too, and asking
// again answers the same.
func TestNothingHandedInIsChanged(t *testing.T) {
	for _, s := range []string{"x=x+1;raise:a;send:b;y=x", "raise:a;x=1/0;raise:c", "x=1;y=2;x=3;z=1", "raise:a", "send:b", "p=p*1i;b=!b"} {
		l := parsed(t, s)
		acts := append(slices.Clone(l), raise("q"), become("x", num(5)))
		vars, vals := some()
		vars, vals = append(vars, api.Var{Name: "z", Kind: api.KInt, Hi: 9}), append(vals, numeral(9))
		n := len(vars) - 1
		var actsWere []api.Action
		for _, a := range acts {
			actsWere = append(actsWere, api.Action{Kind: a.Kind, Name: a.Name, Expr: slices.Clone(a.Expr)})
		}
		varsWere, valsWere := slices.Clone(vars), slices.Clone(vals)
		v, raised, sent, ok := Do(acts[:len(l)], vars[:n], vals[:n])
		text, e := Show(acts[:len(l)])
		wantDo(t, acts[:len(l)], vars[:n], vals[:n], told{v, raised, sent, ok})
		wantShow(t, acts[:len(l)], text, e)
		if !reflect.DeepEqual(acts, actsWere) || !slices.Equal(vars, varsWere) || !slices.Equal(vals, valsWere) {
			t.Error(s, "changed what was handed in", acts, vars, vals)
		}
		// What was answered is new, spare room included.
		filled(v, numeral(99))
		filled(raised, "other")
		filled(sent, "others")
		if !slices.Equal(vals, valsWere) || !reflect.DeepEqual(acts, actsWere) {
			t.Error(s, "shares what it answers with what was handed in", acts, vals)
		}
		if all := raised[:cap(raised)]; slices.Contains(all, "others") {
			t.Error(s, "two lists share memory")
		}
	}
}

// filled writes over a list and its spare room.
func filled[T any](l []T, with T) {
	l = l[:cap(l)]
	for i := range l {
		l[i] = with
	}
}

// P6.2: blocks and the expressions in them share nothing.
func TestBlocksShareNothing(t *testing.T) {
	const s = "x=y+1;x=y+1;raise:a;y=x"
	l, was := parsed(t, s), parsed(t, s)
	for i := range l {
		filled(l[i].Expr, num(99))
		for k := i + 1; k < len(l); k++ {
			if !slices.Equal(l[k].Expr, was[k].Expr) {
				t.Error(i, k, "share an expression")
			}
		}
	}
	filled(l, raise("z"))
	wantParse(t, s, was, api.OK)
}

// begin answers where a text's bytes stand.
func begin(s string) uintptr { return uintptr(unsafe.Pointer(unsafe.StringData(s))) }

// P6.1, P6.2, P6.3: the names in what is answered are no pieces of what was
// handed in.
func TestNamesAreNew(t *testing.T) {
	s := strings.Clone("long=other+1;raise:going;send:done.there")
	l := parsed(t, s)
	apart := func(what, of string) {
		if begin(of) <= begin(what) && begin(what) < begin(of)+uintptr(len(of)) {
			t.Errorf("%q shares the memory of %q", what, of)
		}
	}
	for _, a := range l {
		apart(a.Name, s)
		for _, c := range a.Expr {
			if c.Name != "" {
				apart(c.Name, s)
			}
		}
	}
	_, raised, sent, _ := Do(l, []api.Var{{Name: "long", Kind: api.KInt, Hi: 9}, {Name: "other", Kind: api.KInt, Hi: 9}}, values(numeral(1), numeral(2)))
	apart(raised[0], l[1].Name)
	apart(sent[0], l[2].Name)
	for _, a := range l {
		text, e := Show(block(a))
		if e != api.OK {
			t.Error(a, e)
		}
		apart(text, a.Name)
	}
}
