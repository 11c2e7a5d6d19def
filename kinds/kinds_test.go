package kinds

import (
	"math"
	"slices"
	"strings"
	"testing"

	"quintain/api"
	"quintain/expr"
)

func op(n int) api.Cell       { return api.Cell{Op: n} }
func num(n int64) api.Cell    { return api.Cell{Op: api.OInt, A: n} }
func imag(n int64) api.Cell   { return api.Cell{Op: api.OImag, A: n} }
func named(s string) api.Cell { return api.Cell{Op: api.OVar, Name: s} }
func in(s string) api.Cell    { return api.Cell{Op: api.OIn, Name: s} }

// some are variables of each kind, and of kinds that there aren't.
func some() []api.Var {
	return []api.Var{
		{Name: "w"}, {Name: "x", Kind: api.KInt}, {Name: "b", Kind: api.KBool}, {Name: "p", Kind: api.KPoint},
		{Name: "v", Kind: 4}, {Name: "u", Kind: -1}, {Name: "r", Kind: math.MaxInt}, {Name: "q", Kind: math.MinInt},
	}
}

// parsed answers the expression of a text that is one.
func parsed(t *testing.T, s string) []api.Cell {
	t.Helper()
	l, at, e := expr.Parse(s)
	if e != api.OK {
		t.Fatal(s, at, e)
	}
	return l
}

// wantOf holds what Of answers against what it should.
func wantOf(t *testing.T, l []api.Cell, vars []api.Var, states []string, kind int, want api.Errno) {
	t.Helper()
	if k, e := Of(l, vars, states); k != kind || e != want {
		t.Errorf("%v by %v and %v: %v %v, wanted %v %v", l, vars, states, k, e, kind, want)
	}
}

// wantText does so for the expression of a text.
func wantText(t *testing.T, s string, vars []api.Var, states []string, kind int, want api.Errno) {
	t.Helper()
	l := parsed(t, s)
	if k, e := Of(l, vars, states); k != kind || e != want {
		t.Errorf("%s by %v and %v: %v %v, wanted %v %v", s, vars, states, k, e, kind, want)
	}
}

// P4.1: the chapter's examples, and expressions of some length.
func TestKindsOfTexts(t *testing.T) {
	for s, kind := range map[string]int{
		"x+1": api.KInt, "x<1": api.KBool, "x": api.KInt, "b": api.KBool, "p": api.KPoint,
		"0": api.KInt, "0i": api.KPoint, "1099511627776": api.KInt, "1048576i": api.KPoint, "true": api.KBool, "false": api.KBool, "in(a)": api.KBool,
		"(x+1)*-x-7/x%2": api.KInt, "p*2i-p+-1i": api.KPoint, "re(p*p)%im(-p)": api.KInt, "re(p)+im(p)*x": api.KInt,
		"p=0i": api.KBool, "p!=-p": api.KBool, "b=true": api.KBool, "b!=(x<1)": api.KBool, "x=1": api.KBool, "(p=p)=(x=x)": api.KBool, "(x<1)=(b=b)": api.KBool,
		"in(a)&!b|x>=re(p)": api.KBool, "!(in(a)|in(b))&true": api.KBool, "!!b": api.KBool, "--x": api.KInt, "--p": api.KPoint,
		"x+x+x+x+x+x+x+x+x+x+x+x+x+x+x+x": api.KInt, "-p+p+p+p+p+p+p+p+p+p+p+p+p+p+p=p": api.KBool,
	} {
		wantText(t, s, some(), []string{"a", "b"}, kind, api.OK)
	}
	for s, want := range map[string]api.Errno{
		"x+1i": api.ErrKind, "2+1i": api.ErrKind, "y": api.ErrName, "in(z)": api.ErrName, "b+b": api.ErrKind, "p<p": api.ErrKind, "p%p": api.ErrKind, "p/p": api.ErrKind, "b<b": api.ErrKind,
		"!x": api.ErrKind, "!p": api.ErrKind, "-b": api.ErrKind, "-in(a)": api.ErrKind, "re(x)": api.ErrKind, "im(x)": api.ErrKind, "re(b)": api.ErrKind, "re(re(p))": api.ErrKind,
		"x&b": api.ErrKind, "b|x": api.ErrKind, "x=b": api.ErrKind, "p=x": api.ErrKind, "b!=p": api.ErrKind, "(x<1)<1": api.ErrKind, "(x=1)=1": api.ErrKind, "!x=1": api.ErrKind, "x&1": api.ErrKind,
	} {
		wantText(t, s, some(), []string{"a", "b"}, 0, want)
	}
}

// rules tell for each operator, by the letters of kinds, what it makes of
// which operands; what isn't told may not be.
func rules() map[int]string {
	return map[int]string{
		api.ONeg: "x>x p>p", api.ONot: "b>b", api.ORe: "p>x", api.OIm: "p>x",
		api.OAdd: "xx>x pp>p", api.OSub: "xx>x pp>p", api.OMul: "xx>x pp>p", api.ODiv: "xx>x", api.OMod: "xx>x",
		api.OEq: "xx>b bb>b pp>b", api.ONe: "xx>b bb>b pp>b", api.OLt: "xx>b", api.OLe: "xx>b", api.OGt: "xx>b", api.OGe: "xx>b",
		api.OAnd: "bb>b", api.OOr: "bb>b",
	}
}

// wanted answers the kind that rules tell, by letters, and whether they do.
func wanted(n int, under string) (int, bool) {
	for _, r := range strings.Fields(rules()[n]) {
		if to, ok := strings.CutPrefix(r, under+">"); ok {
			return 1 + strings.Index("xbp", to), true
		}
	}
	return 0, false
}

// P4.1: each cell that joins, with operands of each kind, which are variables,
// or are written, or are joined themselves.
func TestEachCellWithEachKind(t *testing.T) {
	operands := map[string][][]api.Cell{
		"x": {{named("x")}, {num(3)}, {num(3), op(api.ONeg)}, {imag(3), op(api.OIm)}, {num(1), num(2), op(api.OAdd)}},
		"b": {{named("b")}, {op(api.OTrue)}, {op(api.OFalse)}, {in("a")}, {in("a"), op(api.ONot)}, {num(1), num(2), op(api.OLt)}},
		"p": {{named("p")}, {imag(3)}, {imag(3), op(api.ONeg)}, {imag(1), named("p"), op(api.OMul)}},
	}
	hold := func(l []api.Cell, n int, under string) {
		kind, ok := wanted(n, under)
		if ok {
			wantOf(t, append(l, op(n)), some(), []string{"a"}, kind, api.OK)
		} else {
			wantOf(t, append(l, op(n)), some(), []string{"a"}, 0, api.ErrKind)
		}
	}
	for left, ls := range operands {
		for _, l := range ls {
			wantOf(t, l, some(), []string{"a"}, 1+strings.Index("xbp", left), api.OK)
			for n := api.ONeg; n <= api.OIm; n++ {
				hold(slices.Clone(l), n, left)
			}
			for right, rs := range operands {
				for _, r := range rs {
					for n := api.OAdd; n <= api.OOr; n++ {
						hold(slices.Concat(l, r), n, left+right)
					}
				}
			}
		}
	}
}

// P4.1: lists that aren't right expressions, whatever else is wrong in them.
func TestWhatIsNotRight(t *testing.T) {
	long := append([]api.Cell{named("x")}, slices.Repeat([]api.Cell{op(api.ONeg)}, 31)...)
	wantOf(t, long, some(), nil, api.KInt, api.OK)
	for _, l := range [][]api.Cell{
		nil, {}, append(long, op(api.ONeg)), slices.Repeat([]api.Cell{num(1)}, 1<<16),
		{named("x"), named("x")}, {op(api.ONeg)}, {op(api.OAdd)}, {named("x"), op(api.OAdd)}, {named("x"), op(api.OAdd), named("x")}, {op(api.ONot), named("b")},
		{op(0)}, {op(24)}, {op(-1)}, {op(math.MaxInt)}, {op(math.MinInt)}, {named("x"), op(0)}, {named("x"), named("x"), op(24)},
		{num(-1)}, {num(api.MaxNumber + 1)}, {imag(-1)}, {imag(api.MaxPart + 1)}, {{Op: api.OTrue, A: 1}}, {{Op: api.OFalse, Name: "a"}}, {{Op: api.OVar, Name: "x", A: 1}}, {{Op: api.OIn, Name: "a", A: 1}},
		{named("")}, {named("A")}, {named("in")}, {named("abcdefghijklm")}, {in("")}, {in("true")}, {in("done.a")},
		{named("x"), {Op: api.ONeg, A: 1}}, {named("x"), named("x"), {Op: api.OAdd, Name: "x"}},
		{named("y"), named("y")}, {in("z"), in("z")}, {named("y"), op(api.OAdd)}, {named("w"), op(0)}, {named("x"), named("b"), op(api.OAdd), op(api.OAdd)}, {named("x"), op(api.ONot), op(99)},
	} {
		wantOf(t, l, some(), []string{"a"}, 0, api.ErrForm)
		wantOf(t, l, nil, nil, 0, api.ErrForm)
		// Nor does it help that there is what is named.
		wantOf(t, l, []api.Var{{Kind: api.KInt}, {Name: "A", Kind: api.KInt}, {Name: "in", Kind: api.KInt}, {Name: "abcdefghijklm", Kind: api.KInt}}, []string{"", "true", "done.a"}, 0, api.ErrForm)
	}
}

// P4.1: names that are none of those that there are.
func TestNamesThatAreNone(t *testing.T) {
	states := []string{"a", "ab", "c_1"}
	for _, s := range []string{"y", "xx", "a", "ab", "c_1", "x_", "x1", "bb", "pp", "abcdefghijkl"} {
		wantText(t, s, some(), states, 0, api.ErrName)
		wantText(t, "x+"+s, some(), states, 0, api.ErrName)
	}
	for _, s := range []string{"x", "b", "p", "w", "aa", "c_", "c_1_", "c", "abc", "abcdefghijkl"} {
		wantText(t, "in("+s+")", some(), states, 0, api.ErrName)
		wantText(t, "!in("+s+")", some(), states, 0, api.ErrName)
	}
	for _, s := range states {
		wantText(t, "in("+s+")", some(), states, api.KBool, api.OK)
	}
	wantText(t, "x", []api.Var{{Kind: api.KInt}, {Name: "X", Kind: api.KInt}, {Name: "x ", Kind: api.KInt}, {Name: " x", Kind: api.KInt}, {Name: "x\x00", Kind: api.KInt}}, []string{"x"}, 0, api.ErrName)
	wantText(t, "in(a)", []api.Var{{Name: "a", Kind: api.KBool}}, []string{"", "A", "a ", " a", "in(a)", "a\x00"}, 0, api.ErrName)
}

// P4.1: a variable and a state of one name have nothing to do with each other.
func TestVariablesAndStatesOfOneName(t *testing.T) {
	wantText(t, "in(x)&x<1", some(), []string{"x"}, api.KBool, api.OK)
	wantText(t, "in(w)", some(), []string{"w"}, api.KBool, api.OK)
	wantText(t, "in(w)&w", some(), []string{"w"}, 0, api.ErrKind)
}

// P4.1: no variables, no states, as nil and as lists that are empty.
func TestNothingThere(t *testing.T) {
	for _, vars := range [][]api.Var{nil, {}, some()[:0]} {
		for _, states := range [][]string{nil, {}, []string{"a"}[:0]} {
			wantText(t, "x", vars, states, 0, api.ErrName)
			wantText(t, "in(a)", vars, states, 0, api.ErrName)
			wantText(t, "1+2", vars, states, api.KInt, api.OK)
			wantText(t, "re(1i)", vars, states, api.KInt, api.OK)
			wantText(t, "1i-2i", vars, states, api.KPoint, api.OK)
			wantText(t, "!true|1<2", vars, states, api.KBool, api.OK)
			wantText(t, "1+true", vars, states, 0, api.ErrKind)
			wantOf(t, nil, vars, states, 0, api.ErrForm)
			wantOf(t, []api.Cell{}, vars, states, 0, api.ErrForm)
		}
		wantText(t, "in(a)", vars, []string{"a"}, api.KBool, api.OK)
	}
	for _, states := range [][]string{nil, {}} {
		wantText(t, "x", some(), states, api.KInt, api.OK)
	}
}

// P4.1: of several variables of one name the first counts.
func TestVariablesOfOneName(t *testing.T) {
	kinds := []int{api.KInt, api.KBool, api.KPoint, 0, 4}
	for _, first := range kinds {
		for _, second := range kinds {
			for _, third := range kinds {
				vars := []api.Var{{Name: "o", Kind: api.KBool}, {Name: "n", Kind: first}, {Name: "m", Kind: api.KPoint}, {Name: "n", Kind: second}, {Name: "n", Kind: third}}
				if first == 0 || first == 4 {
					wantText(t, "n", vars, nil, 0, api.ErrKind)
					continue
				}
				wantText(t, "n", vars, nil, first, api.OK)
				wantText(t, "n=n", vars, nil, api.KBool, api.OK)
			}
		}
	}
	wantText(t, "in(a)", nil, []string{"a", "a", "b", "a"}, api.KBool, api.OK)
}

// P4.1: variables of kinds that there aren't, wherever they stand; they count
// only where they are named.
func TestKindsThatAreNone(t *testing.T) {
	for _, kind := range []int{0, -1, -2, -3, 4, 5, 1 << 32, 1<<32 + 1, math.MaxInt, math.MinInt} {
		bad := api.Var{Name: "bad", Kind: kind}
		good := []api.Var{{Name: "x", Kind: api.KInt}, {Name: "y", Kind: api.KInt}}
		for at := range 3 {
			vars := slices.Insert(slices.Clone(good), at, bad)
			for _, s := range []string{"bad", "bad+1", "1+bad", "x+bad", "bad=bad", "bad!=bad", "-bad", "!bad", "re(bad)", "bad&true", "bad+z", "bad+true", "x=y&bad"} {
				wantText(t, s, vars, []string{"bad"}, 0, api.ErrKind)
			}
			wantText(t, "x+y", vars, nil, api.KInt, api.OK)
			wantText(t, "in(bad)", vars, []string{"bad"}, api.KBool, api.OK)
			wantText(t, "z+bad", vars, nil, 0, api.ErrName)
		}
	}
	for _, kind := range []int{api.KInt, api.KBool, api.KPoint} {
		// Whatever else of a variable is wrong, its kind is told.
		wantText(t, "x", []api.Var{{Name: "x", Kind: kind, Lo: 7, Hi: -7, Init: api.Value{Kind: 9, A: math.MaxInt64, B: 1}}}, nil, kind, api.OK)
	}
}

// P4.1: the cells are gone through in order, and the first fault is told.
func TestFirstFault(t *testing.T) {
	for s, want := range map[string]api.Errno{
		"y+(x+b)": api.ErrName, "x+b+y": api.ErrKind, "(x+b)*y": api.ErrKind, "x+b*y": api.ErrName, "y+w": api.ErrName, "w+y": api.ErrKind,
		"in(z)&w": api.ErrName, "w&in(z)": api.ErrKind, "!x&in(z)": api.ErrKind, "in(z)&!x": api.ErrName, "!y": api.ErrName, "-in(z)": api.ErrName,
		"x+in(z)": api.ErrName, "x+w": api.ErrKind, "x*1i+y": api.ErrKind, "x*(1i+y)": api.ErrName, "re(x)=y": api.ErrKind, "y=re(x)": api.ErrName,
		"in(a)+in(z)": api.ErrName, "in(a)+in(a)+in(z)": api.ErrKind, "!y+x+b": api.ErrName, "-b+y": api.ErrKind,
	} {
		wantText(t, s, some(), []string{"a"}, 0, want)
	}
}

// byRules answers the kind of the value that the last of the cells ends, and
// the cells ahead of that value: a reading of its own, from the last cell on.
func byRules(l []api.Cell, vars []api.Var, states []string) (string, []api.Cell, api.Errno) {
	c, rest := l[len(l)-1], l[:len(l)-1]
	under := ""
	switch n := c.Op; {
	case n == api.OInt:
		return "x", rest, api.OK
	case n == api.OImag:
		return "p", rest, api.OK
	case n == api.OTrue || n == api.OFalse || n == api.OIn && slices.Contains(states, c.Name):
		return "b", rest, api.OK
	case n == api.OIn:
		return "", rest, api.ErrName
	case n == api.OVar:
		for _, v := range vars {
			if v.Name == c.Name && v.Kind >= 1 && v.Kind <= 3 {
				return "xbp"[v.Kind-1 : v.Kind], rest, api.OK
			}
			if v.Name == c.Name {
				return "", rest, api.ErrKind
			}
		}
		return "", rest, api.ErrName
	case n >= api.OAdd:
		right, ahead, e := byRules(rest, vars, states)
		left, ahead, first := byRules(ahead, vars, states)
		if first != api.OK {
			e = first
		}
		if e != api.OK {
			return "", ahead, e
		}
		under, rest = left+right, ahead
	default:
		one, ahead, e := byRules(rest, vars, states)
		if e != api.OK {
			return "", ahead, e
		}
		under, rest = one, ahead
	}
	kind, ok := wanted(c.Op, under)
	if !ok {
		return "", rest, api.ErrKind
	}
	return "xbp"[kind-1 : kind], rest, api.OK
}

// lists hands out all lists of most cells at most that are among those.
func lists(among []api.Cell, most int, see func([]api.Cell)) {
	var down func(l []api.Cell)
	down = func(l []api.Cell) {
		see(l)
		if len(l) == most {
			return
		}
		for _, c := range among {
			down(append(l, c))
		}
	}
	down(make([]api.Cell, 0, most))
}

// shortLists hands out lists of few cells, right ones and others.
func shortLists(see func([]api.Cell)) {
	all := []api.Cell{num(7), imag(7), op(api.OTrue), op(api.OFalse), named("x"), named("b"), named("p"), named("w"), named("y"), in("a"), in("z")}
	for n := api.ONeg; n <= api.OOr; n++ {
		all = append(all, op(n))
	}
	lists(all, 3, see)
	lists([]api.Cell{named("x"), named("b"), named("p"), op(api.ONeg), op(api.ORe), op(api.OMul), op(api.OEq), op(api.OAnd)}, 5, see)
	lists([]api.Cell{named("x"), named("b"), named("w"), named("y"), in("z"), op(api.ONot), op(api.OSub), op(api.OLe)}, 5, see)
}

// P4.1: all short lists, against the reading above.
func TestShortLists(t *testing.T) {
	told := map[api.Errno]int{}
	shortLists(func(l []api.Cell) {
		kind, want := 0, api.ErrForm
		if expr.Right(l) {
			letter, _, e := byRules(l, some(), []string{"a"})
			want = e
			if e == api.OK {
				kind = 1 + strings.Index("xbp", letter)
			}
		}
		told[want]++
		wantOf(t, l, some(), []string{"a"}, kind, want)
	})
	for _, e := range []api.Errno{api.OK, api.ErrForm, api.ErrName, api.ErrKind} {
		if told[e] < 100 {
			t.Error("too few answer", e, told[e])
		}
	}
}

// P4.2: what has a kind keeps it by any variables and states more, behind
// those that there are.
func TestMoreBehind(t *testing.T) {
	vars, states := some(), []string{"a"}
	more := slices.Concat(vars, []api.Var{{Name: "x", Kind: api.KBool}, {Name: "b", Kind: api.KPoint}, {Name: "p"}, {Name: "x", Kind: 9}, {Name: "y", Kind: api.KInt}, {Name: "a", Kind: api.KPoint}, {}})
	kept := 0
	shortLists(func(l []api.Cell) {
		kind, e := Of(l, vars, states)
		if e != api.OK {
			return
		}
		kept++
		wantOf(t, l, more, states, kind, api.OK)
		wantOf(t, l, vars, []string{"a", "b", "a", "", "x"}, kind, api.OK)
		wantOf(t, l, more, []string{"a", "z"}, kind, api.OK)
	})
	if kept < 100 {
		t.Error("too few have a kind", kept)
	}
	wantText(t, "y+1", vars, states, 0, api.ErrName)
	wantText(t, "y+1", more, states, api.KInt, api.OK)
	wantText(t, "in(z)", vars, append(states, "z"), api.KBool, api.OK)
	wantText(t, "1+2*3", more, nil, api.KInt, api.OK)
}

// P4.1: many variables and states; what is named stands first or last.
func TestManyVariablesAndStates(t *testing.T) {
	var vars []api.Var
	var states []string
	for i := range 1 << 12 {
		name := "n" + strings.Repeat("_", 1+i%9)
		vars = append(vars, api.Var{Name: name, Kind: api.KBool})
		states = append(states, name)
	}
	wantText(t, "x", vars, states, 0, api.ErrName)
	wantText(t, "in(x)", vars, states, 0, api.ErrName)
	wantText(t, "x", append(slices.Clone(vars), api.Var{Name: "x", Kind: api.KPoint}), states, api.KPoint, api.OK)
	wantText(t, "x", slices.Insert(slices.Clone(vars), 0, api.Var{Name: "x", Kind: api.KInt}), states, api.KInt, api.OK)
	wantText(t, "in(x)", vars, append(slices.Clone(states), "x"), api.KBool, api.OK)
	wantText(t, "in(x)", vars, slices.Insert(slices.Clone(states), 0, "x"), api.KBool, api.OK)
}

// P4.1: what is handed in stays, its spare room too, and asking again answers
// the same.
func TestNothingHandedInIsChanged(t *testing.T) {
	for _, s := range []string{"x+1*-x", "!b|in(a)", "re(p*2i)", "x+b", "y", "in(z)", "w"} {
		l := parsed(t, s)
		cells := append(slices.Clone(l), num(9), named("y"), op(api.OOr))
		vars := append(some(), api.Var{Name: "y", Kind: api.KInt})
		states := []string{"a", "z", "q"}
		cellsWere, varsWere, statesWere := slices.Clone(cells), slices.Clone(vars), slices.Clone(states)
		kind, e := Of(cells[:len(l)], vars[:len(vars)-1], states[:1])
		wantOf(t, cells[:len(l)], vars[:len(vars)-1], states[:1], kind, e)
		if !slices.Equal(cells, cellsWere) || !slices.Equal(vars, varsWere) || !slices.Equal(states, statesWere) {
			t.Error(s, "changed what was handed in", cells, vars, states)
		}
	}
}
