package eval

import (
	"math"
	"math/big"
	"slices"
	"strings"
	"testing"

	"quintain/api"
	"quintain/expr"
	"quintain/kinds"
)

const (
	top     = api.MaxPart
	least   = math.MinInt64
	most    = math.MaxInt64
	written = api.MaxNumber
)

func op(n int) api.Cell          { return api.Cell{Op: n} }
func num(n int64) api.Cell       { return api.Cell{Op: api.OInt, A: n} }
func imaginary(n int64) api.Cell { return api.Cell{Op: api.OImag, A: n} }
func named(s string) api.Cell    { return api.Cell{Op: api.OVar, Name: s} }
func in(s string) api.Cell       { return api.Cell{Op: api.OIn, Name: s} }

func numeral(n int64) api.Value { return api.Value{Kind: api.KInt, A: n} }
func dot(a, b int64) api.Value  { return api.Value{Kind: api.KPoint, A: a, B: b} }
func known(b bool) api.Value {
	if b {
		return api.Value{Kind: api.KBool, A: 1}
	}
	return api.Value{Kind: api.KBool}
}

// is answers variables of those names; their kinds are none.
func is(names ...string) []api.Var {
	var list []api.Var
	for _, s := range names {
		list = append(list, api.Var{Name: s})
	}
	return list
}

// some are variables, and what they hold.
func some() ([]api.Var, []api.Value) {
	return is("x", "y", "b", "f", "p", "q", "m", "t"),
		[]api.Value{numeral(-7), numeral(3), known(true), known(false), dot(2, 1), dot(2, -1), numeral(least), numeral(most)}
}

// parsed answers the expression of a text that is one.
func parsed(t *testing.T, s string) []api.Cell {
	t.Helper()
	l, at, e := expr.Parse(s)
	if e != api.OK {
		t.Fatal(s, at, e)
	}
	return l
}

// wantOf holds what Of answers against what it should.
func wantOf(t *testing.T, l []api.Cell, vars []api.Var, vals []api.Value, active []string, v api.Value, want api.Errno) {
	t.Helper()
	if w, e := Of(l, vars, vals, active); w != v || e != want {
		t.Errorf("%v by %v, %v and %v: %v %v, wanted %v %v", l, vars, vals, active, w, e, v, want)
	}
}

// wantText does so for the expression of a text, by some variables.
func wantText(t *testing.T, s string, active []string, v api.Value, want api.Errno) {
	t.Helper()
	l := parsed(t, s)
	vars, vals := some()
	if w, e := Of(l, vars, vals, active); w != v || e != want {
		t.Errorf("%s by %v: %v %v, wanted %v %v", s, active, w, e, v, want)
	}
}

// P5.1
func TestRight(t *testing.T) {
	edges := []int64{0, 1, -1, 2, -2, top - 1, top, top + 1, -top + 1, -top, -top - 1, 1 << 32, 1<<32 + 1, written, written + 1, -written - 1, most, most - 1, least, least + 1}
	for _, a := range edges {
		for _, b := range edges {
			part := -top <= a && a <= top && -top <= b && b <= top
			for kind, want := range map[int]bool{
				api.KInt: b == 0, api.KBool: b == 0 && (a == 0 || a == 1), api.KPoint: part,
				0: false, 4: false, -1: false, -3: false, 1<<32 + 1: false, math.MaxInt: false, math.MinInt: false,
			} {
				if v := (api.Value{Kind: kind, A: a, B: b}); Right(v) != want {
					t.Error(v, "wanted", want)
				}
			}
		}
	}
}

// P5.2, P5.3: the chapter's examples, and others.
func TestValuesOfTexts(t *testing.T) {
	active := []string{"a", "c_1"}
	for s, v := range map[string]api.Value{
		"7/2": numeral(3), "-7/2": numeral(-3), "-7%2": numeral(-1), "7/-2": numeral(-3), "7%-2": numeral(1), "-7/-2": numeral(3), "-7%-2": numeral(-1),
		"0": numeral(0), "1099511627776": numeral(written), "0i": dot(0, 0), "3i": dot(0, 3), "1048576i": dot(0, top), "true": known(true), "false": known(false),
		"1i*1i": dot(-1, 0), "p*q": dot(5, 0), "p+q": dot(4, 0), "p-q": dot(0, 2), "-p": dot(-2, -1), "--p": dot(2, 1), "p*p*p": dot(2, 11), "re(p)": numeral(2), "im(q)": numeral(-1), "re(p*1i)": numeral(-1), "-0i": dot(0, 0),
		"x": numeral(-7), "b": known(true), "f": known(false), "p": dot(2, 1), "m": numeral(least), "-x": numeral(7), "-t": numeral(least + 1), "-t-1": numeral(least),
		"x/2": numeral(-3), "x%2": numeral(-1), "x/y": numeral(-2), "x%y": numeral(-1), "m%-1": numeral(0), "x%-1": numeral(0), "m/1": numeral(least), "m/2*2": numeral(least), "t%m": numeral(most), "m%t": numeral(-1), "t/m": numeral(0), "m/t": numeral(-1),
		"x+y*2-1": numeral(-2), "(x+y)*2": numeral(-8), "x-y-1": numeral(-11), "x-(y-1)": numeral(-9), "y/2*2": numeral(2), "re(p)*im(p)+x%3": numeral(1),
		"x<y": known(true), "y<x": known(false), "x<x": known(false), "x<=x": known(true), "y<=x": known(false), "x>y": known(false), "y>x": known(true), "x>x": known(false), "x>=x": known(true), "x>=y": known(false), "m<t": known(true), "m>t": known(false),
		"x=-7": known(true), "x!=-7": known(false), "x=y": known(false), "x!=y": known(true), "b=true": known(true), "b=f": known(false), "f=false": known(true), "b!=f": known(true), "p=q": known(false), "p!=q": known(true), "p=p": known(true), "p=q+2i": known(true), "0i=p-p": known(true), "(x<y)=b": known(true),
		"b&b": known(true), "b&f": known(false), "f&b": known(false), "f&f": known(false), "b|b": known(true), "b|f": known(true), "f|b": known(true), "f|f": known(false), "!b": known(false), "!f": known(true), "!!b": known(true),
		"in(a)": known(true), "in(c_1)": known(true), "in(c)": known(false), "in(z)": known(false), "in(a)&!in(z)": known(true), "in(z)|in(x)": known(false), "in(x)": known(false), "b&in(a)=true|f": known(true),
	} {
		wantText(t, s, active, v, api.OK)
	}
	for s, want := range map[string]api.Errno{
		"1/0": api.ErrZero, "1%0": api.ErrZero, "x/0": api.ErrZero, "x%0": api.ErrZero, "0/0": api.ErrZero, "0%0": api.ErrZero, "m/0": api.ErrZero, "m%0": api.ErrZero, "x/(y-3)": api.ErrZero, "x%(y-3)": api.ErrZero,
		"(2+1i)*(2-1i)": api.ErrKind, "x+p": api.ErrKind, "b+x": api.ErrKind, "p<p": api.ErrKind, "p/p": api.ErrKind, "x&b": api.ErrKind, "-b": api.ErrKind, "!x": api.ErrKind, "re(x)": api.ErrKind, "im(b)": api.ErrKind,
		"m-1": api.ErrOver, "t+1": api.ErrOver, "-m": api.ErrOver, "0-m": api.ErrOver, "m*2": api.ErrOver, "m*-1": api.ErrOver, "-1*m": api.ErrOver, "m/-1": api.ErrOver, "t*t": api.ErrOver, "m*m": api.ErrOver, "m+m": api.ErrOver, "t-m": api.ErrOver,
		"1048576i+1i": api.ErrRange, "-1048576i-1i": api.ErrRange, "1048576i*2i": api.ErrRange, "p*1048576i": api.ErrRange,
		"z": api.ErrName, "a": api.ErrName, "xx": api.ErrName,
	} {
		wantText(t, s, active, api.Value{}, want)
	}
}

// edgesOfNumbers are the bounds of 64 bits, numbers beside them and beside
// nought, and those whose products lie at the bounds.
func edgesOfNumbers() []int64 {
	list := []int64{1<<31 - 1, 1 << 31, 1<<31 + 1, 1 << 32, 3037000499, 3037000500, 1 << 61, 1<<62 - 1, 1 << 62, 1<<62 + 1, most - 2, most - 1, most, most / 3, 7, 49}
	for n := range int64(4) {
		list = append(list, n)
	}
	for _, n := range slices.Clone(list) {
		list = append(list, -n)
	}
	return append(list, least, least+1, least/2, least/2-1, least/3)
}

// reckoned answers what an operator makes of two numbers, by numbers without
// bounds.
func reckoned(n int, a, b int64) (api.Value, api.Errno) {
	left, right, is := big.NewInt(a), big.NewInt(b), new(big.Int)
	way := left.Cmp(right)
	switch n {
	case api.OAdd:
		is.Add(left, right)
	case api.OSub:
		is.Sub(left, right)
	case api.OMul:
		is.Mul(left, right)
	case api.ODiv, api.OMod:
		if b == 0 {
			return api.Value{}, api.ErrZero
		}
		if is.Quo(left, right); n == api.OMod {
			is.Sub(left, is.Mul(is, right))
		}
	case api.OEq:
		return known(way == 0), api.OK
	case api.ONe:
		return known(way != 0), api.OK
	case api.OLt:
		return known(way < 0), api.OK
	case api.OLe:
		return known(way <= 0), api.OK
	case api.OGt:
		return known(way > 0), api.OK
	case api.OGe:
		return known(way >= 0), api.OK
	default:
		return api.Value{}, api.ErrKind
	}
	if !is.IsInt64() {
		return api.Value{}, api.ErrOver
	}
	return numeral(is.Int64()), api.OK
}

// P5.2, P5.3: each operator with numbers at the bounds of 64 bits.
func TestNumbersAtTheirBounds(t *testing.T) {
	vars := is("x", "y")
	over := map[int]int{}
	for _, a := range edgesOfNumbers() {
		for _, b := range edgesOfNumbers() {
			vals := []api.Value{numeral(a), numeral(b)}
			for n := api.OAdd; n <= api.OOr; n++ {
				v, e := reckoned(n, a, b)
				if e == api.ErrOver {
					over[n]++
				}
				wantOf(t, []api.Cell{named("x"), named("y"), op(n)}, vars, vals, nil, v, e)
			}
		}
		v, e := reckoned(api.OSub, 0, a)
		if e == api.ErrOver {
			over[api.ONeg]++
		}
		wantOf(t, []api.Cell{named("x"), op(api.ONeg)}, vars, []api.Value{numeral(a), numeral(0)}, nil, v, e)
	}
	for n, few := range map[int]int{api.ONeg: 1, api.OAdd: 20, api.OSub: 20, api.OMul: 20, api.ODiv: 1} {
		if over[n] < few {
			t.Error("too few go over", n, over[n])
		}
	}
	if over[api.OMod] > 0 {
		t.Error("what is left went over")
	}
}

// P5.2: just still within 64 bits, and just no longer.
func TestJustStillAndJustNoLonger(t *testing.T) {
	for _, c := range []struct {
		a    int64
		n    int
		b    int64
		want int64
		err  api.Errno
	}{
		{most - 1, api.OAdd, 1, most, api.OK}, {most, api.OAdd, 1, 0, api.ErrOver}, {least + 1, api.OAdd, -1, least, api.OK}, {least, api.OAdd, -1, 0, api.ErrOver}, {least, api.OAdd, most, -1, api.OK}, {1 << 62, api.OAdd, 1<<62 - 1, most, api.OK}, {1 << 62, api.OAdd, 1 << 62, 0, api.ErrOver}, {-1 << 62, api.OAdd, -1 << 62, least, api.OK}, {least, api.OAdd, least, 0, api.ErrOver},
		{least + 1, api.OSub, 1, least, api.OK}, {least, api.OSub, 1, 0, api.ErrOver}, {most - 1, api.OSub, -1, most, api.OK}, {most, api.OSub, -1, 0, api.ErrOver}, {0, api.OSub, most, least + 1, api.OK}, {0, api.OSub, least, 0, api.ErrOver}, {-1, api.OSub, least, most, api.OK}, {least, api.OSub, least, 0, api.OK}, {-2, api.OSub, most, 0, api.ErrOver}, {-1, api.OSub, most, least, api.OK},
		{1 << 31, api.OMul, 1 << 31, 1 << 62, api.OK}, {1 << 32, api.OMul, 1 << 31, 0, api.ErrOver}, {1 << 32, api.OMul, -1 << 31, least, api.OK}, {-1 << 31, api.OMul, 1 << 32, least, api.OK}, {1 << 32, api.OMul, 1 << 32, 0, api.ErrOver}, {least, api.OMul, 1, least, api.OK}, {1, api.OMul, least, least, api.OK}, {least, api.OMul, -1, 0, api.ErrOver}, {-1, api.OMul, least, 0, api.ErrOver}, {least, api.OMul, 0, 0, api.OK}, {0, api.OMul, least, 0, api.OK}, {most, api.OMul, -1, least + 1, api.OK}, {-1, api.OMul, most, least + 1, api.OK}, {least / 2, api.OMul, 2, least, api.OK}, {least / 2, api.OMul, -2, 0, api.ErrOver}, {3037000499, api.OMul, 3037000499, 9223372030926249001, api.OK}, {3037000500, api.OMul, 3037000500, 0, api.ErrOver}, {7, api.OMul, 1317624576693539401, most, api.OK}, {7, api.OMul, 1317624576693539402, 0, api.ErrOver},
		{least, api.ODiv, -1, 0, api.ErrOver}, {least + 1, api.ODiv, -1, most, api.OK}, {most, api.ODiv, -1, least + 1, api.OK}, {least, api.ODiv, least, 1, api.OK}, {least, api.ODiv, 0, 0, api.ErrZero}, {1, api.ODiv, least, 0, api.OK},
		{least, api.OMod, -1, 0, api.OK}, {least, api.OMod, 1, 0, api.OK}, {least, api.OMod, least, 0, api.OK}, {least, api.OMod, 0, 0, api.ErrZero}, {most, api.OMod, -1, 0, api.OK}, {least, api.OMod, 3, -2, api.OK}, {5, api.OMod, -1, 0, api.OK}, {-5, api.OMod, -1, 0, api.OK},
	} {
		v := api.Value{}
		if c.err == api.OK {
			v = numeral(c.want)
		}
		wantOf(t, []api.Cell{named("x"), named("y"), op(c.n)}, is("x", "y"), []api.Value{numeral(c.a), numeral(c.b)}, nil, v, c.err)
	}
	for _, c := range []struct {
		a, want int64
		err     api.Errno
	}{{0, 0, api.OK}, {1, -1, api.OK}, {most, least + 1, api.OK}, {least + 1, most, api.OK}, {least, 0, api.ErrOver}} {
		v := api.Value{}
		if c.err == api.OK {
			v = numeral(c.want)
		}
		wantOf(t, []api.Cell{named("x"), op(api.ONeg)}, is("x"), []api.Value{numeral(c.a)}, nil, v, c.err)
	}
}

// P5.3: division and what is left of it, by small numbers of each sign:
// together they are the number, and what is left is of its sign.
func TestDivisionOfEachSign(t *testing.T) {
	vars := is("x", "y")
	for a := int64(-40); a <= 40; a++ {
		for b := int64(-12); b <= 12; b++ {
			vals := []api.Value{numeral(a), numeral(b)}
			by := func(n int) (int64, api.Errno) {
				v, e := Of([]api.Cell{named("x"), named("y"), op(n)}, vars, vals, nil)
				return v.A, e
			}
			d, e := by(api.ODiv)
			r, f := by(api.OMod)
			if b == 0 {
				if d != 0 || r != 0 || e != api.ErrZero || f != api.ErrZero {
					t.Error(a, b, d, e, r, f)
				}
				continue
			}
			if e != api.OK || f != api.OK || d*b+r != a || r*r >= b*b || r*a < 0 {
				t.Error(a, b, d, e, r, f)
			}
		}
	}
}

// somePoints are points at the edges, and between them.
func somePoints() []api.Value {
	parts := []int64{-top, -top + 1, -1024, -3, -1, 0, 1, 2, 1024, 1025, top - 1, top}
	var list []api.Value
	for _, a := range parts {
		for _, b := range parts {
			list = append(list, dot(a, b))
		}
	}
	return list
}

// within answers the point, if its parts are within their bounds.
func within(a, b int64) (api.Value, api.Errno) {
	if a < -top || a > top || b < -top || b > top {
		return api.Value{}, api.ErrRange
	}
	return dot(a, b), api.OK
}

// pointed answers what an operator makes of two points.
func pointed(n int, p, q api.Value) (api.Value, api.Errno) {
	switch n {
	case api.OAdd:
		return within(p.A+q.A, p.B+q.B)
	case api.OSub:
		return within(p.A-q.A, p.B-q.B)
	case api.OMul:
		return within(p.A*q.A-p.B*q.B, p.A*q.B+p.B*q.A)
	case api.OEq:
		return known(p.A == q.A && p.B == q.B), api.OK
	case api.ONe:
		return known(p.A != q.A || p.B != q.B), api.OK
	}
	return api.Value{}, api.ErrKind
}

// P5.2, P5.3: each operator with points at the bounds of their parts.
func TestPointsAtTheirBounds(t *testing.T) {
	vars := is("p", "q")
	beyond := map[int]int{}
	for _, p := range somePoints() {
		for _, q := range somePoints() {
			for n := api.OAdd; n <= api.OOr; n++ {
				v, e := pointed(n, p, q)
				if e == api.ErrRange {
					beyond[n]++
				}
				wantOf(t, []api.Cell{named("p"), named("q"), op(n)}, vars, []api.Value{p, q}, nil, v, e)
			}
		}
		vals := []api.Value{p, dot(0, 0)}
		wantOf(t, []api.Cell{named("p")}, vars, vals, nil, p, api.OK)
		wantOf(t, []api.Cell{named("p"), op(api.ONeg)}, vars, vals, nil, dot(-p.A, -p.B), api.OK)
		wantOf(t, []api.Cell{named("p"), op(api.ORe)}, vars, vals, nil, numeral(p.A), api.OK)
		wantOf(t, []api.Cell{named("p"), op(api.OIm)}, vars, vals, nil, numeral(p.B), api.OK)
	}
	for _, n := range []int{api.OAdd, api.OSub, api.OMul} {
		if beyond[n] < 1000 {
			t.Error("too few go beyond", n, beyond[n])
		}
	}
	// Noughts below nought are noughts: nothing tells them apart.
	for _, s := range []string{"-0i=0i", "0i*-1i=-0i", "-(p-p)=p-p", "(p-p)*-p=0i", "-0i*-0i=0i"} {
		wantText(t, s, nil, known(true), api.OK)
	}
}

// rules tell for each operator, by the letters of kinds, what it makes of
// which operands; what isn't told may not be.
func rules() map[int]string {
	return map[int]string{
		api.ONeg: "x>x p>p", api.ONot: "b>b", api.ORe: "p>x", api.OIm: "p>x",
		api.OAdd: "xx>x pp>p", api.OSub: "xx>x pp>p", api.OMul: "xx>x pp>p", api.ODiv: "xx>x", api.OMod: "xx>x",
		api.OEq: "xx>b bb>b pp>b", api.ONe: "xx>b bb>b pp>b", api.OLt: "xx>b", api.OLe: "xx>b", api.OGt: "xx>b", api.OGe: "xx>b",
		api.OAnd: "bb>b", api.OOr: "bb>b",
	}
}

// allowed answers the kind that rules tell, by letters, and whether they do.
func allowed(n int, under string) (int, bool) {
	for _, r := range strings.Fields(rules()[n]) {
		if to, ok := strings.CutPrefix(r, under+">"); ok {
			return 1 + strings.Index("xbp", to), true
		}
	}
	return 0, false
}

// P5.2: each cell that joins, with operands of each kind, which are variables,
// or are written, or are joined themselves.
func TestEachCellWithEachKind(t *testing.T) {
	vars, vals := some()
	operands := map[string][][]api.Cell{
		"x": {{named("x")}, {num(3)}, {num(1)}, {num(3), op(api.ONeg)}, {imaginary(3), op(api.OIm)}, {num(1), num(2), op(api.OAdd)}},
		"b": {{named("b")}, {op(api.OTrue)}, {op(api.OFalse)}, {in("a")}, {in("z")}, {in("a"), op(api.ONot)}, {num(1), num(2), op(api.OLt)}},
		"p": {{named("p")}, {imaginary(3)}, {imaginary(1)}, {imaginary(3), op(api.ONeg)}, {imaginary(1), named("p"), op(api.OMul)}},
	}
	hold := func(l []api.Cell, n int, under string) {
		kind, ok := allowed(n, under)
		v, e := Of(append(l, op(n)), vars, vals, []string{"a"})
		if ok && (v.Kind != kind || e != api.OK || !Right(v)) || !ok && (v != api.Value{} || e != api.ErrKind) {
			t.Error(l, n, under, v, e)
		}
	}
	for left, ls := range operands {
		for _, l := range ls {
			for n := api.ONeg; n <= api.OIm; n++ {
				hold(slices.Clone(l), n, left)
			}
			for right, rs := range operands {
				for _, r := range rs {
					for n := api.OAdd; n <= api.OOr; n++ {
						hold(slices.Concat(l, r), n, left+right)
					}
				}
			}
		}
	}
}

// P5.2: operands of different kinds aren't held against each other, though
// what they hold is the same.
func TestKindsThatHoldTheSame(t *testing.T) {
	vars := is("x", "b", "p")
	for a := range int64(2) {
		vals := []api.Value{numeral(a), known(a == 1), dot(a, 0)}
		for _, left := range vars {
			for _, right := range vars {
				for _, n := range []int{api.OEq, api.ONe} {
					v, e := api.Value{}, api.ErrKind
					if left.Name == right.Name {
						v, e = known(n == api.OEq), api.OK
					}
					wantOf(t, []api.Cell{named(left.Name), named(right.Name), op(n)}, vars, vals, nil, v, e)
				}
			}
		}
	}
}

// P5.2: lists that aren't right expressions, whatever else is wrong.
func TestWhatIsNotRight(t *testing.T) {
	vars, vals := some()
	long := append([]api.Cell{named("x")}, slices.Repeat([]api.Cell{op(api.ONeg)}, 31)...)
	wantOf(t, long, vars, vals, nil, numeral(7), api.OK)
	for _, l := range [][]api.Cell{
		nil, {}, append(long, op(api.ONeg)), slices.Repeat([]api.Cell{num(1)}, 1<<16),
		{named("x"), named("x")}, {op(api.ONeg)}, {op(api.OAdd)}, {named("x"), op(api.OAdd)}, {named("x"), op(api.OAdd), named("x")}, {op(api.ONot), named("b")},
		{op(0)}, {op(24)}, {op(-1)}, {op(math.MaxInt)}, {op(math.MinInt)}, {named("x"), op(0)}, {named("x"), named("x"), op(24)},
		{num(-1)}, {num(written + 1)}, {imaginary(-1)}, {imaginary(top + 1)}, {{Op: api.OTrue, A: 1}}, {{Op: api.OFalse, Name: "a"}}, {{Op: api.OVar, Name: "x", A: 1}}, {{Op: api.OIn, Name: "a", A: 1}},
		{named("")}, {named("A")}, {named("in")}, {named("abcdefghijklm")}, {in("")}, {in("true")}, {in("done.a")},
		{named("x"), {Op: api.ONeg, A: 1}}, {named("x"), named("x"), {Op: api.OAdd, Name: "x"}},
		{num(1), num(0), op(api.ODiv), op(api.OAdd)}, {named("z"), named("z")}, {named("m"), op(api.ONeg), op(api.OMul)}, {named("x"), op(api.ONot), op(99)},
	} {
		wantOf(t, l, vars, vals, []string{"a"}, api.Value{}, api.ErrForm)
		wantOf(t, l, nil, nil, nil, api.Value{}, api.ErrForm)
		// It is told ahead of what is wrong with values.
		wantOf(t, l, vars, nil, nil, api.Value{}, api.ErrForm)
		wantOf(t, l, is("x"), []api.Value{{}}, nil, api.Value{}, api.ErrForm)
		wantOf(t, l, is("", "A", "in", "abcdefghijklm"), slices.Repeat([]api.Value{numeral(1)}, 4), []string{"", "true", "done.a"}, api.Value{}, api.ErrForm)
	}
}

// P5.2: not as many values as variables.
func TestNotAsManyValues(t *testing.T) {
	vars, vals := some()
	for _, s := range []string{"x", "1", "true", "in(a)", "z", "1/0", "1+true", "-m"} {
		l := parsed(t, s)
		for n := range len(vars) + 1 {
			for k := range len(vals) + 1 {
				if n != k {
					wantOf(t, l, vars[:n], vals[:k], []string{"a"}, api.Value{}, api.ErrArg)
				}
			}
		}
		wantOf(t, l, vars, nil, nil, api.Value{}, api.ErrArg)
		wantOf(t, l, nil, vals, nil, api.Value{}, api.ErrArg)
		wantOf(t, l, vars, slices.Repeat([]api.Value{numeral(1)}, 1<<16), nil, api.Value{}, api.ErrArg)
	}
}

// P5.2: values that aren't right, wherever they stand, named or not.
func TestValuesThatAreNotRight(t *testing.T) {
	for _, bad := range []api.Value{
		{}, {A: 1}, {Kind: 4}, {Kind: -1}, {Kind: math.MaxInt}, {Kind: math.MinInt}, {Kind: 1<<32 + 1},
		{Kind: api.KInt, B: 1}, {Kind: api.KInt, A: 5, B: -1}, {Kind: api.KInt, B: least}, {Kind: api.KBool, A: 2}, {Kind: api.KBool, A: -1}, {Kind: api.KBool, A: least}, {Kind: api.KBool, A: 1, B: 1}, {Kind: api.KBool, B: 1 << 32},
		dot(top+1, 0), dot(-top-1, 0), dot(0, top+1), dot(0, -top-1), dot(most, most), dot(least, least),
	} {
		for at := range 3 {
			vars := slices.Insert(is("x", "y"), at, api.Var{Name: "bad", Kind: bad.Kind})
			vals := slices.Insert([]api.Value{numeral(1), numeral(2)}, at, bad)
			for _, s := range []string{"bad", "x", "x+y", "1", "true", "in(bad)", "z", "1/0", "1+true", "bad+z", "x=bad"} {
				wantOf(t, parsed(t, s), vars, vals, nil, api.Value{}, api.ErrArg)
			}
			// Nor does it help that it stands behind the first of its name.
			vars[at].Name = "x"
			wantOf(t, parsed(t, "x"), vars, vals, nil, api.Value{}, api.ErrArg)
		}
	}
}

// P5.2: names that are no variable's. A state's name is always asked for.
func TestNamesThatAreNone(t *testing.T) {
	vars := is("x", "", "X", "z ", " z", "z\x00", "zz", "in(z)")
	vals := slices.Repeat([]api.Value{numeral(1)}, len(vars))
	for _, s := range []string{"z", "xx", "x_", "x1", "a", "abcdefghijkl"} {
		for _, form := range []string{"N", "-N", "!N", "re(N)", "x+N", "N+x", "true&N", "N=N", "N/0", "N*1i"} {
			wantOf(t, parsed(t, strings.ReplaceAll(form, "N", s)), vars, vals, []string{s}, api.Value{}, api.ErrName)
		}
		wantOf(t, parsed(t, "in("+s+")"), vars, vals, []string{s}, known(true), api.OK)
		wantOf(t, parsed(t, "in("+s+")"), vars, vals, []string{"", s + "_", s[:len(s)-1], "X", " " + s, s + " ", s + "\x00"}, known(false), api.OK)
	}
}

// P5.3: states that are active, in any order, and more than once.
func TestActiveStates(t *testing.T) {
	for _, active := range [][]string{{"a"}, {"b", "a"}, {"a", "b"}, {"a", "a"}, {"b", "c", "a", "b"}, append(slices.Repeat([]string{"b"}, 1<<12), "a")} {
		wantText(t, "in(a)", active, known(true), api.OK)
		wantText(t, "!in(a)", active, known(false), api.OK)
		wantText(t, "in(b)", active, known(slices.Contains(active, "b")), api.OK)
		wantText(t, "in(a)&in(b)", active, known(slices.Contains(active, "b")), api.OK)
		wantText(t, "in(d)|in(x)", active, known(false), api.OK)
	}
	// A variable and a state of one name have nothing to do with each other.
	wantText(t, "in(x)&x=-7", []string{"x"}, known(true), api.OK)
	wantText(t, "in(b)", nil, known(false), api.OK)
	wantText(t, "in(f)|f", []string{"f"}, known(true), api.OK)
}

// P5.2, P5.3: no variables, no states, as nil and as lists that are empty.
func TestNothingThere(t *testing.T) {
	some, vals := some()
	for _, vars := range [][]api.Var{nil, {}, some[:0]} {
		for _, vals := range [][]api.Value{nil, {}, vals[:0]} {
			for _, active := range [][]string{nil, {}, []string{"a"}[:0]} {
				wantOf(t, parsed(t, "x"), vars, vals, active, api.Value{}, api.ErrName)
				wantOf(t, parsed(t, "in(a)"), vars, vals, active, known(false), api.OK)
				wantOf(t, parsed(t, "1+2*3"), vars, vals, active, numeral(7), api.OK)
				wantOf(t, parsed(t, "1i-2i"), vars, vals, active, dot(0, -1), api.OK)
				wantOf(t, parsed(t, "!true|1<2"), vars, vals, active, known(true), api.OK)
				wantOf(t, parsed(t, "1%0"), vars, vals, active, api.Value{}, api.ErrZero)
				wantOf(t, nil, vars, vals, active, api.Value{}, api.ErrForm)
				wantOf(t, []api.Cell{}, vars, vals, active, api.Value{}, api.ErrForm)
			}
			wantOf(t, parsed(t, "in(a)"), vars, vals, []string{"a"}, known(true), api.OK)
		}
	}
	wantText(t, "x", nil, numeral(-7), api.OK)
	wantText(t, "x", []string{}, numeral(-7), api.OK)
}

// P5.2, P5.3: of several variables of one name the first counts.
func TestVariablesOfOneName(t *testing.T) {
	held := []api.Value{numeral(4), numeral(-4), known(true), known(false), dot(1, 2)}
	for _, first := range held {
		for _, second := range held {
			for _, third := range held {
				vars := is("o", "n", "m", "n", "n")
				vals := []api.Value{dot(7, 7), first, numeral(8), second, third}
				wantOf(t, parsed(t, "n"), vars, vals, nil, first, api.OK)
				wantOf(t, parsed(t, "n=n"), vars, vals, nil, known(true), api.OK)
				wantOf(t, parsed(t, "m"), vars, vals, nil, numeral(8), api.OK)
			}
		}
	}
	vars := slices.Repeat(is("n"), 1<<12)
	vals := slices.Repeat([]api.Value{numeral(1)}, len(vars))
	vals[0] = numeral(5)
	wantOf(t, parsed(t, "n"), vars, vals, nil, numeral(5), api.OK)
	wantOf(t, parsed(t, "m"), append(vars, api.Var{Name: "m"}), append(vals, dot(6, 6)), nil, dot(6, 6), api.OK)
}

// P5.3: the value's kind counts, whatever the variable is.
func TestValuesKindCounts(t *testing.T) {
	for _, kind := range []int{0, api.KInt, api.KBool, api.KPoint, 4, -1, math.MaxInt} {
		for _, init := range []api.Value{{}, numeral(9), known(true), dot(9, 9), {Kind: 9, A: 9, B: 9}} {
			vars := []api.Var{{Name: "n", Kind: kind, Lo: 5, Hi: -5, Init: init}}
			for text, held := range map[string]api.Value{"n+1": numeral(least), "!n": known(false), "n*1i": dot(-1, 2)} {
				wantOf(t, parsed(t, "n"), vars, []api.Value{held}, nil, held, api.OK)
				wantOf(t, parsed(t, "n=n"), vars, []api.Value{held}, nil, known(true), api.OK)
				want := map[string]api.Value{"n+1": numeral(least + 1), "!n": known(true), "n*1i": dot(-2, -1)}[text]
				wantOf(t, parsed(t, text), vars, []api.Value{held}, nil, want, api.OK)
			}
			wantOf(t, parsed(t, "n+1"), vars, []api.Value{known(true)}, nil, api.Value{}, api.ErrKind)
			wantOf(t, parsed(t, "!n"), vars, []api.Value{numeral(1)}, nil, api.Value{}, api.ErrKind)
			wantOf(t, parsed(t, "re(n)"), vars, []api.Value{numeral(1)}, nil, api.Value{}, api.ErrKind)
		}
	}
}

// P5.2: the cells are done in order, and the fault that stands first is told.
func TestFirstFault(t *testing.T) {
	faults := map[string]api.Errno{
		"(z)": api.ErrName, "(1+true)": api.ErrKind, "re(b)": api.ErrKind, "(t+1)": api.ErrOver, "(-m)": api.ErrOver, "(m-1)": api.ErrOver, "(m*m)": api.ErrOver, "(m/-1)": api.ErrOver,
		"(1/0)": api.ErrZero, "(1%0)": api.ErrZero, "(1048576i+1i)": api.ErrRange, "(1048576i*1048576i)": api.ErrRange, "(-1048576i-1i)": api.ErrRange,
	}
	for left, want := range faults {
		for right, other := range faults {
			for _, sign := range strings.Fields("+ - * / % = != < <= > >= & |") {
				wantText(t, left+sign+right, nil, api.Value{}, want)
			}
			// Nor does a fault behind it count, of which kind ever.
			wantText(t, "re("+left+")+!"+right, nil, api.Value{}, want)
			wantText(t, "x+(1+("+left+"=1i))+"+right, nil, api.Value{}, want)
			wantText(t, "b&("+right+"="+left+")", nil, api.Value{}, other)
		}
	}
	for s, want := range map[string]api.Errno{
		"1/0+z": api.ErrZero, "z+1/0": api.ErrName, "x+b+z": api.ErrKind, "x+b*z": api.ErrName, "(x+b)/0": api.ErrKind, "x/0+b": api.ErrZero, "b+x/0": api.ErrZero, "b/0": api.ErrKind, "b%0": api.ErrKind, "p/0": api.ErrKind, "z/0": api.ErrName,
		"m-1&b": api.ErrOver, "b&m-1": api.ErrOver, "1048576i*2i+x": api.ErrRange, "x+1048576i*2i": api.ErrRange, "1048576i+1": api.ErrKind, "1048576i*2": api.ErrKind, "-m/0": api.ErrOver, "-(m/0)": api.ErrZero,
	} {
		wantText(t, s, nil, api.Value{}, want)
	}
}

// P5.3: & and | ask both operands, whatever the first one says.
func TestAndOrAskBoth(t *testing.T) {
	for _, left := range []string{"b", "f", "true", "false", "in(a)", "in(z)", "1<2", "2<1"} {
		for _, sign := range []string{"&", "|"} {
			for right, want := range map[string]api.Errno{
				"z": api.ErrName, "1/0=1": api.ErrZero, "1%0=1": api.ErrZero, "t+1>0": api.ErrOver, "-m>0": api.ErrOver, "1048576i*2i=p": api.ErrRange, "x": api.ErrKind, "p": api.ErrKind, "!x": api.ErrKind, "1": api.ErrKind, "0": api.ErrKind,
			} {
				wantText(t, left+sign+"("+right+")", []string{"a"}, api.Value{}, want)
				wantText(t, "("+right+")"+sign+left, []string{"a"}, api.Value{}, want)
			}
		}
	}
}

// fromLast answers what the last of the cells ends, and the cells ahead of
// that: a reading of its own, from the last cell on.
func fromLast(l []api.Cell, vars []api.Var, vals []api.Value, active []string) (api.Value, []api.Cell, api.Errno) {
	c, ahead := l[len(l)-1], l[:len(l)-1]
	switch c.Op {
	case api.OInt:
		return numeral(c.A), ahead, api.OK
	case api.OImag:
		return dot(0, c.A), ahead, api.OK
	case api.OTrue, api.OFalse:
		return known(c.Op == api.OTrue), ahead, api.OK
	case api.OIn:
		return known(slices.Index(active, c.Name) >= 0), ahead, api.OK
	case api.OVar:
		for i, v := range vars {
			if v.Name == c.Name {
				return vals[i], ahead, api.OK
			}
		}
		return api.Value{}, ahead, api.ErrName
	}
	right, ahead, e := fromLast(ahead, vars, vals, active)
	if c.Op < api.OAdd {
		if e != api.OK {
			return right, ahead, e
		}
		v, e := onOne(c.Op, right)
		return v, ahead, e
	}
	left, ahead, first := fromLast(ahead, vars, vals, active)
	if first != api.OK {
		return left, ahead, first
	}
	if e != api.OK {
		return right, ahead, e
	}
	v, e := onTwo(c.Op, left, right)
	return v, ahead, e
}

// onOne answers what an operator makes of one value.
func onOne(n int, v api.Value) (api.Value, api.Errno) {
	if _, ok := allowed(n, "xbp"[v.Kind-1:v.Kind]); !ok {
		return api.Value{}, api.ErrKind
	}
	switch {
	case n == api.ONot:
		return known(v.A == 0), api.OK
	case n == api.ORe:
		return numeral(v.A), api.OK
	case n == api.OIm:
		return numeral(v.B), api.OK
	case v.Kind == api.KPoint:
		return dot(-v.A, -v.B), api.OK
	}
	return reckoned(api.OSub, 0, v.A)
}

// onTwo answers what an operator makes of two values.
func onTwo(n int, left, right api.Value) (api.Value, api.Errno) {
	if _, ok := allowed(n, "xbp"[left.Kind-1:left.Kind]+"xbp"[right.Kind-1:right.Kind]); !ok {
		return api.Value{}, api.ErrKind
	}
	switch {
	case n == api.OAnd:
		return known(left.A+right.A == 2), api.OK
	case n == api.OOr:
		return known(left.A+right.A > 0), api.OK
	case left.Kind == api.KPoint:
		return pointed(n, left, right)
	}
	return reckoned(n, left.A, right.A)
}

// lists hands out all lists of most cells at most that are among those.
func lists(among []api.Cell, most int, see func([]api.Cell)) {
	var down func(l []api.Cell)
	down = func(l []api.Cell) {
		see(l)
		if len(l) == most {
			return
		}
		for _, c := range among {
			down(append(l, c))
		}
	}
	down(make([]api.Cell, 0, most))
}

// shortLists hands out lists of few cells, right ones and others.
func shortLists(see func([]api.Cell)) {
	all := []api.Cell{num(0), num(7), imaginary(top), op(api.OTrue), op(api.OFalse), named("x"), named("b"), named("p"), named("m"), named("z"), in("a"), in("z")}
	for n := api.ONeg; n <= api.OOr; n++ {
		all = append(all, op(n))
	}
	lists(all, 3, see)
	lists([]api.Cell{named("m"), num(0), imaginary(top), op(api.ONeg), op(api.ORe), op(api.OAdd), op(api.OMod), op(api.OEq)}, 5, see)
	lists([]api.Cell{named("x"), named("f"), named("z"), in("a"), op(api.ONot), op(api.ODiv), op(api.OLe), op(api.OOr)}, 5, see)
	lists([]api.Cell{named("p"), named("t"), op(api.OIm), op(api.OSub), op(api.OMul), op(api.ONe), op(api.OAnd)}, 5, see)
}

// P5.2, P5.3: all short lists, against the reading above.
func TestShortLists(t *testing.T) {
	vars, vals := some()
	told := map[api.Errno]int{}
	shortLists(func(l []api.Cell) {
		v, want := api.Value{}, api.ErrForm
		if expr.Right(l) {
			held, _, e := fromLast(l, vars, vals, []string{"a"})
			want = e
			if e == api.OK {
				v = held
			}
		}
		told[want]++
		wantOf(t, l, vars, vals, []string{"a"}, v, want)
	})
	for _, e := range []api.Errno{api.OK, api.ErrForm, api.ErrName, api.ErrKind, api.ErrOver, api.ErrZero, api.ErrRange} {
		if told[e] < 20 {
			t.Error("too few answer", e, told[e])
		}
	}
}

// wantKind holds what Of answers against what layer 4 tells.
func wantKind(t *testing.T, l []api.Cell, vals []api.Value, active []string) (kind int, e api.Errno) {
	t.Helper()
	vars, _ := some()
	byValues := slices.Clone(vars)
	for i := range byValues {
		byValues[i].Kind = vals[i].Kind
	}
	kind, told := kinds.Of(l, byValues, []string{"a", "z", "ab"})
	v, e := Of(l, vars, vals, active)
	runs := e == api.ErrOver || e == api.ErrZero || e == api.ErrRange
	switch {
	case told == api.OK && e == api.OK:
		if v.Kind != kind || !Right(v) {
			t.Errorf("%v: %v, whose kind should be %v", l, v, kind)
		}
	case told == api.OK && runs || told != api.OK && (e == told || runs):
		if v != (api.Value{}) {
			t.Errorf("%v: %v beside %v", l, v, e)
		}
	default:
		t.Errorf("%v: %v %v, but its kind is %v %v", l, v, e, kind, told)
	}
	return kind, e
}

// P5.4: where layer 4 tells a kind the value is of it, or it can't be
// reckoned.
func TestValueIsOfItsKind(t *testing.T) {
	_, vals := some()
	told := map[int]int{}
	faults := map[api.Errno]int{}
	shortLists(func(l []api.Cell) {
		kind, e := wantKind(t, l, vals, []string{"a"})
		told[kind]++
		faults[e]++
	})
	// All variables change their kinds, too.
	slices.Reverse(vals)
	shortLists(func(l []api.Cell) { wantKind(t, l, vals, nil) })
	if told[api.KInt] < 100 || told[api.KBool] < 100 || told[api.KPoint] < 40 || faults[api.ErrOver] < 20 || faults[api.ErrZero] < 20 || faults[api.ErrRange] < 20 {
		t.Error("too few are told", told, faults)
	}
}

// P5.2, P5.3, P5.4: long expressions, made by a rule from a number, against
// the reading from the last cell on.
func TestLongExpressions(t *testing.T) {
	seed := uint32(1)
	next := func(n int) int {
		seed = seed*1664525 + 1013904223
		return int(seed>>8) % n
	}
	vars, vals := some()
	leaves := []api.Cell{num(2), num(written), imaginary(1), imaginary(top), op(api.OTrue), in("a"), in("z"), named("x"), named("y"), named("b"), named("p"), named("q"), named("t")}
	good := 0
	for range 40000 {
		var l []api.Cell
		// What doesn't go well isn't kept, so that what is long goes well, but
		// for its last cell.
		for n := 2 + next(31); len(l) < n; {
			more := slices.Clone(l)
			switch kind := next(3); {
			case len(l) > 0 && kind == 0:
				more = append(more, op(api.ONeg+next(4)))
			case len(l) > 0:
				more = append(more, leaves[next(len(leaves))], op(api.OAdd+next(13)))
			default:
				more = append(more, leaves[next(len(leaves))])
			}
			if len(more) > 32 {
				break
			}
			v, _, e := fromLast(more, vars, vals, []string{"a"})
			if e != api.OK {
				v = api.Value{}
			} else {
				l = more
				good++
			}
			wantOf(t, more, vars, vals, []string{"a"}, v, e)
			if e != api.OK && next(4) == 0 {
				break
			}
		}
		if len(l) > 0 {
			wantKind(t, l, vals, []string{"a"})
		}
	}
	if good < 10000 {
		t.Error("too few go well", good)
	}
}

// P5.2: what is handed in stays, its spare room too, and asking again answers
// the same.
func TestNothingHandedInIsChanged(t *testing.T) {
	for _, s := range []string{"x+1*-y", "!b|in(a)", "re(p*2i)", "x+b", "z", "in(z)", "1/0", "-m", "p*1048576i"} {
		l := parsed(t, s)
		vars, vals := some()
		cells := append(slices.Clone(l), num(9), named("y"), op(api.OOr))
		vars, vals = append(vars, api.Var{Name: "z", Kind: api.KInt}), append(vals, numeral(1))
		active := []string{"a", "z", "q"}
		cellsWere, varsWere, valsWere, activeWere := slices.Clone(cells), slices.Clone(vars), slices.Clone(vals), slices.Clone(active)
		n := len(vars) - 1
		v, e := Of(cells[:len(l)], vars[:n], vals[:n], active[:1])
		wantOf(t, cells[:len(l)], vars[:n], vals[:n], active[:1], v, e)
		if !slices.Equal(cells, cellsWere) || !slices.Equal(vars, varsWere) || !slices.Equal(vals, valsWere) || !slices.Equal(active, activeWere) {
			t.Error(s, "changed what was handed in", cells, vars, vals, active)
		}
	}
}
