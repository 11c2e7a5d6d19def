package pick

import (
	"math"
	"reflect"
	"slices"
	"strconv"
	"strings"
	"testing"

	"quintain/acts"
	"quintain/api"
	"quintain/chart"
	"quintain/expr"
	"quintain/valid"
)

// parsed answers the chart of a text whose lines are parted by /.
func parsed(t *testing.T, s string) api.Chart {
	t.Helper()
	c, n, e := chart.Parse(strings.ReplaceAll(s, "/", "\n"))
	if e != api.OK || valid.Check(c) != api.OK {
		t.Fatalf("%.300q: line %d: %v, %v", s, n, e, valid.Check(c))
	}
	return c
}

// places answers the places of the states with these names, in their order.
func places(t *testing.T, c api.Chart, names string) []int {
	t.Helper()
	var l []int
	for _, name := range strings.Fields(names) {
		i := valid.Place(c, name)
		if i == -1 {
			t.Fatal("there is no state", name)
		}
		l = append(l, i)
	}
	return l
}

// shown answers transitions as words: from>to.
func shown(c api.Chart, l []int) string {
	var w []string
	for _, t := range l {
		w = append(w, c.States[c.Trans[t].From].Name+">"+c.Trans[t].To)
	}
	return strings.Join(w, " ")
}

// guardOf answers an expression; an empty text is none.
func guardOf(t *testing.T, s string) []api.Cell {
	t.Helper()
	if s == "" {
		return nil
	}
	l, _, e := expr.Parse(s)
	if e != api.OK {
		t.Fatal(s, e)
	}
	return l
}

// value answers a value of that kind.
func value(kind int, a, b int64) api.Value { return api.Value{Kind: kind, A: a, B: b} }

// inits answers what c's variables hold at first.
func inits(c api.Chart) []api.Value {
	var vals []api.Value
	for _, v := range c.Vars {
		vals = append(vals, v.Init)
	}
	return vals
}

// all has states of each kind, SBoth's within one another and SOne's within
// one another, variables of each kind.
const all = "chart all/event go/event up/int x 0 9 3/bool b true/point p -9 9 1-2i" +
	"/one r q" + // 0
	"/ basic a" + // 1
	"/ both q" + // 2
	"/  one u v" + // 3
	"/   basic v" + // 4
	"/   final w" + // 5
	"/  both d" + // 6
	"/   one m n" + // 7
	"/    basic n" + // 8
	"/    basic o" + // 9
	"/    shallow i o" + // 10
	"/    one j k" + // 11
	"/     basic k" + // 12
	"/   basic l" + // 13
	"/ final f" + // 14
	"/ shallow h a" + // 15
	"/ deep g v" + // 16
	"/one s z" + // 17
	"/ basic y" + // 18
	"/ basic z" // 19

// begun is what all starts with.
const begun = "r q u v d m n l s z"

// P11.1, P11.2, P11.3: the chapter's examples.
func TestExamples(t *testing.T) {
	c := parsed(t, "chart c/event go/one r a/ one a b/  on go - d -/  basic b/   on go - d -/ basic d")
	wantTaken(t, c, "r a b", "go", "b>d")
	c = parsed(t, "chart c/event go/one r a/ basic a/  on go - b -/ basic b/one s d/ basic d/  on go - e -/ basic e")
	wantTaken(t, c, "r a s d", "go", "a>b d>e")
}

// wantTaken holds what is taken, while these states are active and variables
// hold their Inits, against from>to, and against what the document says.
func wantTaken(t *testing.T, c api.Chart, names, event, want string) {
	t.Helper()
	l := places(t, c, names)
	if got := shown(c, Of(c, l, inits(c), event)); got != want {
		t.Errorf("%s in %s by %q: %s, not %s", told(c), names, event, got, want)
	}
	wantSaid(t, c, l, inits(c), event)
}

// P11.1: from each kind of state, to nothing, to itself, to what is within it,
// to what it is within, to what stands beside it, to histories.
func TestLeaves(t *testing.T) {
	c := parsed(t, all)
	for _, row := range []struct{ names, from, to, want string }{
		// To nothing.
		{begun, "v", "", ""}, {begun, "u", "", ""}, {begun, "q", "", ""}, {begun, "r", "", ""}, {begun, "z", "", ""},
		// To itself.
		{begun, "v", "v", "v"}, {begun, "n", "n", "n"}, {begun, "z", "z", "z"},
		{begun, "u", "u", "q u v d m n l"}, {begun, "m", "m", "q u v d m n l"}, {begun, "q", "q", "q u v d m n l"}, {begun, "d", "d", "q u v d m n l"}, {begun, "l", "l", "q u v d m n l"},
		{"r a s z", "a", "a", "a"},
		// To what is within it.
		{begun, "u", "v", "v"}, {begun, "u", "w", "v"}, {begun, "m", "n", "n"}, {begun, "m", "o", "n"}, {begun, "m", "j", "n"}, {begun, "m", "k", "n"},
		{begun, "r", "a", "q u v d m n l"}, {begun, "r", "q", "q u v d m n l"}, {begun, "r", "k", "q u v d m n l"}, {begun, "s", "z", "z"}, {begun, "s", "y", "z"},
		// An SBoth is no domain.
		{begun, "q", "u", "q u v d m n l"}, {begun, "q", "v", "q u v d m n l"}, {begun, "q", "k", "q u v d m n l"}, {begun, "d", "m", "q u v d m n l"}, {begun, "d", "n", "q u v d m n l"}, {begun, "d", "l", "q u v d m n l"},
		// To what it is within.
		{begun, "v", "u", "q u v d m n l"}, {begun, "v", "q", "q u v d m n l"}, {begun, "n", "d", "q u v d m n l"}, {begun, "u", "q", "q u v d m n l"}, {"r q u v d m j k l s z", "k", "j", "j k"}, {"r q u v d m j k l s z", "k", "m", "q u v d m j k l"},
		// To what stands beside it, in the same part and in another one.
		{begun, "v", "w", "v"}, {begun, "n", "o", "n"}, {begun, "n", "j", "n"}, {begun, "n", "k", "n"}, {begun, "z", "y", "z"},
		{begun, "q", "a", "q u v d m n l"}, {begun, "v", "a", "q u v d m n l"}, {begun, "k", "f", ""}, {begun, "v", "o", "q u v d m n l"}, {begun, "n", "w", "q u v d m n l"}, {begun, "u", "d", "q u v d m n l"}, {begun, "l", "m", "q u v d m n l"},
		{"r a s z", "a", "q", "a"}, {"r a s z", "a", "k", "a"}, {"r a s z", "r", "a", "a"}, {"r a s z", "a", "f", "a"}, {"r f s y", "r", "f", "f"},
		// To a history.
		{begun, "m", "i", "n"}, {begun, "n", "i", "n"}, {begun, "v", "i", "q u v d m n l"}, {begun, "v", "h", "q u v d m n l"}, {begun, "n", "g", "q u v d m n l"}, {begun, "r", "g", "q u v d m n l"}, {begun, "q", "h", "q u v d m n l"}, {begun, "m", "g", "q u v d m n l"},
		{"r a s z", "a", "h", "a"}, {"r a s z", "a", "g", "a"}, {"r a s z", "a", "i", "a"}, {"r a s z", "r", "i", "a"},
		// What is active alone.
		{"r q u w d m j k l s y", "m", "i", "j k"}, {"r q u w d m j k l s y", "j", "k", "k"}, {"r q u w d m j k l s y", "j", "j", "j k"}, {"r q u w d m j k l s y", "k", "n", "j k"}, {"r q u w d m j k l s y", "u", "u", "q u w d m j k l"}, {"r q u w d m j k l s y", "s", "z", "y"},
		// From what isn't active.
		{begun, "a", "q", ""}, {begun, "o", "n", ""}, {begun, "j", "k", ""}, {begun, "y", "z", ""}, {"r a s z", "q", "a", ""}, {"r a s z", "u", "v", ""}, {"r a s z", "v", "w", ""}, {"r f s z", "a", "a", ""},
	} {
		c.Trans = []api.Trans{{From: valid.Place(c, row.from), Event: "go", To: row.to}}
		if valid.Check(c) != api.OK {
			t.Fatal(row)
		}
		l := places(t, c, row.names)
		if got := Leaves(c, l, 0); !slices.Equal(got, places(t, c, row.want)) {
			t.Errorf("%s from %s to %s: %v", row.names, row.from, row.to, got)
		}
		wantSaid(t, c, l, inits(c), "go")
	}
}

// P11.1: whether a transition may be taken doesn't matter for what it leaves.
func TestLeavesOfWhatIsNotTaken(t *testing.T) {
	c := parsed(t, "chart c/event go/one r a/ basic a/  on - false b -/  on go 1%0=1 b -/  on error - b -/  on done.r - b raise:go/ basic b")
	for n := range c.Trans {
		if got := Leaves(c, []int{0, 1}, n); !slices.Equal(got, []int{1}) {
			t.Error(n, got)
		}
		if got := Leaves(c, []int{0, 2}, n); len(got) != 0 {
			t.Error("not active", n, got)
		}
	}
}

// P11.1: places that no transition has.
func TestLeavesOfNoTransition(t *testing.T) {
	for _, s := range []string{all, "chart c/one r a/ basic a/  on - - a -/  on - - b -/ basic b"} {
		c := parsed(t, s)
		l := []int{0, 1}
		if s == all {
			l = places(t, c, begun)
		}
		// Behind the length there is room, of which nothing is told.
		c.Trans = append(slices.Clip(c.Trans), api.Trans{To: c.States[1].Name})[:len(c.Trans)]
		n := len(c.Trans)
		for _, i := range []int{-1, -2, n, n + 1, 48, 49, 1 << 32, math.MaxInt, math.MinInt, math.MinInt + 1} {
			if got := Leaves(c, l, i); len(got) != 0 {
				t.Errorf("%d: %v", i, got)
			}
		}
		if n > 0 && (!slices.Equal(Leaves(c, l, 0), []int{1}) || !slices.Equal(Leaves(c, l, n-1), []int{1})) {
			t.Error("the first and the last one")
		}
	}
}

// P11.2: which guards let a transition be taken.
func TestGuards(t *testing.T) {
	c := parsed(t, all)
	first := inits(c)
	with := func(x, b int64) []api.Value { return []api.Value{value(1, x, 0), value(2, b, 0), value(3, 1, -2)} }
	far := []api.Value{value(1, math.MaxInt64, 0), value(2, 1, 0), value(3, -1<<20, 1<<20)}
	for _, row := range []struct {
		names, guard string
		vals         []api.Value
		want         bool
	}{
		{begun, "", first, true}, {begun, "true", first, true}, {begun, "false", first, false}, {begun, "!false", first, true},
		{begun, "x=3", first, true}, {begun, "x=3", with(4, 1), false}, {begun, "x>3", with(4, 1), true}, {begun, "x>3", first, false},
		{begun, "b", first, true}, {begun, "b", with(3, 0), false}, {begun, "!b", first, false}, {begun, "!b", with(3, 0), true},
		{begun, "p=-(1i*1i)-2i", first, true}, {begun, "p=-(1i*1i)+2i", first, false}, {begun, "re(p)=1&im(p)=-2", first, true},
		// What a variable holds may be beyond its bounds.
		{begun, "x>9", with(10, 1), true}, {begun, "x>9", far, true},
		// By the states that are active.
		{begun, "in(r)", first, true}, {begun, "in(v)", first, true}, {begun, "in(w)", first, false}, {begun, "in(k)", first, false}, {begun, "in(l)&in(n)&in(s)&in(z)&in(q)", first, true}, {begun, "!in(a)", first, true}, {begun, "in(y)|in(f)|in(a)", first, false},
		{"r a s y", "in(v)", first, false}, {"r a s y", "in(a)&in(y)", first, true}, {"r a s y", "in(q)", first, false}, {"r f s y", "in(f)", first, true},
		// What comes to nothing.
		{begun, "1/0=1", first, false}, {begun, "1/0!=1", first, false}, {begun, "1%0=0", first, false}, {begun, "x/(x-3)=0|true", first, false}, {begun, "x/(x-3)=4", with(4, 1), true}, {begun, "true|x%0=0", first, false},
		{begun, "x+1>0", far, false}, {begun, "x-1>0", far, true}, {begun, "p+p=p|true", far, false}, {begun, "p-p=p-p", far, true},
		// Of too few and of too many values, and of values that aren't right.
		{begun, "", nil, true}, {begun, "true", nil, false}, {begun, "in(r)", nil, false}, {begun, "x=3", nil, false}, {begun, "x=3", first[:1], false}, {begun, "x=3", first[:2], false}, {begun, "true", first[1:], false}, {begun, "", first[:1], true},
		{begun, "x=3", append(with(3, 1), value(1, 0, 0)), false}, {begun, "", append(with(3, 1), value(1, 0, 0)), true},
		{begun, "true", []api.Value{{}, {}, {}}, false}, {begun, "", []api.Value{{}, {}, {}}, true}, {begun, "x=3", with(3, 2), false}, {begun, "", with(3, 2), true}, {begun, "true", []api.Value{value(1, 3, 1), value(2, 1, 0), value(3, 0, 0)}, false},
		// Of other kinds.
		{begun, "b", []api.Value{value(1, 3, 0), value(1, 1, 0), value(3, 1, 0)}, false}, {begun, "b", []api.Value{value(1, 3, 0), value(3, 1, 0), value(3, 1, 0)}, false}, {begun, "!b", []api.Value{value(1, 3, 0), value(1, 0, 0), value(3, 1, 0)}, false},
		{begun, "x=x", []api.Value{value(2, 1, 0), value(1, 1, 0), value(3, 1, 0)}, true}, {begun, "x=3", []api.Value{value(2, 1, 0), value(2, 1, 0), value(3, 1, 0)}, false}, {begun, "x=3", []api.Value{value(1, 3, 0), value(1, 1, 0), value(1, 1, 0)}, true}, {begun, "p=-(1i*1i)-2i", []api.Value{value(1, 3, 0), value(2, 1, 0), value(1, 1, 0)}, false},
	} {
		c.Trans = []api.Trans{{From: 0, Event: "go", Guard: guardOf(t, row.guard), To: "a"}}
		if valid.Check(c) != api.OK {
			t.Fatal(row)
		}
		l := places(t, c, row.names)
		var want []int
		if row.want {
			want = []int{0}
		}
		if got := May(c, l, row.vals, "go"); !slices.Equal(got, want) {
			t.Errorf("%s: %q by %v: May %v", row.names, row.guard, row.vals, got)
		}
		if got := Of(c, l, row.vals, "go"); !slices.Equal(got, want) {
			t.Errorf("%s: %q by %v: Of %v", row.names, row.guard, row.vals, got)
		}
		wantSaid(t, c, l, row.vals, "go")
	}
}

// P11.2: by which event, and from which states.
func TestMay(t *testing.T) {
	c := parsed(t, "chart c/event go/event up/event error/int x 0 9 3"+
		"/one r q"+
		"/ on go - a -"+ // 0
		"/ on - - - -"+ // 1
		"/ on done.u - q -"+ // 2
		"/ basic a"+
		"/  on go - a -"+ // 3
		"/  on up - a -"+ // 4
		"/ both q"+
		"/  on go x>3 a -"+ // 5
		"/  on go x<4 - -"+ // 6
		"/  one u v"+
		"/   on up - v -"+ // 7
		"/   basic v"+
		"/    on go in(y) w -"+ // 8
		"/    on go in(z) w -"+ // 9
		"/    on go in(z) v -"+ // 10
		"/    on - in(u) - x=1"+ // 11
		"/   basic w"+
		"/    on go - v -"+ // 12
		"/    on error - v -"+ // 13
		"/one s z"+
		"/ basic y"+
		"/  on go - z -"+ // 14
		"/ final z")
	for _, row := range []struct {
		names, event string
		x            int64
		want         []int
	}{
		{"r q u v s z", "go", 3, []int{0, 6, 9, 10}},
		{"r q u v s z", "go", 4, []int{0, 5, 9, 10}},
		{"r q u v s y", "go", 3, []int{0, 6, 8, 14}},
		{"r q u w s y", "go", 9, []int{0, 5, 12, 14}},
		{"r a s z", "go", 3, []int{0, 3}},
		{"r a s y", "go", 3, []int{0, 3, 14}},
		{"r a s z", "up", 3, []int{4}},
		{"r q u v s z", "up", 3, []int{7}},
		{"r q u v s z", "", 3, []int{1, 11}},
		{"r q u w s z", "", 3, []int{1}},
		{"r q u w s z", "error", 3, []int{13}},
		{"r q u v s z", "error", 3, nil},
		{"r q u v s z", "done.u", 3, []int{2}},
		{"r a s z", "done.u", 3, []int{2}},
		{"r q u v s z", "done.q", 3, nil},
		{"r q u v s z", "done.", 3, nil},
		{"r q u v s z", "-", 3, nil},
		{"r q u v s z", "nothing", 3, nil},
		{"r q u v s z", "g", 3, nil},
		{"r q u v s z", "go ", 3, nil},
		{"r q u v s z", "Go", 3, nil},
		{"r q u v s z", "x", 3, nil},
		{"r q u v s z", "r", 3, nil},
		{"r q u v s z", "\x00", 3, nil},
		{"r q u v s z", strings.Repeat("go", 1<<20), 3, nil},
	} {
		l, vals := places(t, c, row.names), []api.Value{value(1, row.x, 0)}
		if got := May(c, l, vals, row.event); !slices.Equal(got, row.want) {
			t.Errorf("%s by %.20q: %v", row.names, row.event, got)
		}
		wantSaid(t, c, l, vals, row.event)
	}
}

// split is an SBoth of three parts, of which the second and the third have two
// parts in turn, and a region beside; transitions are put to it.
const split = "chart c/event go/event up/int x 0 9 3" +
	"/one r k" +
	"/ both k" +
	"/  one u v" +
	"/   basic v" +
	"/   basic w" +
	"/  both q" +
	"/   one y z" +
	"/    basic z" +
	"/   one m n" +
	"/    basic n" +
	"/  one p a" +
	"/   both a" +
	"/    one d e" +
	"/     basic e" +
	"/     basic f" +
	"/    one g h" +
	"/     basic h" +
	"/     final i" +
	"/   basic b" +
	"/ basic o" +
	"/one s t" +
	"/ basic t"

// with answers split with these transitions, which are told as from>to, with a
// guard behind | if they have one, in the chart's order; all wait for go.
func with(t *testing.T, trans string) api.Chart {
	t.Helper()
	c := parsed(t, split)
	for _, w := range strings.Fields(trans) {
		way, guard, _ := strings.Cut(w, "|")
		from, to, _ := strings.Cut(way, ">")
		c.Trans = append(c.Trans, api.Trans{From: valid.Place(c, from), Event: "go", Guard: guardOf(t, guard), To: to})
	}
	if e := valid.Check(c); e != api.OK {
		t.Fatal(trans, e)
	}
	return c
}

// Configurations of split.
const (
	few  = "r k u v q y z m n p b s t"
	many = "r k u v q y z m n p a d e g h s t"
	last = "r k u v q y z m n p a d e g i s t"
)

// P11.3: what is wanted.
func TestWanted(t *testing.T) {
	for _, row := range []struct{ names, trans, want string }{
		{few, "", ""},
		// Of one state the first that may be taken.
		{few, "v>v v>w", "v>v"}, {few, "v>w v>v", "v>w"}, {few, "v>w|false v>v", "v>v"}, {few, "v>w|1/0=0 v>v|in(w) v> v>o", "v>"}, {few, "v>w|x=3 v>v", "v>w"}, {few, "v>w|x>3 v>v", "v>v"}, {few, "u>w u>v", "u>w"},
		// From a leaf, else from its parent, and so on.
		{few, "u>w v>w", "v>w"}, {few, "u>w v>w|false", "u>w"}, {few, "k>o u>w|false v>w|false", "k>o"}, {few, "q>o z>|false", "q>o"}, {few, "r>o k>o u>o v>o", "v>o"}, {few, "r>o k>o u>o", "u>o"}, {few, "r>o k>o", "k>o"}, {few, "r>o", "r>o"}, {few, "r>", "r>"},
		// Of several states each one's first.
		{few, "k> q> z>", "k> q> z>"}, {few, "r> k> u>w u>v v>|false q>", "k> u>w q>"}, {few, "k> u> u>v v> n> b>", "k> v> n> b>"},
		// From what isn't active none is wanted, nor from what has wanted ones below
		// it for all of its leaves.
		{few, "w>v a>b f>e", ""}, {many, "w>v f>e b>a t>t", "t>t"}, {few, "r> u> v> y> z> m> n> p> b>", "v> z> n> b>"}, {many, "a> d> e> h>", "e> h>"},
		// Each once, and told in the chart's order, whichever was wanted first.
		{few, "q>", "q>"}, {few, "k>", "k>"}, {many, "p>", "p>"}, {many, "k> z> a> e> h>", "k> z> e> h>"}, {few, "k> v>v", "k> v>v"}, {few, "k> v>v z>z", "k> v>v z>z"}, {many, "v>v p> e>f", "v>v p> e>f"}, {many, "k> v>v q> n>n", "k> v>v q> n>n"}, {many, "r> v>v z>z n>n e>f", "r> v>v z>z n>n e>f"},
		// A final leaf wants what is from its parent.
		{last, "g>h", "g>h"}, {last, "g>i|in(h) g>i|in(i)", "g>i"}, {last, "a>b e>f", "e>f"}, {last, "a> e>f", "a> e>f"},
		// Of two regions, and of parallel parts.
		{few, "r>o t>t", "r>o t>t"}, {few, "v>o s>t", "v>o s>t"}, {few, "v>w z>z n>n b>a", "v>w z>z n>n b>a"}, {many, "v>w z>z n>n e>f h>i t>t", "v>w z>z n>n e>f h>i t>t"}, {many, "u>v y>z m>n d>e g>i s>t", "u>v y>z m>n d>e g>i s>t"},
	} {
		wantTaken(t, with(t, row.trans), row.names, "go", row.want)
	}
}

// P11.3: what is kept of what is wanted.
func TestKept(t *testing.T) {
	for _, row := range []struct{ names, trans, want string }{
		// The later one isn't within the earlier one's From: it isn't kept.
		{few, "v>o z>z", "v>o"}, {few, "v>v z>o", "v>v"}, {few, "v>o z>o", "v>o"}, {few, "v>o b>o", "v>o"}, {few, "u>o y>o", "u>o"}, {few, "u>o y>z m>n", "u>o"}, {few, "v>k z>z n>n", "v>k"}, {many, "e>b h>h", "e>b"}, {many, "e>e h>b", "e>e"},
		{few, "k>o v>v", "v>v"}, {few, "q>o z>z", "z>z"}, {few, "k>o u>o", "u>o"}, {many, "p>b e>e", "e>e"},
		// It is within the earlier one's From: that one goes.
		{few, "q>o n>n", "n>n"}, {few, "q>o n>o", "n>o"}, {few, "k>o z>z", "z>z"}, {few, "k>o q>o", "q>o"}, {few, "k>o y>z", "y>z"}, {few, "k>o z>z n>n", "z>z n>n"}, {few, "k>o b>a", "b>a"}, {many, "p>b h>h", "h>h"}, {many, "a>b g>h", "g>h"}, {few, "r>o n>n t>t", "n>n t>t"},
		// One after another goes.
		{many, "k>o p>b h>i", "h>i"}, {many, "k>o p>b g>h h>|false", "g>h"}, {many, "k>o n>n p>b h>i", "n>n h>i"}, {many, "r>o p>b h>i t>t", "h>i t>t"}, {many, "r>o k>o h>i", "h>i"},
		// What has gone, and what wasn't kept, keeps nothing away.
		{few, "q>o n>n b>a", "n>n b>a"}, {many, "q>o n>n e>b", "n>n e>b"}, {few, "v>v z>o b>a", "v>v b>a"}, {many, "v>v z>o n>n e>f", "v>v n>n e>f"},
		// What has gone isn't wanted again.
		{many, "k>o e>f", "e>f"}, {many, "k>o z>z", "z>z"}, {few, "k>o u>v|false z>z n>n", "z>z n>n"},
		// By what isn't kept itself nothing goes.
		{many, "v>v p>b h>o", "v>v p>b"}, {many, "v>v n>n p>b h>o", "v>v n>n p>b"}, {many, "u>w y>z p>b g>q", "u>w y>z p>b"}, {many, "z>z p>b h>k t>t", "z>z p>b t>t"},
		// What leaves nothing is kept, and keeps nothing away.
		{few, "v>o z>", "v>o z>"}, {few, "v> z>o", "v> z>o"}, {few, "v> z>o n>n", "v> z>o"}, {few, "q> n>o", "q> n>o"}, {few, "k> n>n b>o", "k> n>n"}, {few, "k>o z>", "k>o z>"}, {few, "k>o z> n>n", "z> n>n"}, {few, "k> u>o z>", "k> u>o z>"},
		// Two regions keep one another's.
		{few, "k>o t>t", "k>o t>t"}, {few, "r>o s>t", "r>o s>t"}, {few, "q>o n>n s>t", "n>n s>t"},
	} {
		c := with(t, row.trans)
		// Where more than one is kept, it mustn't matter which is asked first.
		for range 16 {
			wantTaken(t, c, row.names, "go", row.want)
		}
	}
}

// P11.3: by events, each one's own.
func TestTakenByEvents(t *testing.T) {
	c := with(t, "k>o v>w q>o z>z n>n t>t")
	for n, event := range []string{"up", "error", "", "done.u", "up", ""} {
		c.Trans[n].Event = event
	}
	for event, want := range map[string]string{
		"up": "n>n", "": "q>o t>t", "error": "v>w", "done.u": "z>z", "go": "", "done.v": "", "nothing": "", "done": "", strings.Repeat("up", 1<<20): "",
	} {
		wantTaken(t, c, few, event, want)
	}
}

// notLegal are lists that aren't legal of all.
func notLegal(t *testing.T, c api.Chart) map[string][]int {
	lists := map[string][]int{"nil": nil, "empty": {}, "very many": slices.Repeat([]int{0}, 1<<16)}
	for what, names := range map[string]string{
		"regions alone":        "r s",
		"without a region":     "r a",
		"without a parent":     "r q u v d n l s z",
		"without a child":      "r q u d m n l s z",
		"without a part":       "r q u v s z",
		"with two children":    "r a q u v d m n l s z",
		"with two leaves":      "r q u v w d m n l s z",
		"with a history":       "r a h s z",
		"a history for a leaf": "r h s z",
		"falling":              "z s a r",
		"changed about":        "s z r a",
		"one twice":            "r a a s z",
		"leaves alone":         "v n l z",
	} {
		lists[what] = places(t, c, names)
	}
	a := places(t, c, "r a s z")
	for _, i := range []int{-1, math.MinInt} {
		lists["below nought "+strconv.Itoa(i)] = slices.Insert(slices.Clone(a), 0, i)
	}
	for _, i := range []int{len(c.States), 40, 1 << 32, math.MaxInt} {
		lists["beyond "+strconv.Itoa(i)] = append(slices.Clone(a), i)
	}
	return lists
}

// everywhere answers a transition for go from each state that may have one, to
// itself but of regions.
func everywhere(c api.Chart) []api.Trans {
	var l []api.Trans
	for i, s := range c.States {
		if s.Kind == api.SBasic || s.Kind == api.SOne || s.Kind == api.SBoth {
			v := api.Trans{From: i, Event: "go", To: s.Name}
			if s.Depth == 0 {
				v.To = s.Initial
			}
			l = append(l, v)
		}
	}
	return l
}

// wantNothing holds what is answered against nothing.
func wantNothing(t *testing.T, what string, c api.Chart, l []int) {
	t.Helper()
	for _, i := range []int{-1, 0, 1, 2, len(c.Trans) - 1, len(c.Trans), math.MinInt, math.MaxInt} {
		if got := Leaves(c, l, i); len(got) != 0 {
			t.Errorf("%s: Leaves of %d: %v", what, i, got)
		}
	}
	for _, vals := range [][]api.Value{inits(c), nil} {
		for _, event := range []string{"go", "", "nothing"} {
			if got := May(c, l, vals, event); len(got) != 0 {
				t.Errorf("%s: May by %q: %v", what, event, got)
			}
			if got := Of(c, l, vals, event); len(got) != 0 {
				t.Errorf("%s: Of by %q: %v", what, event, got)
			}
		}
	}
}

// P11.1, P11.2, P11.3: lists that aren't legal.
func TestNotLegal(t *testing.T) {
	c := parsed(t, all)
	c.Trans = everywhere(c)
	if valid.Check(c) != api.OK || len(May(c, places(t, c, begun), inits(c), "go")) != 10 {
		t.Fatal("not as told")
	}
	for what, l := range notLegal(t, c) {
		wantNothing(t, what, c, l)
	}
	// Each place of a legal one taken away, told twice, put for another.
	l := places(t, c, begun)
	for n := range l {
		wantNothing(t, "without one", c, slices.Delete(slices.Clone(l), n, n+1))
		wantNothing(t, "one twice", c, slices.Insert(slices.Clone(l), n, l[n]))
		for i := -1; i <= len(c.States); i++ {
			m := slices.Clone(l)
			m[n] = i
			wantSaid(t, c, m, inits(c), "go")
		}
	}
}

// P11.1, P11.2, P11.3: charts that aren't valid, though what is asked of them
// might be told.
func TestNotValid(t *testing.T) {
	block, _ := acts.Parse("raise:nothing")
	for what, do := range map[string]func(*api.Chart){
		"nothing":                func(c *api.Chart) { *c = api.Chart{} },
		"no states":              func(c *api.Chart) { c.States = nil },
		"no states at all":       func(c *api.Chart) { c.States, c.Trans = nil, nil },
		"too many events":        func(c *api.Chart) { c.Events = strings.Fields("go b c d e f g h i j k l m") },
		"too many states":        func(c *api.Chart) { c.States = append(c.States, wide(40).States[1:]...) },
		"too many transitions":   func(c *api.Chart) { c.Trans = slices.Repeat(c.Trans[:1], 49) },
		"very many transitions":  func(c *api.Chart) { c.Trans = slices.Repeat(c.Trans[:1], 1<<16) },
		"no name":                func(c *api.Chart) { c.Name = "" },
		"an event's name":        func(c *api.Chart) { c.Events = append(c.Events, "in") },
		"twice":                  func(c *api.Chart) { c.States[19].Name = "r" },
		"a tree that isn't":      func(c *api.Chart) { c.States[19].Depth = 3 },
		"a kind that isn't":      func(c *api.Chart) { c.States[19].Kind = 7 },
		"no Initial":             func(c *api.Chart) { c.States[17].Initial = "" },
		"a history's Initial":    func(c *api.Chart) { c.States[15].Initial = "h" },
		"a variable":             func(c *api.Chart) { c.Vars[0].Init.A = 10 },
		"a block":                func(c *api.Chart) { c.States[19].Entry = block },
		"where one stands":       func(c *api.Chart) { c.Trans[0].From = -1 },
		"where the last stands":  func(c *api.Chart) { c.Trans[len(c.Trans)-1].From = 20 },
		"falling":                func(c *api.Chart) { slices.Reverse(c.Trans) },
		"from a final state":     func(c *api.Chart) { c.Trans = []api.Trans{{From: 14, Event: "go"}} },
		"from a history":         func(c *api.Chart) { c.Trans = []api.Trans{{From: 15, Event: "go"}} },
		"what one waits for":     func(c *api.Chart) { c.Trans[0].Event = "nothing" },
		"a guard":                func(c *api.Chart) { c.Trans[0].Guard = []api.Cell{{Op: api.OInt}} },
		"a guard's state":        func(c *api.Chart) { c.Trans[0].Guard = []api.Cell{{Op: api.OIn, Name: "h"}} },
		"a guard that isn't one": func(c *api.Chart) { c.Trans[0].Guard = []api.Cell{{Op: api.OAnd}} },
		"to no state":            func(c *api.Chart) { c.Trans[0].To = "nothing" },
		"to another region":      func(c *api.Chart) { c.Trans[0].To = "s" },
		"what a transition does": func(c *api.Chart) { c.Trans[0].Acts = block },
	} {
		c := parsed(t, all)
		c.Trans = everywhere(c)
		l := places(t, c, begun)
		do(&c)
		if valid.Check(c) == api.OK {
			t.Error(what, "should not be valid")
		}
		for _, m := range [][]int{l, nil, {0}, {0, 1}, {0, 1, 17, 19}, {0, 14, 17, 18}} {
			wantNothing(t, what, c, m)
		}
	}
}

// wide answers a chart of n states: a region and its children.
func wide(n int) api.Chart {
	c := api.Chart{Name: "c", Events: []string{"go"}, States: []api.State{{Name: "c0", Kind: api.SOne, Initial: "c1"}}}
	for i := 1; i < n; i++ {
		c.States = append(c.States, api.State{Name: "c" + strconv.Itoa(i), Kind: api.SBasic, Depth: 1})
	}
	return c
}

// P11.1, P11.2, P11.3: as many transitions, as many states as there may be.
func TestMostTransitions(t *testing.T) {
	// All of one state: the first one is taken.
	c := wide(40)
	for range 48 {
		c.Trans = append(c.Trans, api.Trans{From: 39, Event: "go", To: "c1"})
	}
	l := []int{0, 39}
	for n := range 48 {
		if got := May(c, l, nil, "go"); len(got) != 48-n || got[0] != n || got[47-n] != 47 {
			t.Error("May", n, got)
		}
		if got := Of(c, l, nil, "go"); !slices.Equal(got, []int{n}) {
			t.Error("Of", n, got)
		}
		if got := Leaves(c, l, n); !slices.Equal(got, []int{39}) {
			t.Error("Leaves", n, got)
		}
		wantSaid(t, c, l, nil, "go")
		c.Trans[n].Event = ""
	}
	if got := Of(c, l, nil, ""); !slices.Equal(got, []int{0}) || len(Leaves(c, l, 48)) != 0 {
		t.Error("by none", got)
	}
	// As many leaves as there may be, each with one that leaves nothing, and
	// some more: all of them are taken, and none that would leave all.
	for i := range c.States {
		c.States[i].Depth = min(i, 2)
	}
	c.States[1].Kind, c.States[1].Name, c.Trans = api.SBoth, "c1", nil
	var every, leaves, want []int
	for i := range 40 {
		every = append(every, i)
	}
	for i := 2; i < 40; i++ {
		c.Trans = append(c.Trans, api.Trans{From: i, Event: "go"})
		want = append(want, len(c.Trans)-1)
		if i < 12 {
			c.Trans = append(c.Trans, api.Trans{From: i, Event: "go", To: "c1"})
		}
		leaves = append(leaves, i)
	}
	if got := Of(c, every, nil, "go"); len(c.Trans) != 48 || !slices.Equal(got, want) || len(May(c, every, nil, "go")) != 48 {
		t.Error("of all", got)
	}
	if got := Leaves(c, every, 1); !slices.Equal(got, append([]int{1}, leaves...)) || len(Leaves(c, every, 0)) != 0 {
		t.Error("all of them", got)
	}
	wantSaid(t, c, every, nil, "go")
}

// P11.1, P11.2, P11.3: what is handed in stays, its spare room too, and asking
// again answers the same.
func TestNothingIsChanged(t *testing.T) {
	fresh := func() api.Chart {
		c := with(t, "k>o v>v|in(v) q>o|x=3 z>z n>n p>b t>t")
		c.States = append(c.States, api.State{Name: "more"})[:len(c.States)]
		c.Trans = append(c.Trans, api.Trans{Event: "go"})[:len(c.Trans)]
		return c
	}
	c, was := fresh(), fresh()
	for _, names := range []string{few, many, last, "", "r k"} {
		room := append(places(t, c, names), 7, -7, 1)
		vals := append(inits(c), value(3, 1, 1))
		before, held := slices.Clone(room), slices.Clone(vals)
		for _, event := range []string{"go", "", "up"} {
			for range 3 {
				wantSaid(t, c, room[:len(room)-3], vals[:1], event)
			}
		}
		if !slices.Equal(room, before) || !slices.Equal(vals, held) {
			t.Error(names, "was changed")
		}
	}
	if !reflect.DeepEqual(c, was) || !reflect.DeepEqual(c.States[:len(c.States)+1], was.States[:len(c.States)+1]) || !reflect.DeepEqual(c.Trans[:len(c.Trans)+1], was.Trans[:len(c.Trans)+1]) {
		t.Error("the chart was changed")
	}
}

// P11.1, P11.2, P11.3: what is answered is new, spare room included.
func TestNothingIsShared(t *testing.T) {
	c := with(t, "k>o v>v z>z n>n t>t")
	l := places(t, c, few)
	for what, ask := range map[string]func() []int{
		"Leaves": func() []int { return Leaves(c, l, 0) },
		"May":    func() []int { return May(c, l, inits(c), "go") },
		"Of":     func() []int { return Of(c, l, inits(c), "go") },
	} {
		first, again := ask(), ask()
		want := slices.Clone(again)
		first = first[:cap(first)]
		for i := range first {
			first[i] = -7
		}
		if len(want) < 4 || !slices.Equal(again, want) || !slices.Equal(ask(), want) || !slices.Equal(l, places(t, c, few)) {
			t.Error(what, "shares memory")
		}
	}
}
