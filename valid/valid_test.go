package valid

import (
	"math"
	"slices"
	"strconv"
	"strings"
	"testing"

	"quintain/acts"
	"quintain/api"
	"quintain/chart"
	"quintain/expr"
)

// lines makes a text of lines.
func lines(l ...string) string { return strings.Join(append(l, ""), "\n") }

// parsed answers the chart of a text that is one.
func parsed(t *testing.T, s string) api.Chart {
	t.Helper()
	c, n, e := chart.Parse(s)
	if e != api.OK {
		t.Fatalf("%.300q: line %d: %v", s, n, e)
	}
	return c
}

// guardOf answers the expression of a text that is one.
func guardOf(s string) []api.Cell {
	l, _, e := expr.Parse(s)
	if e != api.OK {
		panic(s)
	}
	return l
}

// blockOf answers the block of a text that is one.
func blockOf(s string) []api.Action {
	l, e := acts.Parse(s)
	if e != api.OK {
		panic(s)
	}
	return l
}

// wantCheck holds what Check answers for c against an error.
func wantCheck(t *testing.T, what string, c api.Chart, want api.Errno) {
	t.Helper()
	if got := Check(c); got != want {
		t.Errorf("%.300s: %v, wanted %v", what, got, want)
	}
}

// wantText holds what Check answers for the chart of a text against an error.
func wantText(t *testing.T, s string, want api.Errno) {
	t.Helper()
	wantCheck(t, s, parsed(t, s), want)
}

// whole has each kind of state, of variable, of action, and transitions with
// and without each of their parts. Behind the lines stand the places of states
// and of transitions.
var whole = lines(
	"chart whole",
	"event go", "event up",
	"int x -5 5 0", "bool b true", "point p -9 9 1-2i",
	"one r a", // 0
	" entry x=1;raise:go",
	" exit send:up",
	" on go x<3&in(a) a x=x+1", // 0
	" on error - - -",          // 1
	" basic a",                 // 1
	"  entry b=!b",
	"  exit p=p*1i;raise:up",
	"  on - b u -",      // 2
	"  on done.q - h -", // 3
	" shallow h a",      // 2
	" deep k v",         // 3
	" final f",          // 4
	"  entry send:go",
	" both q", // 5
	"  entry x=re(p)",
	"  on done.u im(p)>=0|in(q) f raise:up;send:go", // 4
	"  one u v",                  // 6
	"   on up - k b=x<2;p=p+1i",  // 5
	"   basic v",                 // 7
	"    on done.r - w -",        // 6
	"   final w",                 // 8
	"   shallow g v",             // 9
	"  basic y",                  // 10
	"one s z",                    // 11
	" basic z",                   // 12
	"  on - !in(y)&in(f) - p=-p", // 7
	"  on go in(u)=b z -",        // 8
)

// fresh answers the chart of whole, which may be changed.
func fresh() api.Chart {
	c, _, _ := chart.Parse(whole)
	return c
}

// change is what may be done to the chart of whole.
type change struct {
	what string
	do   func(*api.Chart)
}

// wantChanges holds what Check answers for the chart of whole, changed in each
// of these ways, against an error.
func wantChanges(t *testing.T, want api.Errno, l []change) {
	t.Helper()
	for _, one := range l {
		c := fresh()
		one.do(&c)
		wantCheck(t, one.what, c, want)
	}
}

// ofTheDocument are the examples of the whole that are charts.
var ofTheDocument = []string{
	"chart a/event go/one r a/ basic a/  on go - b send:go/ basic b",
	"chart b/int x 0 3 0/event go/one r a/ basic a/  on go - - x=x+2",
	"chart c/event go/one r a/ basic a/  on - - a -",
	"chart d/event go/event up/one r a/ basic a/  on go in(d) b raise:up/ basic b/one s d/ basic d/  on up - e send:up/ final e",
	"chart e/event go/event up/one r a/ basic a/  on go - h -/ one k m/  on up - a -/  basic m/   on go - n -/  basic n/  deep h m",
	"chart f/point p -9 9 1-2i/bool b true/event go/one r a/ basic a/  on go re(p)<3&b - p=p*1i",
	"chart g/event go/one r q/ both q/  on done.q - z send:go/  one u v/   basic v/    on go - w -/   final w/  one x y/   basic y/    on go - t -/   final t/ final z",
	"chart h/event go/one r a/ basic a",
	"chart j/event go/one r a/ basic a/  on go - - send:go/one s b/ basic b",
}

// P9.2
func TestValid(t *testing.T) {
	wantText(t, whole, api.OK)
	for _, s := range ofTheDocument {
		wantText(t, strings.ReplaceAll(s, "/", "\n"), api.OK)
	}
	for _, s := range []string{
		// Of one name may be what isn't of one kind.
		"chart a/event a/int a 0 1 0/one b a/ basic a/  on a in(a)&a=0 a a=1;raise:a",
		"chart c/event error/one r a/ basic a/  on error - - raise:error;send:error",
		// Down and up by more than one, and histories ahead of all else.
		"chart c/one r d/ shallow h a/ deep g a/ one d e/  both e/   one f i/    basic i/     on - - a -/ basic a/  on - - i -",
		"chart c/one r a/ on - - h -/ on - - a -/ basic a/  on - - a -/ shallow h a/one s b/ final b",
	} {
		wantText(t, strings.ReplaceAll(s, "/", "\n"), api.OK)
	}
}

// P9.2: the chapter's examples, and charts of nothing.
func TestExamples(t *testing.T) {
	wantCheck(t, "no states", api.Chart{Name: "c"}, api.ErrOrder)
	wantText(t, "chart c\nevent go\nevent go", api.ErrTwice)
	wantText(t, "chart c\none r a\n basic a\n  on - - b -\none s b\n basic b", api.ErrOrder)
	wantText(t, "chart c\nevent go\nint x 0 1 0", api.ErrOrder)
	wantCheck(t, "nothing", api.Chart{}, api.ErrName)
	wantChanges(t, api.ErrOrder, []change{{"no states", func(c *api.Chart) { c.States, c.Trans = nil, nil }}})
}

// P9.1
func TestPlace(t *testing.T) {
	c := fresh()
	for i, name := range strings.Fields("r a h k f q u v w g y s z") {
		if got := Place(c, name); got != i {
			t.Errorf("%s: %d, wanted %d", name, got, i)
		}
	}
	// Others are no states' names, if they are names at all.
	for _, name := range []string{"", "whole", "go", "up", "x", "b", "p", "n", "rr", "ra", "R", " r", "r ", "done.r", "error", "-", "r\x00", "\xff", strings.Repeat("r", 1<<20)} {
		if got := Place(c, name); got != -1 {
			t.Errorf("%.20q: %d", name, got)
		}
	}
}

// P9.1: charts that aren't valid have states too.
func TestPlaceOfTheFirst(t *testing.T) {
	state := func(name string) api.State { return api.State{Name: name} }
	c := api.Chart{States: []api.State{state("a"), state("b"), state("a"), state(""), state("b"), state("in"), state(""), state("a b")}}
	for name, want := range map[string]int{"a": 0, "b": 1, "": 3, "in": 5, "a b": 7, "c": -1, "a ": -1} {
		if got := Place(c, name); got != want {
			t.Errorf("%q: %d, wanted %d", name, got, want)
		}
	}
	if Place(api.Chart{}, "") != -1 || Place(api.Chart{Name: "a", Events: []string{"a"}}, "a") != -1 {
		t.Error("there are no states")
	}
	c.States = append(slices.Repeat([]api.State{state("a")}, 1<<16), state("c"))
	if Place(c, "c") != 1<<16 || Place(c, "b") != -1 {
		t.Error("many states")
	}
}

// numbered answers n words that begin alike.
func numbered(word string, n int) []string {
	var l []string
	for i := range n {
		l = append(l, word+strconv.Itoa(i))
	}
	return l
}

// sized answers a chart of so many events, variables, states (two at least)
// and transitions.
func sized(events, vars, states, trans int) api.Chart {
	c := api.Chart{Name: "c", Events: numbered("e", events)}
	for _, name := range numbered("x", vars) {
		c.Vars = append(c.Vars, api.Var{Name: name, Kind: api.KInt, Init: api.Value{Kind: api.KInt}})
	}
	c.States = []api.State{{Name: "r", Kind: api.SOne, Initial: "s0"}}
	for _, name := range numbered("s", states-1) {
		c.States = append(c.States, api.State{Name: name, Kind: api.SBasic, Depth: 1})
	}
	c.Trans = make([]api.Trans, trans)
	return c
}

// P9.2, the first point: just as many as there may be, and one more.
func TestHowMany(t *testing.T) {
	wantCheck(t, "few", sized(0, 0, 2, 0), api.OK)
	wantCheck(t, "all", sized(12, 8, 40, 48), api.OK)
	for _, n := range [][4]int{{12, 0, 2, 0}, {0, 8, 2, 0}, {0, 0, 40, 0}, {0, 0, 2, 48}, {11, 7, 39, 47}} {
		wantCheck(t, "as many as there may be", sized(n[0], n[1], n[2], n[3]), api.OK)
	}
	for _, n := range [][4]int{{13, 0, 2, 0}, {0, 9, 2, 0}, {0, 0, 41, 0}, {0, 0, 2, 49}, {13, 8, 40, 48}, {12, 9, 40, 48}, {12, 8, 41, 48}, {12, 8, 40, 49}, {1 << 16, 0, 2, 0}, {0, 1 << 16, 2, 0}, {0, 0, 1 << 16, 0}, {0, 0, 2, 1 << 16}} {
		wantCheck(t, "one more", sized(n[0], n[1], n[2], n[3]), api.ErrLong)
	}
	// Though nothing else is as it should be.
	wantCheck(t, "events", api.Chart{Events: make([]string, 13)}, api.ErrLong)
	wantCheck(t, "variables", api.Chart{Vars: make([]api.Var, 9)}, api.ErrLong)
	wantCheck(t, "states", api.Chart{States: make([]api.State, 41)}, api.ErrLong)
	wantCheck(t, "transitions", api.Chart{Trans: make([]api.Trans, 49)}, api.ErrLong)
	wantCheck(t, "not too many", api.Chart{Events: make([]string, 12), Vars: make([]api.Var, 8), States: make([]api.State, 40), Trans: make([]api.Trans, 48)}, api.ErrName)
}

// noNames are texts that are no names.
var noNames = []string{"", "in", "re", "im", "true", "false", "1", "_a", "A", "aB", "a-", "a b", " a", "a ", "a\n", "done.a", "done.", "abcdefghijklm", "\xff", "a\x00", "-", strings.Repeat("a", 1<<20)}

// longNames are names as long as they may be, and like those that mean
// something.
var longNames = []string{"abcdefghijkl", "a_1", "inn", "tru", "done", "error", "chart", "on"}

// P9.2, the second point.
func TestNames(t *testing.T) {
	for _, w := range noNames {
		wantChanges(t, api.ErrName, []change{
			{"the chart's name " + w, func(c *api.Chart) { c.Name = w }},
			{"an event's name " + w, func(c *api.Chart) { c.Events = append(c.Events, w) }},
			{"the first event's name " + w, func(c *api.Chart) { c.Events[0] = w }},
			{"a variable's name " + w, func(c *api.Chart) { c.Vars[2].Name = w }},
			{"the first variable's name " + w, func(c *api.Chart) { c.Vars[0].Name = w }},
			{"a state's name " + w, func(c *api.Chart) { c.States[10].Name = w }},
			{"the first state's name " + w, func(c *api.Chart) { c.States[0].Name = w }},
		})
	}
	for _, w := range longNames {
		wantChanges(t, api.OK, []change{
			{"the chart's name " + w, func(c *api.Chart) { c.Name = w }},
			{"an event's name " + w, func(c *api.Chart) { c.Events = append(c.Events, w) }},
			{"a variable's name " + w, func(c *api.Chart) { c.Vars = append(c.Vars, c.Vars[0]); c.Vars[3].Name = w }},
			{"a state's name " + w, func(c *api.Chart) { c.States[9].Name = w }},
		})
	}
}

// P9.2, the third point.
func TestNamesThatAreTwice(t *testing.T) {
	c := sized(12, 8, 40, 0)
	for i := range 12 {
		for j := range i {
			wantSame(t, c, api.ErrTwice, func(c *api.Chart) { c.Events[j] = c.Events[i] })
		}
	}
	for i := range 8 {
		for j := range i {
			wantSame(t, c, api.ErrTwice, func(c *api.Chart) { c.Vars[j].Name = c.Vars[i].Name })
		}
	}
	for i := range 40 {
		for j := range i {
			wantSame(t, c, api.ErrTwice, func(c *api.Chart) { c.States[j].Name = c.States[i].Name })
		}
	}
	// One name may be an event's, a variable's, a state's and the chart's.
	wantSame(t, c, api.OK, func(c *api.Chart) { c.Name, c.Events[1], c.Vars[3].Name, c.States[7].Name = "one", "one", "one", "one" })
}

// wantSame holds what Check answers for c, changed, against an error.
func wantSame(t *testing.T, c api.Chart, want api.Errno, do func(*api.Chart)) {
	t.Helper()
	c.Events, c.Vars, c.States, c.Trans = slices.Clone(c.Events), slices.Clone(c.Vars), slices.Clone(c.States), slices.Clone(c.Trans)
	do(&c)
	wantCheck(t, "changed", c, want)
}

// P9.2, the fourth point: some of what makes a tree wrong; layer 7 is asked.
func TestTrees(t *testing.T) {
	for i := range fresh().States {
		for _, n := range []int{-1, 6, math.MinInt, math.MaxInt} {
			wantChanges(t, api.ErrOrder, []change{{"depth", func(c *api.Chart) { c.States[i].Depth = n }}})
		}
		for _, n := range []int{0, -1, 7, math.MinInt, math.MaxInt} {
			wantChanges(t, api.ErrOrder, []change{{"kind", func(c *api.Chart) { c.States[i].Kind = n }}})
		}
	}
	wantChanges(t, api.ErrOrder, []change{
		{"a region that is an SBoth", func(c *api.Chart) { c.States[0].Kind, c.States[0].Initial = api.SBoth, "" }},
		{"a region without children", func(c *api.Chart) { c.States = c.States[:12]; c.Trans = nil }},
		{"an SBasic with children", func(c *api.Chart) { c.States[5].Kind = api.SBasic }},
		{"a final state in an SBoth", func(c *api.Chart) { c.States[10].Kind = api.SFinal }},
		{"a history in an SBoth", func(c *api.Chart) { c.States[10].Kind, c.States[10].Initial = api.SDeep, "u" }},
		{"children that are histories", func(c *api.Chart) { c.States[12].Kind, c.States[12].Initial = api.SShallow, "z" }},
		{"one deeper by two", func(c *api.Chart) { c.States[6].Depth = 3 }},
		{"nothing but a state", func(c *api.Chart) { c.States, c.Trans = make([]api.State, 1), nil; c.States[0].Name = "a" }},
	})
	wantText(t, "chart c\none a b\n basic b\none d e\n basic e\none f g\n basic g\none h i\n basic i", api.OK)
	wantText(t, "chart c\none a b\n basic b\none d e\n basic e\none f g\n basic g\none h i\n basic i\none j k\n basic k", api.ErrOrder)
	wantText(t, "chart c\none a b\n one b d\n  one d e\n   one e f\n    one f g\n     basic g", api.OK)
	wantText(t, "chart c\none a b\n one b d\n  one d e\n   one e f\n    one f g\n     one g h\n      basic h", api.ErrOrder)
}

// P9.2, the fifth point: an Initial where none may be.
func TestInitialThatMayNotBe(t *testing.T) {
	for _, i := range []int{1, 4, 5, 7, 8, 10, 12} {
		for _, w := range []string{"a", "r", "q", "u", "nothing", " ", "-", fresh().States[i].Name} {
			wantChanges(t, api.ErrForm, []change{{"an Initial of " + fresh().States[i].Name, func(c *api.Chart) { c.States[i].Initial = w }}})
		}
	}
}

// initials are, of each state that has one, the names that its Initial may be
// in whole.
var initials = map[string]string{
	"r": "a f q",
	"u": "v w",
	"s": "z",
	"h": "a f q",
	"k": "a f q u v w y",
	"g": "v w",
}

// P9.2, the fifth point: each Initial may be just some of the states' names.
func TestInitial(t *testing.T) {
	texts := []string{"", "nothing", "go", "x", "whole", "-", " a", "a ", "A", "done.q"}
	for _, s := range fresh().States {
		texts = append(texts, s.Name)
	}
	for name, may := range initials {
		i := Place(fresh(), name)
		for _, w := range texts {
			want := api.ErrName
			if slices.Contains(strings.Fields(may), w) {
				want = api.OK
			}
			wantChanges(t, want, []change{{"Initial of " + name + ": " + w, func(c *api.Chart) { c.States[i].Initial = w }}})
		}
	}
}

// P9.2, the fifth point: states alike in where they stand, of each kind that
// an Initial may be told of.
func TestInitialOfHistories(t *testing.T) {
	// n is deeper than a child of h's parent, b is beside, in another one.
	for _, kind := range []string{"shallow", "deep"} {
		for w, want := range map[string]api.Errno{"m": api.OK, "k": api.OK, "n": api.OK, "b": api.ErrName, "a": api.ErrName, "q": api.ErrName, "r": api.ErrName, "s": api.ErrName, "h": api.ErrName, "i": api.ErrName, "d": api.ErrName} {
			if kind == "shallow" && w == "n" {
				want = api.ErrName
			}
			wantText(t, lines("chart c", "one r a", " one a m", "  basic m", "  "+kind+" h "+w, "  one k n", "   basic n", "   deep i n", "  deep d m", " one q b", "  basic b", "one s t", " basic t"), want)
		}
	}
	// A history's Initial may stand ahead of it or behind it.
	for _, kind := range []string{"shallow", "deep"} {
		wantText(t, lines("chart c", "one r a", " "+kind+" h b", " basic a", " basic b"), api.OK)
		wantText(t, lines("chart c", "one r a", " basic a", " basic b", " "+kind+" h a"), api.OK)
	}
}

// variableOf answers a variable that begins with a.
func variableOf(kind int, lo, hi, a int64) api.Var {
	return api.Var{Name: "x", Kind: kind, Lo: lo, Hi: hi, Init: api.Value{Kind: kind, A: a}}
}

// wantVar holds what Check answers for a chart that has v behind other
// variables and ahead of them against an error.
func wantVar(t *testing.T, v api.Var, want api.Errno) {
	t.Helper()
	c := sized(0, 3, 2, 0)
	wantSame(t, c, want, func(c *api.Chart) { c.Vars = append(c.Vars, v) })
	wantSame(t, c, want, func(c *api.Chart) { c.Vars = append([]api.Var{v}, c.Vars...) })
}

// P9.2, the sixth point: kinds.
func TestKindsOfVariables(t *testing.T) {
	for kind := -2; kind <= 6; kind++ {
		for init := -2; init <= 6; init++ {
			v := variableOf(kind, 0, 1, 0)
			v.Init.Kind = init
			want := api.ErrKind
			if kind == init && kind >= 1 && kind <= 3 {
				want = api.OK
			}
			wantVar(t, v, want)
		}
	}
	for _, kind := range []int{math.MinInt, math.MaxInt, 1<<32 + api.KInt} {
		wantVar(t, variableOf(kind, 0, 1, 0), api.ErrKind)
		// Kinds are asked ahead of bounds.
		wantVar(t, variableOf(kind, 1, 0, 5), api.ErrKind)
	}
}

// P9.2, the sixth point: bounds of numbers and of points.
func TestBounds(t *testing.T) {
	for kind, far := range map[int]int64{api.KInt: 1 << 40, api.KPoint: 1 << 20} {
		for _, b := range [][2]int64{{0, 0}, {-far, far}, {-far, -far}, {far, far}, {-far, 0}, {0, far}, {far - 1, far}, {-far, 1 - far}, {-5, -5}, {5, 5}, {-5, 5}} {
			v := variableOf(kind, b[0], b[1], b[0])
			v.Init.B = v.Lo
			if kind == api.KInt {
				v.Init.B = 0
			}
			wantVar(t, v, api.OK)
		}
		for _, b := range [][2]int64{{1, 0}, {0, -1}, {5, 4}, {far, -far}, {far, far - 1}, {-far - 1, 0}, {0, far + 1}, {-far - 1, far}, {-far, far + 1}, {far + 1, far + 1}, {-far - 1, -far - 1}, {math.MinInt64, 0}, {0, math.MaxInt64}, {math.MinInt64, math.MaxInt64}, {math.MaxInt64, math.MinInt64}, {math.MinInt64, math.MinInt64}, {math.MaxInt64, math.MaxInt64}} {
			for _, a := range []int64{0, b[0], b[1]} {
				wantVar(t, variableOf(kind, b[0], b[1], a), api.ErrRange)
			}
		}
	}
	// A point's bounds are less far than a number's.
	wantVar(t, variableOf(api.KPoint, 0, 1<<40, 0), api.ErrRange)
	wantVar(t, variableOf(api.KPoint, -1<<40, 0, 0), api.ErrRange)
}

// P9.2, the sixth point: truths have the bounds of truths.
func TestBoundsOfTruths(t *testing.T) {
	for lo := int64(-2); lo <= 2; lo++ {
		for hi := int64(-2); hi <= 2; hi++ {
			for a := int64(-1); a <= 2; a++ {
				want := api.ErrRange
				if lo == 0 && hi == 1 && (a == 0 || a == 1) {
					want = api.OK
				}
				wantVar(t, variableOf(api.KBool, lo, hi, a), want)
			}
		}
	}
	for _, far := range []int64{math.MaxInt64, 1 << 40} {
		wantVar(t, variableOf(api.KBool, -far, far, 0), api.ErrRange)
		wantVar(t, variableOf(api.KBool, 0, far, 0), api.ErrRange)
		wantVar(t, variableOf(api.KBool, 0, 1, far), api.ErrRange)
	}
}

// P9.2, the sixth point: what variables begin with.
func TestInit(t *testing.T) {
	for _, b := range [][2]int64{{0, 0}, {-3, 2}, {-1 << 20, 1 << 20}, {4, 7}, {-7, -4}} {
		lo, hi := b[0], b[1]
		for _, a := range []int64{lo, hi, lo - 1, hi + 1, math.MinInt64, math.MaxInt64, (lo + hi) / 2} {
			in := lo <= a && a <= hi
			want := api.ErrRange
			if in {
				want = api.OK
			}
			wantVar(t, variableOf(api.KInt, lo, hi, a), want)
			// Each part of a point by itself, and both.
			v := variableOf(api.KPoint, lo, hi, a)
			v.Init.B = lo
			wantVar(t, v, want)
			v.Init.A, v.Init.B = hi, a
			wantVar(t, v, want)
			v.Init.A = a
			wantVar(t, v, want)
		}
	}
	for _, far := range []int64{1 << 40, 1<<40 - 1, -1 << 40, 1 - 1<<40} {
		wantVar(t, variableOf(api.KInt, -1<<40, 1<<40, far), api.OK)
	}
	wantVar(t, variableOf(api.KInt, -1<<40, 1<<40, 1<<40+1), api.ErrRange)
	wantVar(t, variableOf(api.KInt, -1<<40, 1<<40, -1<<40-1), api.ErrRange)
	// What is no right value.
	for _, kind := range []int{api.KInt, api.KBool} {
		for _, n := range []int64{1, -1, math.MinInt64} {
			v := variableOf(kind, 0, 1, 1)
			v.Init.B = n
			wantVar(t, v, api.ErrRange)
		}
	}
}
