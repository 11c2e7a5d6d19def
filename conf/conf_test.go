package conf

import (
	"math"
	"reflect"
	"slices"
	"strconv"
	"strings"
	"testing"

	"quintain/acts"
	"quintain/api"
	"quintain/chart"
	"quintain/valid"
)

// parsed answers the chart of a text whose lines are parted by /.
func parsed(t *testing.T, s string) api.Chart {
	t.Helper()
	c, n, e := chart.Parse(strings.ReplaceAll(s, "/", "\n"))
	if e != api.OK || valid.Check(c) != api.OK {
		t.Fatalf("%.300q: line %d: %v, %v", s, n, e, valid.Check(c))
	}
	return c
}

// places answers the places of the states with these names, in their order.
func places(t *testing.T, c api.Chart, names string) []int {
	t.Helper()
	var l []int
	for _, name := range strings.Fields(names) {
		i := valid.Place(c, name)
		if i == -1 {
			t.Fatal("there is no state", name)
		}
		l = append(l, i)
	}
	return l
}

// all has each kind of state, SBoth's within one another and SOne's within one
// another, whose Initial is the first child, a later one, one with children.
const all = "chart all/event go/int x 0 9 0" +
	"/one r q" + // 0
	"/ basic a" + // 1
	"/  on go - q x=x+1" +
	"/ both q" + // 2
	"/  one u v" + // 3
	"/   basic v" + // 4
	"/   final w" + // 5
	"/  both p" + // 6
	"/   one m n" + // 7
	"/    final i" + // 8
	"/    one n o" + // 9
	"/     basic b" + // 10
	"/     final o" + // 11
	"/     deep d b" + // 12
	"/   one k l" + // 13
	"/    final l" + // 14
	"/ final f" + // 15
	"/ shallow h a" + // 16
	"/ deep g n" + // 17
	"/one s z" + // 18
	"/ one y e" + // 19
	"/  basic e" + // 20
	"/ final z" // 21

// begun is what all starts with.
const begun = "r q u v p m n o k l s z"

// P10.1: the chapter's example.
func TestExample(t *testing.T) {
	c := parsed(t, "chart c/one r a/ basic a")
	if got := Start(c); !slices.Equal(got, []int{0, 1}) {
		t.Error("Start", got)
	}
	if got := Leaves(c, []int{0, 1}); !slices.Equal(got, []int{1}) {
		t.Error("Leaves", got)
	}
	if Legal(c, []int{0}) || !Legal(c, []int{0, 1}) {
		t.Error("Legal")
	}
}

// P10.1
func TestBegin(t *testing.T) {
	c := parsed(t, all)
	for name, want := range map[string]string{
		"a": "a", "v": "v", "b": "b", "e": "e",
		"f": "f", "w": "w", "i": "i", "o": "o", "l": "l", "z": "z",
		"r": "r q u v p m n o k l", "s": "s z", "u": "u v", "m": "m n o", "n": "n o", "k": "k l", "y": "y e",
		"q": "q u v p m n o k l", "p": "p m n o k l",
		"h": "", "g": "", "d": "",
	} {
		if got := Begin(c, valid.Place(c, name)); !slices.Equal(got, places(t, c, want)) {
			t.Errorf("%s: %v", name, got)
		}
	}
	wantBegins(t, c)
}

// P10.1: places that there aren't.
func TestBeginOfNoPlace(t *testing.T) {
	for _, s := range []string{all, "chart c/one r a/ basic a"} {
		c := parsed(t, s)
		for _, i := range []int{-1, -2, len(c.States), len(c.States) + 1, 40, 1 << 32, math.MaxInt, math.MinInt, math.MinInt + 1} {
			if got := Begin(c, i); len(got) != 0 {
				t.Errorf("%d: %v", i, got)
			}
		}
		// Behind the length there is room, of which nothing is told.
		c.States = append(slices.Clip(c.States), api.State{Name: "more", Kind: api.SBasic, Depth: 1})[:len(c.States)]
		if got := Begin(c, len(c.States)); len(got) != 0 {
			t.Error("spare room", got)
		}
	}
}

// P10.1, P10.4
func TestStart(t *testing.T) {
	for _, row := range []struct{ text, want string }{
		{all, begun},
		{"chart c/one r a/ basic a", "r a"},
		{"chart c/one r a/ final a", "r a"},
		{"chart c/one r b/ basic a/ basic b", "r b"},
		{"chart c/one r b/ shallow h a/ basic a/ basic b/ deep g a", "r b"},
		{"chart c/one r a/ basic a/one s b/ basic b", "r a s b"},
		{"chart c/one r a/ basic a/one s d/ basic b/ basic d/one e f/ final f/one g i/ basic h/ one i j/  basic j", "r a s d e f g i j"},
		{"chart c/one r b/ one a d/  basic d/ one b f/  basic e/  one f i/   basic g/   basic i", "r b f i"},
		{"chart c/one a b/ one b d/  one d e/   one e f/    one f g/     basic g", "a b d e f g"},
		{"chart c/one a b/ both b/  both d/   both e/    both f/     basic g/     basic h/   basic i/  basic j", "a b d e f g h i j"},
		{"chart c/one r q/ both q/  one a d/   basic b/   both d/    one e f/     basic f/    one g i/     basic h/     basic i/  one j k/   final k/ basic z", "r q a d e f g i j k"},
		// What comes ahead of what begins isn't in it, how deep it is.
		{"chart c/one r z/ both q/  one a b/   both b/    basic d/ basic z", "r z"},
	} {
		c := parsed(t, row.text)
		got := Start(c)
		if !slices.Equal(got, places(t, c, row.want)) || !Legal(c, got) {
			t.Errorf("%s: %v", row.text, got)
		}
		wantBegins(t, c)
		wantSaid(t, c, got)
	}
}

// legals are, of all, configurations that are legal: their leaves, and what is
// over in each.
var legals = []struct{ names, leaves, over string }{
	{begun, "v o l z", "n k s"},
	{"r a s z", "a z", "s"},
	{"r a s y e", "a e", ""},
	{"r f s z", "f z", "r s"},
	{"r f s y e", "f e", "r"},
	{"r q u w p m n b k l s y e", "w b l e", "u k"},
	{"r q u w p m n o k l s y e", "w o l e", "u n k"},
	{"r q u v p m i k l s z", "v i l z", "p m k s"},
	{"r q u w p m i k l s z", "w i l z", "q u p m k s"},
	{"r q u w p m i k l s y e", "w i l e", "q u p m k"},
}

// P10.2, P10.3, P10.4
func TestLegal(t *testing.T) {
	c := parsed(t, all)
	for _, row := range legals {
		l := places(t, c, row.names)
		if !Legal(c, l) {
			t.Error("not legal", row.names)
		}
		if got := Leaves(c, l); !slices.Equal(got, places(t, c, row.leaves)) {
			t.Errorf("%s: Leaves %v", row.names, got)
		}
		if got := Names(c, l); !slices.Equal(got, strings.Fields(row.names)) {
			t.Errorf("%s: Names %v", row.names, got)
		}
		over := places(t, c, row.over)
		for i := range c.States {
			if got := Over(c, l, i); got != slices.Contains(over, i) {
				t.Errorf("%s: Over of %d is %v", row.names, i, got)
			}
		}
		wantSaid(t, c, l)
	}
	// No more are there than the ways to put children together.
	if n := len(saidLegals(c)); n != 16 {
		t.Fatal("configurations", n)
	}
	for _, l := range saidLegals(c) {
		if !Legal(c, l) {
			t.Error("not legal", l)
		}
		wantSaid(t, c, l)
	}
}

// P10.2, P10.3: lists that aren't legal.
func TestNotLegal(t *testing.T) {
	c := parsed(t, all)
	every := make([]int, len(c.States))
	for i := range every {
		every[i] = i
	}
	lists := map[string][]int{
		"nil": nil, "empty": {}, "every place": every, "very many": slices.Repeat([]int{0}, 1<<16),
	}
	for what, names := range map[string]string{
		"every state that is no history": "r a q u v w p m i n b o k l f s y e z",
		"regions alone":                  "r s",
		"without the first region":       "s z",
		"without the last region":        "r a",
		"a region's child alone":         "r a z",
		"without all regions":            "a z",
		"without the parent":             "r q u v p n o k l s z",
		"without the parent, deeper":     "r q u v p m o k l s z",
		"without the parent, an SBoth":   "r u v p m n o k l s z",
		"without all parents":            "v o l z",
		"a child of what isn't active":   "r a v s z",
		"a child of another one":         "r a s e z",
		"an SOne without a child":        "r q u p m n o k l s z",
		"a region without a child":       "r s z",
		"the last one without a child":   "r a s",
		"the last one's without a child": "r a s y",
		"a deep one without a child":     "r q u v p m n k l s z",
		"an SOne with two":               "r q u v w p m n o k l s z",
		"a region with two":              "r a q u v p m n o k l s z",
		"a region with two leaves":       "r a f s z",
		"the last region with two":       "r a s y e z",
		"with two deep ones":             "r q u v p m i n o k l s z",
		"an SBoth without the first":     "r q p m n o k l s z",
		"an SBoth without the last":      "r q u v p m n o s z",
		"an SBoth without one":           "r q u v s z",
		"an SBoth without all":           "r q s z",
		"an SBoth within without all":    "r q u v p s z",
		"a shallow history for a child":  "r h s z",
		"a deep history for a child":     "r g s z",
		"a history beside":               "r a h s z",
		"a deep history beside":          "r a g s z",
		"a history within":               "r q u v p m n o d k l s z",
		"a history within, for a child":  "r q u v p m n d k l s z",
		"changed about":                  "a r s z",
		"regions changed about":          "s z r a",
		"the last ones changed about":    "r a z s",
		"falling":                        "z s a r",
		"one twice":                      "r a a s z",
		"a region twice":                 "r r a s z",
		"the last one twice":             "r a s z z",
		"all of it twice":                "r a s z r a s z",
	} {
		lists[what] = places(t, c, names)
	}
	a := places(t, c, "r a s z")
	for _, i := range []int{-1, -2, math.MinInt} {
		lists["below nought "+strconv.Itoa(i)] = slices.Insert(slices.Clone(a), 0, i)
	}
	for _, i := range []int{len(c.States), len(c.States) + 1, 40, 1 << 32, math.MaxInt} {
		lists["beyond "+strconv.Itoa(i)] = append(slices.Clone(a), i)
	}
	for what, l := range lists {
		if saidLegal(c, l) {
			t.Error(what, "should be legal")
		}
		wantNothingOf(t, c, l, append([]int{-1, len(c.States), math.MinInt, math.MaxInt}, every...)...)
	}
}

// P10.2: of each legal configuration, each place taken away, put in, put for
// another, told twice, changed about with another.
func TestNearlyLegal(t *testing.T) {
	c := parsed(t, all)
	for _, row := range legals {
		l := places(t, c, row.names)
		for n := range l {
			wantNothingOf(t, c, slices.Delete(slices.Clone(l), n, n+1), l...)
			wantNothingOf(t, c, slices.Insert(slices.Clone(l), n, l[n]), l...)
			for k := range n {
				m := slices.Clone(l)
				m[n], m[k] = m[k], m[n]
				wantNothingOf(t, c, m, l...)
			}
			for i := -1; i <= len(c.States); i++ {
				m := slices.Clone(l)
				m[n] = i
				wantSaid(t, c, m)
			}
		}
		for i := -1; i <= len(c.States); i++ {
			m := append(slices.Clone(l), i)
			slices.Sort(m)
			wantNothingOf(t, c, m, l...)
		}
	}
}

// P10.3: what is over, by itself.
func TestOver(t *testing.T) {
	for _, row := range []struct{ text, names, over string }{
		{"chart c/one r a/ basic a/ final f", "r a", ""},
		{"chart c/one r a/ basic a/ final f", "r f", "r"},
		{"chart c/one r a/ basic a/ final f/ final g", "r g", "r"},
		// A child that is over isn't final.
		{"chart c/one r a/ one a b/  final b", "r a b", "a"},
		{"chart c/one r q/ both q/  one a b/   final b", "r q a b", "q a"},
		{"chart c/one r q/ both q/  one a b/   final b/  one d e/   final e/   basic f", "r q a b d e", "q a d"},
		{"chart c/one r q/ both q/  one a b/   final b/  one d e/   final e/   basic f", "r q a b d f", "a"},
		{"chart c/one r q/ both q/  one d e/   basic e/   final f/  one a b/   final b", "r q d e a b", "a"},
		// SBasic is never over, so none is around it.
		{"chart c/one r q/ both q/  one a b/   final b/  basic d", "r q a b d", "a"},
		{"chart c/one r q/ both q/  basic d", "r q d", ""},
		// SBoth in SBoth.
		{"chart c/one r q/ both q/  both p/   one a b/    final b/  one d e/   final e", "r q p a b d e", "q p a d"},
		{"chart c/one r q/ both q/  both p/   one a b/    final b/    basic f/  one d e/   final e", "r q p a f d e", "d"},
		{"chart c/one r q/ both q/  both p/   one a b/    final b/  one d e/   final e/   basic f", "r q p a b d f", "p a"},
		// An SOne whose child isn't final, though what is within it is.
		{"chart c/one r q/ both q/  one a b/   one b d/    final d", "r q a b d", "b"},
	} {
		c := parsed(t, row.text)
		l, over := places(t, c, row.names), places(t, c, row.over)
		for i := range c.States {
			if got := Over(c, l, i); got != slices.Contains(over, i) {
				t.Errorf("%s: %s: Over of %s is %v", row.text, row.names, c.States[i].Name, got)
			}
		}
		for _, i := range []int{-1, len(c.States), 40, math.MinInt, math.MaxInt} {
			if Over(c, l, i) {
				t.Errorf("%s: %d is over", row.text, i)
			}
		}
		wantSaid(t, c, l)
	}
}

// P10.1, P10.2, P10.3: charts that aren't valid, by each of what is asked,
// though their states might be told.
func TestNotValid(t *testing.T) {
	block, _ := acts.Parse("raise:nothing")
	for what, do := range map[string]func(*api.Chart){
		"nothing":                func(c *api.Chart) { *c = api.Chart{} },
		"no states":              func(c *api.Chart) { c.States, c.Trans = nil, nil },
		"too many events":        func(c *api.Chart) { c.Events = strings.Fields("a b c d e f g h i j k l m") },
		"too many states":        func(c *api.Chart) { *c = wide(41) },
		"very many states":       func(c *api.Chart) { *c = wide(1 << 16) },
		"too many transitions":   func(c *api.Chart) { c.Trans = slices.Repeat(c.Trans, 49) },
		"no name":                func(c *api.Chart) { c.Name = "" },
		"a state's name":         func(c *api.Chart) { c.States[21].Name = "in" },
		"an event's name":        func(c *api.Chart) { c.Events = append(c.Events, "") },
		"twice":                  func(c *api.Chart) { c.States[21].Name = "r" },
		"a tree that isn't":      func(c *api.Chart) { c.States[20].Kind = api.SDeep },
		"a kind that isn't":      func(c *api.Chart) { c.States[20].Kind = 7 },
		"a depth that isn't":     func(c *api.Chart) { c.States[20].Depth = 4 },
		"no child":               func(c *api.Chart) { c.States = c.States[:19] },
		"an Initial of none":     func(c *api.Chart) { c.States[19].Initial = "" },
		"no child's Initial":     func(c *api.Chart) { c.States[0].Initial = "s" },
		"its own Initial":        func(c *api.Chart) { c.States[0].Initial = "r" },
		"a history's Initial":    func(c *api.Chart) { c.States[0].Initial = "h" },
		"of a history":           func(c *api.Chart) { c.States[16].Initial = "" },
		"of an SBasic":           func(c *api.Chart) { c.States[1].Initial = "a" },
		"a variable":             func(c *api.Chart) { c.Vars[0].Init.A = 10 },
		"a variable's kind":      func(c *api.Chart) { c.Vars[0].Kind = 4 },
		"a block":                func(c *api.Chart) { c.States[21].Entry = block },
		"a history's block":      func(c *api.Chart) { c.States[16].Entry = []api.Action{{}} },
		"where one stands":       func(c *api.Chart) { c.Trans[0].From = 21 },
		"what one waits for":     func(c *api.Chart) { c.Trans[0].Event = "nothing" },
		"a guard":                func(c *api.Chart) { c.Trans[0].Guard = []api.Cell{{Op: api.OInt}} },
		"where one leads":        func(c *api.Chart) { c.Trans[0].To = "s" },
		"what a transition does": func(c *api.Chart) { c.Trans[0].Acts = block },
	} {
		c := parsed(t, all)
		l := places(t, c, begun)
		do(&c)
		if valid.Check(c) == api.OK {
			t.Error(what, "should not be valid")
		}
		for _, i := range []int{-1, 0, 1, 2, 16, 21, 22, 41, math.MinInt, math.MaxInt} {
			if got := Begin(c, i); len(got) != 0 {
				t.Errorf("%s: Begin of %d: %v", what, i, got)
			}
		}
		if got := Start(c); len(got) != 0 {
			t.Errorf("%s: Start: %v", what, got)
		}
		for _, m := range [][]int{l, nil, {0}, {0, 1}, {0, 1, 18, 21}, {0, 15, 18, 21}} {
			wantNothingOf(t, c, m, -1, 0, 1, 2, 18, 21)
		}
	}
}

// wide answers a chart of n states: a region and its children, all final.
func wide(n int) api.Chart {
	c := api.Chart{Name: "c", States: []api.State{{Name: "r", Kind: api.SOne, Initial: "s1"}}}
	for i := 1; i < n; i++ {
		c.States = append(c.States, api.State{Name: "s" + strconv.Itoa(i), Kind: api.SFinal, Depth: 1})
	}
	return c
}

// P10.1, P10.2, P10.3: as many states as there may be.
func TestMostStates(t *testing.T) {
	c := wide(40)
	if got := Start(c); !slices.Equal(got, []int{0, 1}) {
		t.Error("Start", got)
	}
	for i := 1; i < 40; i++ {
		l := []int{0, i}
		if !Legal(c, l) || !Over(c, l, 0) || Over(c, l, i) || !slices.Equal(Begin(c, i), l[1:]) || !slices.Equal(Leaves(c, l), l[1:]) || !slices.Equal(Names(c, l), []string{"r", c.States[i].Name}) {
			t.Error("a child of many", i)
		}
		wantSaid(t, c, l)
	}
	wantNothingOf(t, c, []int{0, 39, 40}, 0, 39, 40)
	// All of them at once.
	for i := range c.States {
		c.States[i].Kind, c.States[i].Depth = api.SBasic, 2
	}
	c.States[0].Kind, c.States[0].Depth = api.SOne, 0
	c.States[1].Kind, c.States[1].Depth = api.SBoth, 1
	l := Start(c)
	if len(l) != 40 || l[39] != 39 || !Legal(c, l) || len(Leaves(c, l)) != 38 || len(Names(c, l)) != 40 || Over(c, l, 1) {
		t.Error("all of them", l)
	}
	wantSaid(t, c, l)
	wantBegins(t, c)
}

// P10.1, P10.2, P10.3: what is handed in stays, its spare room too, and asking
// again answers the same.
func TestNothingIsChanged(t *testing.T) {
	c, was := parsed(t, all), parsed(t, all)
	c.States = append(c.States, api.State{Name: "more", Initial: "a"})[:len(c.States)]
	was.States = append(was.States, api.State{Name: "more", Initial: "a"})[:len(was.States)]
	for _, row := range legals {
		for _, names := range []string{row.names, row.leaves, row.over} {
			room := append(places(t, c, names), 7, -7, 1)
			before := slices.Clone(room)
			l := room[:len(room)-3]
			for range 2 {
				wantSaid(t, c, l)
				wantBegins(t, c)
			}
			if !slices.Equal(room, before) {
				t.Error(names, "was changed")
			}
		}
	}
	if !reflect.DeepEqual(c, was) || !reflect.DeepEqual(c.States[:cap(c.States)][:23], was.States[:cap(was.States)][:23]) {
		t.Error("the chart was changed")
	}
}

// P10.1, P10.3: what is answered is new, spare room included.
func TestNothingIsShared(t *testing.T) {
	c := parsed(t, all)
	l := places(t, c, begun)
	for what, ask := range map[string]func() []int{
		"Start":           func() []int { return Start(c) },
		"Begin":           func() []int { return Begin(c, 2) },
		"Begin of a leaf": func() []int { return Begin(c, 1) },
		"Leaves":          func() []int { return Leaves(c, l) },
	} {
		first, again := ask(), ask()
		want := slices.Clone(again)
		first = first[:cap(first)]
		for i := range first {
			first[i] = -7
		}
		if !slices.Equal(again, want) || !slices.Equal(ask(), want) || !slices.Equal(l, places(t, c, begun)) {
			t.Error(what, "shares memory")
		}
	}
	first, again := Names(c, l), Names(c, l)
	first = first[:cap(first)]
	for i := range first {
		first[i] = "in"
	}
	if strings.Join(again, " ") != begun || strings.Join(Names(c, l), " ") != begun || c.States[0].Name != "r" {
		t.Error("Names share memory")
	}
}
