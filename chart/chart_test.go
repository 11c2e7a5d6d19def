package chart

import (
	"math"
	"math/big"
	"reflect"
	"regexp"
	"slices"
	"strconv"
	"strings"
	"testing"
	"unsafe"

	"quintain/acts"
	"quintain/api"
	"quintain/expr"
	"quintain/plane"
)

// lines makes a text of lines that each end with a byte 10.
func lines(l ...string) string { return strings.Join(append(l, ""), "\n") }

// parsed answers the chart of a text that is one.
func parsed(t *testing.T, s string) api.Chart {
	t.Helper()
	c, n, e := Parse(s)
	if n != 0 || e != api.OK {
		t.Fatalf("%.300q: %d %v", s, n, e)
	}
	return c
}

// guard answers the expression of a text that is one.
func guard(s string) []api.Cell {
	l, _, e := expr.Parse(s)
	if e != api.OK {
		panic(s)
	}
	return l
}

// block answers the block of a text that is one.
func block(s string) []api.Action {
	l, e := acts.Parse(s)
	if e != api.OK {
		panic(s)
	}
	return l
}

// wantChart holds what Parse answers for s against a chart.
func wantChart(t *testing.T, s string, want api.Chart) {
	t.Helper()
	if got := parsed(t, s); !reflect.DeepEqual(bare(got), bare(want)) {
		t.Errorf("%.300q: %v, wanted %v", s, got, want)
	}
}

// wantFault holds what Parse answers for s against the number of a line, 0 if
// s is a chart's text.
func wantFault(t *testing.T, s string, want int) {
	t.Helper()
	c, n, e := Parse(s)
	if want == 0 {
		if n != 0 || e != api.OK || c.Name == "" {
			t.Errorf("%.300q: %v %d %v", s, c, n, e)
		}
		return
	}
	if n != want || e != api.ErrForm || !reflect.DeepEqual(c, api.Chart{}) {
		t.Errorf("%.300q: %v %d %v, wanted line %d", s, c, n, e, want)
	}
}

// wantText holds what Show answers for c against a text.
func wantText(t *testing.T, c api.Chart, want string) {
	t.Helper()
	if got, e := Show(c); got != want || e != api.OK {
		t.Errorf("%.300q %v, wanted %.300q", got, e, want)
	}
}

// wantNoText holds what Show answers for c against there being none.
func wantNoText(t *testing.T, what string, c api.Chart) {
	t.Helper()
	if got, e := Show(c); got != "" || e != api.ErrForm {
		t.Errorf("%.300s: %.300q %v", what, got, e)
	}
}

// bare answers a chart in new memory in which lists of nothing are nil.
func bare(c api.Chart) api.Chart {
	c.Events = some(c.Events)
	c.Vars = some(c.Vars)
	c.States = some(c.States)
	for i := range c.States {
		s := &c.States[i]
		s.Entry, s.Exit = bareBlock(s.Entry), bareBlock(s.Exit)
	}
	c.Trans = some(c.Trans)
	for i := range c.Trans {
		t := &c.Trans[i]
		t.Guard, t.Acts = some(t.Guard), bareBlock(t.Acts)
	}
	return c
}

// bareBlock does what bare does, of a block.
func bareBlock(l []api.Action) []api.Action {
	l = some(l)
	for i := range l {
		l[i].Expr = some(l[i].Expr)
	}
	return l
}

// some answers a list in new memory, nil if there is nothing in it.
func some[T any](l []T) []T { return append([]T(nil), l...) }

// whole has each kind of line, each state and each transition in its order.
var whole = lines(
	"chart clock",
	"event go", "event up",
	"int x -5 5 0", "bool b true", "bool c false", "point p -9 9 1-2i",
	"one r a",
	" entry x=1;raise:go",
	" exit send:go",
	" on go x<3&in(a) a x=x+1",
	" on - - - -",
	" basic a",
	"  on done.q - q raise:done.q",
	" shallow h a",
	" deep k t",
	" both q",
	"  exit p=p*1i",
	"  one s t",
	"   final t",
	"    entry send:up",
	"  basic u",
	"one z y",
	" basic y",
	"  on error !b - -",
)

// wholeChart is the chart of it.
func wholeChart() api.Chart {
	return api.Chart{
		Name:   "clock",
		Events: []string{"go", "up"},
		Vars: []api.Var{
			{Name: "x", Kind: api.KInt, Lo: -5, Hi: 5, Init: api.Value{Kind: api.KInt}},
			{Name: "b", Kind: api.KBool, Lo: 0, Hi: 1, Init: api.Value{Kind: api.KBool, A: 1}},
			{Name: "c", Kind: api.KBool, Lo: 0, Hi: 1, Init: api.Value{Kind: api.KBool}},
			{Name: "p", Kind: api.KPoint, Lo: -9, Hi: 9, Init: api.Value{Kind: api.KPoint, A: 1, B: -2}},
		},
		States: []api.State{
			{Name: "r", Kind: api.SOne, Initial: "a", Entry: block("x=1;raise:go"), Exit: block("send:go")},
			{Name: "a", Kind: api.SBasic, Depth: 1},
			{Name: "h", Kind: api.SShallow, Depth: 1, Initial: "a"},
			{Name: "k", Kind: api.SDeep, Depth: 1, Initial: "t"},
			{Name: "q", Kind: api.SBoth, Depth: 1, Exit: block("p=p*1i")},
			{Name: "s", Kind: api.SOne, Depth: 2, Initial: "t"},
			{Name: "t", Kind: api.SFinal, Depth: 3, Entry: block("send:up")},
			{Name: "u", Kind: api.SBasic, Depth: 2},
			{Name: "z", Kind: api.SOne, Initial: "y"},
			{Name: "y", Kind: api.SBasic, Depth: 1},
		},
		Trans: []api.Trans{
			{From: 0, Event: "go", Guard: guard("x<3&in(a)"), To: "a", Acts: block("x=x+1")},
			{From: 0},
			{From: 1, Event: "done.q", To: "q", Acts: block("raise:done.q")},
			{From: 9, Event: "error", Guard: guard("!b")},
		},
	}
}

// P8.1, P8.2
func TestEachKindOfLine(t *testing.T) {
	c := wholeChart()
	wantChart(t, whole, c)
	wantChart(t, strings.TrimSuffix(whole, "\n"), c)
	wantText(t, c, whole)
	// Each of its beginnings is a chart, with the last line's byte 10 and
	// without.
	for at := range len(whole) {
		if whole[at] == '\n' {
			wantFault(t, whole[:at], 0)
			wantText(t, parsed(t, whole[:at]), whole[:at+1])
			wantText(t, parsed(t, whole[:at+1]), whole[:at+1])
		}
	}
}

// P8.1: the chapter's examples.
func TestExamples(t *testing.T) {
	wantChart(t, "chart c\none r a\n basic a\n  on go - - -\n", api.Chart{
		Name:   "c",
		States: []api.State{{Name: "r", Kind: api.SOne, Initial: "a"}, {Name: "a", Kind: api.SBasic, Depth: 1}},
		Trans:  []api.Trans{{From: 1, Event: "go"}},
	})
	wantFault(t, "chart c\n basic a", 2)
	wantFault(t, "", 1)
}

// P8.1, P8.3: the examples of the whole, a / between two lines.
func TestExamplesOfTheWhole(t *testing.T) {
	// Blanks ahead of a / are none of the line's.
	read := func(text string) string {
		l := strings.Split(text, " / ")
		for i := range l {
			l[i] = strings.TrimRight(l[i], " ")
		}
		return strings.Join(l, "\n")
	}
	for _, text := range []string{
		"chart a / event go / one r a /  basic a /   on go - b send:go /  basic b",
		"chart b / int x 0 3 0 / event go / one r a /  basic a /   on go - - x=x+2",
		"chart c / event go / one r a /  basic a /   on - - a -",
		"chart d / event go / event up / one r a /  basic a /   on go in(d) b raise:up /  basic b / one s d /  basic d /   on up - e send:up /  final e",
		"chart e / event go / event up / one r a /  basic a /   on go - h -  /  one k m /   on up - a - /   basic m /    on go - n - /   basic n /   deep h m",
		"chart f / point p -9 9 1-2i / bool b true / event go / one r a /  basic a /   on go re(p)<3&b - p=p*1i",
		"chart g / event go / one r q /  both q /   on done.q - z send:go /   one u v /    basic v /     on go - w - /    final w /   one x y /    basic y /     on go - t - /    final t /  final z",
		"chart h / event go / one r a /  basic a",
		"chart j / event go / one r a /  basic a /   on go - - send:go / one s b /  basic b",
	} {
		wantFault(t, read(text), 0)
		wantReadAlike(t, read(text))
	}
	wantFault(t, read("chart i / event go / one r a /  basic a /  foo"), 5)
}

// wantReadAlike holds what Parse answers for what Show answers for the chart
// of a text against that chart.
func wantReadAlike(t *testing.T, s string) {
	t.Helper()
	c := parsed(t, s)
	text, e := Show(c)
	if e != api.OK {
		// A last byte 10 more may be one too many, and so may be a text that
		// has the greatest length.
		if len(s) < api.MaxText {
			t.Errorf("%.300q: %v", s, e)
		}
		return
	}
	wantChart(t, text, c)
	wantText(t, parsed(t, text), text)
}

// filled answers a text of just n bytes, n at least 100: a first line, events
// and, at its end, those lines.
func filled(n int, end ...string) string {
	last := lines(end...)
	s := lines("chart c")
	for len(s)+len(last)+38 < n {
		s += lines("event abcdefghijkl")
	}
	// What is left is 20 bytes at least, and two of the longest lines at most.
	left := n - len(s) - len(last)
	s += lines("event " + strings.Repeat("a", left/2-7))
	s += lines("event " + strings.Repeat("b", left-left/2-7))
	return s + last
}

// P8.1, P8.2: texts of MaxText bytes, and one more.
func TestLengths(t *testing.T) {
	for _, end := range [][]string{{"one r a", " basic a"}, {"one r a", " on go - - -"}, {"event a"}} {
		for n := 5950; n <= 6000; n++ {
			s := filled(n, end...)
			if len(s) != n {
				t.Fatal("the text has another length", len(s), n)
			}
			wantFault(t, s, 0)
			wantText(t, parsed(t, s), s)
		}
		s := filled(6001, end...)
		wantLong(t, s)
		// Without its last byte it may be a text, but Show would tell that byte.
		c := parsed(t, s[:6000])
		wantNoText(t, "one byte too many", c)
		c.Events = c.Events[1:]
		wantText(t, c, strings.Replace(s, "event abcdefghijkl\n", "", 1))
	}
	wantFault(t, filled(6000, "foo"), strings.Count(filled(6000, "foo"), "\n"))
	wantFault(t, strings.Repeat("a", 6000), 1)
	wantFault(t, strings.Repeat("\n", 6000), 1)
	wantFault(t, strings.Repeat(" ", 6000), 1)
	wantFault(t, "chart c\n"+strings.Repeat("\n", 5992), 2)
	for _, s := range []string{filled(6001, "foo"), filled(6002, "event a"), strings.Repeat("a", 6001), strings.Repeat("\n", 6001), strings.Repeat(" ", 1<<16), "chart c" + strings.Repeat("\n", 6000), lines("chart c") + strings.Repeat(lines("event a"), 1<<16)} {
		wantLong(t, s)
	}
}

// wantLong holds what Parse answers for s against its being too long.
func wantLong(t *testing.T, s string) {
	t.Helper()
	if c, n, e := Parse(s); n != 0 || e != api.ErrLong || !reflect.DeepEqual(c, api.Chart{}) {
		t.Errorf("%d bytes: %v %d %v", len(s), c, n, e)
	}
}

// P8.1: lines that are empty, of blanks, of other bytes.
func TestLinesThatAreNone(t *testing.T) {
	for s, want := range map[string]int{
		"": 1, "\n": 1, "\n\n": 1, " ": 1, "  \n": 1, "\nchart c\n": 1, " \nchart c": 1,
		"chart c\n": 0, "chart c": 0, "chart c\n\n": 2, "chart c\n \n": 2, "chart c\n ": 2, "chart c\n   ": 2,
		"chart c\n\nevent a\n": 2, "chart c\nevent a\n\n": 3, "chart c\nevent a\n\none r a\n": 3, "chart c\none r a\n\n": 3, "chart c\none r a\n ": 3, "chart c\none r a\n \n basic a": 3,
		"chart c\r\nevent a\r\n": 1, "chart c\nevent a\r\n": 2, "chart c\nevent\ta\n": 2, "chart c\nevent  a\n": 2, "chart c\nevent a \n": 2, "chart c\nevent a ": 2, "chart c ": 1, "chart  c": 1,
		"chart c\nevent a\x00": 2, "chart c\nevent ä": 2, "chart c\n\xff": 2, "chart c\nevent a\x7f": 2, "chart c\revent a": 1, "\ufeffchart c": 1,
		"chart c\n\tevent a": 2, "\tchart c": 1, "chart c\none r a\n\tbasic a": 3,
	} {
		wantFault(t, s, want)
	}
}

// sample is a line that is right where its kind may stand, at depth 0 if that
// is in the head, else at depth 1 behind a region.
type sample struct {
	text string
	head bool
	// state tells that it is a state's, which may stand at depth 0 too.
	state bool
}

var samples = []sample{
	{"event go", true, false}, {"int x 0 1 1", true, false}, {"bool b true", true, false}, {"bool b false", true, false}, {"point p 0 1 1+0i", true, false},
	{"basic a", false, true}, {"both a", false, true}, {"final a", false, true}, {"one a b", false, true}, {"shallow a b", false, true}, {"deep a b", false, true},
	{"entry x=1", false, false}, {"exit x=1", false, false}, {"on go x<3 a send:go", false, false}, {"on - - - -", false, false},
}

// wantPlaced holds a line that stands where its kind may against whether it is
// as told, and what it is elsewhere against its being none.
func wantPlaced(t *testing.T, s sample, text string, ok bool) {
	t.Helper()
	fault := func(line int) int {
		if ok {
			return 0
		}
		return line
	}
	if s.head {
		wantFault(t, lines("chart c", text), fault(2))
		wantFault(t, lines("chart c", "event a", text, "int y 0 0 0", "one r a"), fault(3))
		wantFault(t, lines("chart c", "one r a", text), 3)
		return
	}
	wantFault(t, lines("chart c", "one r a", " "+text), fault(3))
	wantFault(t, lines("chart c", "one r a", " basic q", "one r a", " "+text), fault(5))
	if s.state {
		wantFault(t, lines("chart c", text), fault(2))
		wantFault(t, lines("chart c", "event a", text), fault(3))
	} else {
		wantFault(t, lines("chart c", text), 2)
	}
	wantFault(t, lines(text, "chart c"), 1)
}

// P8.1: each kind of line where it may stand and where it mayn't.
func TestPlaces(t *testing.T) {
	for _, s := range samples {
		wantPlaced(t, s, s.text, true)
		wantFault(t, s.text, 1)
		wantFault(t, lines(s.text), 1)
		wantFault(t, lines("chart c", " "+s.text), 2)
		wantFault(t, lines("chart c", "one r a", "  "+s.text), 3)
		wantFault(t, lines("chart c", "one r a", "   "+s.text), 3)
		if s.head {
			// Behind any state, at any depth, and behind what a state has.
			for _, pad := range []string{"", " ", "  "} {
				wantFault(t, lines("chart c", "one r a", pad+s.text), 3)
				wantFault(t, lines("chart c", "one r a", " basic a", pad+s.text), 4)
				wantFault(t, lines("chart c", "one r a", " on - - - -", pad+s.text), 4)
			}
			wantFault(t, lines("chart c", s.text, s.text, s.text), 0)
		}
	}
	// The first line alone, once more, deeper, behind others.
	wantFault(t, "chart c", 0)
	wantFault(t, lines("chart c", "chart c"), 2)
	wantFault(t, lines("chart c", "chart d"), 2)
	wantFault(t, lines("chart c", "event a", "chart c"), 3)
	wantFault(t, lines("chart c", "one r a", "chart c"), 3)
	wantFault(t, lines("chart c", "one r a", " chart c"), 3)
	wantFault(t, lines(" chart c"), 1)
	wantFault(t, lines("  chart c"), 1)
	wantFault(t, lines("event a", "chart c"), 1)
	// Nothing else of it is asked.
	wantFault(t, lines("chart c", "event a", "event a", "int a 1 0 9", "int a 1 0 9", "bool a true", "basic a", "basic a", " final a", "  both a", "one r nothing", "shallow r r", " deep r r", "  on nothing y nowhere y=1"), 0)
	wantFault(t, lines("chart c", "event error", "one r r"), 0)
}

// P8.1: what a line says at its own depth is the last state's.
func TestWhoseLine(t *testing.T) {
	for _, s := range []string{"entry x=1", "exit x=1", "on go - - -"} {
		wantFault(t, lines("chart c", "one r a", " basic a", "  "+s), 0)
		wantFault(t, lines("chart c", "one r a", " basic a", " "+s), 4)
		wantFault(t, lines("chart c", "one r a", " basic a", s), 4)
		wantFault(t, lines("chart c", "one r a", " basic a", "   "+s), 4)
		wantFault(t, lines("chart c", "one r a", " "+s, " basic a"), 0)
		wantFault(t, lines("chart c", "one r a", s), 3)
		wantFault(t, lines("chart c", "one r a", " one s a", "  basic a", "one z a", " "+s), 0)
		wantFault(t, lines("chart c", "one r a", " one s a", "  basic a", "one z a", "   "+s), 6)
		wantFault(t, lines("chart c", "one r a", " one s a", "  basic a", " basic b", "  "+s, "  basic d"), 0)
		wantFault(t, lines("chart c", "one r a", " one s a", "  basic a", " basic b", "   "+s), 6)
	}
	c := parsed(t, lines("chart c", "one r a", " on a - - -", " entry x=1", " basic a", "  exit x=2", "  on b - - -", "  on c - - -", "  entry x=3", "one z a", " exit x=4"))
	wantText(t, c, lines("chart c", "one r a", " entry x=1", " on a - - -", " basic a", "  entry x=3", "  exit x=2", "  on b - - -", "  on c - - -", "one z a", " exit x=4"))
	for i, from := range []int{0, 1, 1} {
		if c.Trans[i].From != from {
			t.Error("From", i, c.Trans[i])
		}
	}
}

// P8.1: the depths of states.
func TestDepths(t *testing.T) {
	for _, c := range []struct {
		depths []int
		ok     bool
	}{
		{[]int{0}, true}, {[]int{1}, false}, {[]int{2}, false}, {[]int{0, 0}, true}, {[]int{0, 1}, true}, {[]int{0, 2}, false}, {[]int{0, 3}, false}, {[]int{0, 1, 1}, true}, {[]int{0, 1, 2}, true}, {[]int{0, 1, 3}, false}, {[]int{0, 1, 0}, true},
		{[]int{0, 1, 0, 2}, false}, {[]int{0, 1, 2, 3, 0, 1}, true}, {[]int{0, 1, 2, 3, 1, 2}, true}, {[]int{0, 1, 2, 3, 1, 3}, false}, {[]int{0, 1, 2, 3, 4, 5, 6, 7, 8, 9}, true}, {[]int{0, 1, 2, 3, 4, 5, 0}, true}, {[]int{0, 1, 2, 3, 4, 5, 7}, false},
	} {
		for _, state := range samples {
			if !state.state {
				continue
			}
			l := []string{"chart c"}
			for _, depth := range c.depths {
				l = append(l, strings.Repeat(" ", depth)+state.text)
			}
			s := lines(l...)
			if !c.ok {
				wantFault(t, s, len(l))
				continue
			}
			for i, got := range parsed(t, s).States {
				if got.Depth != c.depths[i] {
					t.Errorf("%q: state %d has depth %d", s, i, got.Depth)
				}
			}
			wantText(t, parsed(t, s), s)
		}
	}
	// As deep as a text has room for.
	l := []string{"chart c"}
	for depth := range 90 {
		l = append(l, strings.Repeat(" ", depth)+"basic a")
	}
	wantText(t, parsed(t, lines(l...)), lines(l...))
	wantFault(t, lines(append(l, strings.Repeat(" ", 91)+"basic a")...), 92)
}

// P8.1: entry and exit, once and twice, wherever the transitions stand.
func TestEntryAndExit(t *testing.T) {
	for _, c := range []struct {
		lines string
		want  int
	}{
		{"entry x=1", 0}, {"exit x=1", 0}, {"entry x=1/exit x=1", 0}, {"exit x=1/entry x=1", 0}, {"on - - - -/entry x=1", 0}, {"on - - - -/exit x=1", 0}, {"entry x=1/on - - - -", 0}, {"exit x=1/on - - - -/entry x=1", 0}, {"on - - - -/on - - - -", 0},
		{"entry x=1/entry x=1", 4}, {"exit x=1/exit x=1", 4}, {"entry x=1/exit x=1/entry x=2", 5}, {"entry x=1/exit x=1/exit x=2", 5}, {"entry x=1/on - - - -/entry x=2", 5}, {"on - - - -/exit x=1/exit x=2", 5},
		{"entry x=1/basic a/ entry x=1", 0}, {"exit x=1/basic a/ exit x=1", 0}, {"entry x=1/basic a/entry x=1", 5}, {"basic a/entry x=1", 4}, {"basic a/exit x=1", 4}, {"basic a/on - - - -", 4}, {"basic a/ entry x=1/ entry x=1", 5},
		{"entry -", 3}, {"exit -", 3}, {"entry x", 3}, {"entry x=1;", 3}, {"exit in(a)", 3}, {"entry x=in(a)", 3}, {"entry -/entry x=1", 3},
	} {
		l := []string{"chart c", "one r a"}
		for _, one := range strings.Split(c.lines, "/") {
			l = append(l, " "+one)
		}
		wantFault(t, lines(l...), c.want)
	}
}

// P8.1: - in each place of a line that begins with on, and in all others.
func TestNone(t *testing.T) {
	words := []string{"go", "x<3", "a", "x=1"}
	for which := range 16 {
		l := slices.Clone(words)
		want := api.Trans{Event: "go", Guard: guard("x<3"), To: "a", Acts: block("x=1")}
		for i, clear := range []func(){func() { want.Event = "" }, func() { want.Guard = nil }, func() { want.To = "" }, func() { want.Acts = nil }} {
			if which>>i&1 == 1 {
				l[i] = "-"
				clear()
			}
		}
		s := lines("chart c", "one r a", " on "+strings.Join(l, " "))
		wantChart(t, s, api.Chart{Name: "c", States: []api.State{{Name: "r", Kind: api.SOne, Initial: "a"}}, Trans: []api.Trans{want}})
		wantText(t, parsed(t, s), s)
		for i := range l {
			for _, w := range []string{"--", "-,", "+", "_", "-;-", "0-"} {
				m := slices.Clone(l)
				m[i] = w
				wantFault(t, lines("chart c", "one r a", " on "+strings.Join(m, " ")), 3)
			}
		}
	}
	for _, s := range samples {
		fields := strings.Fields(s.text)
		if fields[0] == "on" {
			continue
		}
		for i := range fields {
			m := slices.Clone(fields)
			m[i] = "-"
			wantPlaced(t, s, strings.Join(m, " "), false)
		}
	}
	wantFault(t, "chart -", 1)
}

// P8.1: too few and too many words.
func TestHowManyWords(t *testing.T) {
	for _, s := range samples {
		fields := strings.Fields(s.text)
		for n := 1; n < len(fields); n++ {
			wantPlaced(t, s, strings.Join(fields[:n], " "), false)
		}
		for _, w := range []string{"a", "-", "1", "x=1", fields[len(fields)-1], fields[0]} {
			wantPlaced(t, s, s.text+" "+w, false)
			wantPlaced(t, s, s.text+" "+w+" "+w, false)
			wantPlaced(t, s, s.text+" "+w+" "+w+" "+w, false)
		}
	}
	for _, s := range []string{"chart", "chart c c", "chart c d", "chart c -", "chart c event a"} {
		wantFault(t, s, 1)
		wantFault(t, lines(s), 1)
	}
}

// P8.1: first words that aren't in the table.
func TestFirstWords(t *testing.T) {
	for _, w := range []string{"foo", "-", "Event", "EVENT", "events", "even", "eventa", "event:", "number", "integer", "var", "boolean", "points", "history", "state", "onn", "o", "entries", "enter", "exits", "basics", "ones", "e", "x=1", "0", "#", "//", "charts"} {
		for _, s := range samples {
			_, rest, _ := strings.Cut(s.text, " ")
			wantPlaced(t, s, w+" "+rest, false)
		}
		wantFault(t, w, 1)
		wantFault(t, w+" c", 1)
		wantFault(t, lines("chart c", w), 2)
	}
}

// nearNames are texts that aren't names but near.
var nearNames = []string{"A", "0", "0a", "_", "_a", "aA", "a-", "a.", "a.b", "done.a", ".a", "a:", "true", "false", "in", "re", "im", "abcdefghijklm", "-a", "a,b", "~", "!", "a=", "1i", "(a)"}

// namesAt answers the places of names among the words of a sample.
func namesAt(text string) []int {
	switch strings.Fields(text)[0] {
	case "one", "shallow", "deep":
		return []int{1, 2}
	case "entry", "exit":
		return nil
	case "on":
		return []int{3}
	}
	return []int{1}
}

// P8.1: names, right ones and wrong ones.
func TestNames(t *testing.T) {
	good := []string{"a", "z", "a0", "a_", "abcdefghijkl", "a9_z", "done", "error", "chart", "event", "on", "int", "bool", "point", "inn", "trues", "i", "re0", "raise", "send"}
	for _, s := range samples {
		for _, i := range namesAt(s.text) {
			fields := strings.Fields(s.text)
			for _, w := range good {
				fields[i] = w
				wantPlaced(t, s, strings.Join(fields, " "), true)
			}
			for _, w := range nearNames {
				fields[i] = w
				wantPlaced(t, s, strings.Join(fields, " "), false)
			}
		}
	}
	for _, w := range good {
		wantFault(t, "chart "+w, 0)
	}
	for _, w := range nearNames {
		wantFault(t, "chart "+w, 1)
		wantFault(t, lines("chart "+w, "event a"), 1)
	}
}

// P8.1: events of transitions, which may begin with done.
func TestEvents(t *testing.T) {
	for _, w := range []string{"go", "done", "error", "done.a", "done.done", "done.abcdefghijkl", "abcdefghijkl", "on", "done.error"} {
		s := lines("chart c", "one r a", " on "+w+" - - -")
		if got := parsed(t, s).Trans[0].Event; got != w {
			t.Errorf("%q is the event %q", w, got)
		}
		wantText(t, parsed(t, s), s)
	}
	for _, w := range []string{"done.", "done.done.a", "done.in", "done.true", "done.abcdefghijklm", "done.-", "a.b", "Done.a", "true", "in", "re", "0", "a,b", "-a", "done:a", "done..a", "abcdefghijklm"} {
		wantFault(t, lines("chart c", "one r a", " on "+w+" - - -"), 3)
	}
}

// P8.1: guards and blocks, which other layers read.
func TestGuardsAndBlocks(t *testing.T) {
	for _, w := range []string{"x", "1", "-1", "-x", "true", "in(a)", "!in(a)&x<3", "re(p)<3|im(p)=0", "1i*p=p", "((x))", "x+" + strings.Repeat("1+", 13) + "1", strings.Repeat("(", 290) + "x" + strings.Repeat(")", 290)} {
		s := lines("chart c", "one r a", " on - "+w+" - -")
		if got := parsed(t, s).Trans[0].Guard; !slices.Equal(got, guard(w)) {
			t.Errorf("%q is the guard %v", w, got)
		}
		wantReadAlike(t, s)
	}
	for _, w := range []string{"1+", "x<", "()", "in(", "in(in)", "in", "re", "1<2<3", "01", "x=1;", "x==1", "A", "a.b", "1099511627777", "1048577i", strings.Repeat("-", 32) + "x", strings.Repeat("(", 300) + "x" + strings.Repeat(")", 300)} {
		wantFault(t, lines("chart c", "one r a", " on - "+w+" - -"), 3)
	}
	for _, w := range []string{"x=1", "raise:a", "send:done.a", "x=1;y=2;z=3;raise:a;send:b;raise:c;send:d;x=4", "x=y=z", "x=(1)", "b=-1", "raise=1"} {
		for _, line := range []string{"entry " + w, "exit " + w, "on - - - " + w} {
			wantReadAlike(t, lines("chart c", "one r a", " "+line))
		}
		c := parsed(t, lines("chart c", "one r a", " entry "+w, " exit x=9;"+strings.TrimPrefix(w, "x=1;"), " on - - - "+w))
		if !reflect.DeepEqual(c.States[0].Entry, block(w)) || !reflect.DeepEqual(c.Trans[0].Acts, block(w)) || c.States[0].Exit[0].Expr[0].A != 9 {
			t.Errorf("%q is another block: %v", w, c)
		}
	}
	for _, w := range []string{"x", "1", "x=", "=1", "x=1;", ";x=1", "x=1;;x=1", "raise:", "raise:in", "send:a.b", "raise:a;", "x=in(a)", "in=1", "x=1,y=1", "raise-a", strings.Repeat("x=1;", 8) + "x=1", "x=1+", "x=01"} {
		for _, line := range []string{"entry " + w, "exit " + w, "on - - - " + w} {
			wantFault(t, lines("chart c", "one r a", " "+line), 3)
		}
	}
}

// P8.1: numbers, at their bounds, beyond, and what isn't one.
func TestNumbers(t *testing.T) {
	good := map[string]int64{"0": 0, "1": 1, "-1": -1, "9": 9, "10": 10, "1048577": 1048577, "1099511627775": 1<<40 - 1, "1099511627776": 1 << 40, "-1099511627776": -1 << 40}
	bad := []string{"1099511627777", "-1099511627777", "9223372036854775808", "99999999999999999999999", "-0", "00", "01", "-01", "+1", "1i", "0+0i", "a", "1.0", "1e3", "--1", "-", "true", "0x1", "1_0", "1,0"}
	for _, kind := range []string{"int x ? ? ?", "point x ? ? 1-2i"} {
		fields := strings.Fields(kind)
		for i, f := range fields {
			if f != "?" {
				continue
			}
			line := func(w string) string {
				l := slices.Clone(fields)
				l[i] = w
				return strings.ReplaceAll(strings.Join(l, " "), "?", "7")
			}
			for w, want := range good {
				s := lines("chart c", line(w))
				v := parsed(t, s).Vars[0]
				wants := []int64{7, 7, 7}
				if fields[0] == "point" {
					wants[2] = 1
				}
				wants[i-2] = want
				if got := []int64{v.Lo, v.Hi, v.Init.A}; !slices.Equal(got, wants) {
					t.Errorf("%q: %v, wanted %v", s, got, wants)
				}
				wantText(t, parsed(t, s), s)
			}
			for _, w := range bad {
				wantPlaced(t, sample{head: true}, line(w), false)
			}
		}
	}
}

// P8.1: what truths and points begin with.
func TestTruthsAndPoints(t *testing.T) {
	for _, w := range []string{"1", "0", "True", "TRUE", "truee", "fals", "-", "t", "true=true", "!true", "b"} {
		wantPlaced(t, sample{head: true}, "bool b "+w, false)
	}
	wantPlaced(t, sample{head: true}, "bool b 0 1 true", false)
	for w, want := range map[string]api.Value{
		"0+0i": {Kind: api.KPoint}, "1-2i": {Kind: api.KPoint, A: 1, B: -2}, "-1+2i": {Kind: api.KPoint, A: -1, B: 2}, "0-1i": {Kind: api.KPoint, B: -1}, "3+0i": {Kind: api.KPoint, A: 3},
		"1048576-1048576i": {Kind: api.KPoint, A: 1 << 20, B: -1 << 20}, "-1048576+1048576i": {Kind: api.KPoint, A: -1 << 20, B: 1 << 20},
	} {
		s := lines("chart c", "point p -4 4 "+w)
		wantChart(t, s, api.Chart{Name: "c", Vars: []api.Var{{Name: "p", Kind: api.KPoint, Lo: -4, Hi: 4, Init: want}}})
		wantText(t, parsed(t, s), s)
	}
	for _, w := range []string{"1", "0", "1i", "i", "1+i", "+1i", "1+-2i", "-0+0i", "0-0i", "01+0i", "1-2", "1-2i0", "1048577+0i", "0-1048577i", "2i+1", "p", "-", "true", "(1+2i)", "1+2I"} {
		wantPlaced(t, sample{head: true}, "point p 0 1 "+w, false)
	}
}

// P8.1: the number of the first line that isn't as told.
func TestWhichLine(t *testing.T) {
	l := strings.Split(strings.TrimSuffix(whole, "\n"), "\n")
	for i := range l {
		for _, wrong := range []string{"foo", "", " ", l[i] + " ", l[i] + " more", "          " + l[i], l[i] + "\t", strings.ToUpper(l[i])} {
			m := slices.Clone(l)
			m[i] = wrong
			last := strings.Join(m, "\n")
			// An empty line that would be the last without a byte 10 is none.
			if i < len(l)-1 || wrong != "" {
				wantFault(t, last, i+1)
			}
			wantFault(t, last+"\n", i+1)
			// What comes behind doesn't matter.
			for k := i + 1; k < len(l); k += 3 {
				m[k] = "bar"
			}
			wantFault(t, lines(m...), i+1)
		}
	}
}

// What follows says again, by regular expressions, what the document's table
// says.

var (
	saidName   = regexp.MustCompile(`^[a-z][a-z0-9_]{0,11}$`)
	saidNumber = regexp.MustCompile(`^(0|-?[1-9][0-9]*)$`)
	saidLine   = regexp.MustCompile(`^( *)([!-~]+(?: [!-~]+)*)$`)
)

func isSaidName(s string) bool {
	return saidName.MatchString(s) && !slices.Contains([]string{"true", "false", "in", "re", "im"}, s)
}

func isSaidNumber(s string) bool {
	n, ok := new(big.Int).SetString(s, 10)
	return ok && saidNumber.MatchString(s) && n.CmpAbs(big.NewInt(1<<40)) <= 0
}

// isSaidWord tells whether w may stand where the table says what.
func isSaidWord(what, w string) bool {
	switch what {
	case "NAME":
		return isSaidName(w)
	case "LO", "HI", "NUMBER":
		return isSaidNumber(w)
	case "TRUTH":
		return w == "true" || w == "false"
	case "POINT":
		_, e := plane.Read(w)
		return e == api.OK
	case "BLOCK":
		_, e := acts.Parse(w)
		return e == api.OK
	case "EVENT?":
		return w == "-" || isSaidName(strings.TrimPrefix(w, "done."))
	case "GUARD?":
		_, _, e := expr.Parse(w)
		return w == "-" || e == api.OK
	case "TARGET?":
		return w == "-" || isSaidName(w)
	case "BLOCK?":
		return w == "-" || isSaidWord("BLOCK", w)
	}
	return false
}

var saidTable = []string{
	"chart NAME",
	"event NAME", "int NAME LO HI NUMBER", "bool NAME TRUTH", "point NAME LO HI POINT",
	"basic NAME", "both NAME", "final NAME", "one NAME NAME", "shallow NAME NAME", "deep NAME NAME",
	"entry BLOCK", "exit BLOCK", "on EVENT? GUARD? TARGET? BLOCK?",
}

// saidRow answers the row of the table that a line's words are of, -1 if there
// is none.
func saidRow(words []string) int {
	return slices.IndexFunc(saidTable, func(row string) bool {
		what := strings.Fields(row)
		if len(what) != len(words) || what[0] != words[0] {
			return false
		}
		for i := 1; i < len(what); i++ {
			if !isSaidWord(what[i], words[i]) {
				return false
			}
		}
		return true
	})
}

// saidFault answers the number of the first line of s that isn't as told, 0 if
// there is none.
func saidFault(s string) int {
	s = strings.TrimSuffix(s, "\n")
	states, had := []int{}, ""
	for i, text := range strings.Split(s, "\n") {
		m := saidLine.FindStringSubmatch(text)
		if m == nil {
			return i + 1
		}
		depth, row := len(m[1]), saidRow(strings.Split(m[2], " "))
		most := 0
		if len(states) > 0 {
			most = states[len(states)-1] + 1
		}
		ok := false
		switch {
		case row == 0:
			ok = i == 0 && depth == 0
		case row >= 1 && row <= 4:
			ok = i > 0 && len(states) == 0 && depth == 0
		case row >= 5 && row <= 10:
			ok = i > 0 && depth <= most
			states, had = append(states, depth), ""
		case row >= 11:
			word, _, _ := strings.Cut(m[2], " ")
			ok = len(states) > 0 && depth == most && (word == "on" || !strings.Contains(had, word))
			had += word + " "
		}
		if !ok {
			return i + 1
		}
	}
	return 0
}

// wantSaid holds what Parse and Show answer against what the document says.
// It tells whether s is a chart's text.
func wantSaid(t *testing.T, s string) bool {
	t.Helper()
	if len(s) > 6000 {
		wantLong(t, s)
		return false
	}
	want := saidFault(s)
	wantFault(t, s, want)
	if want == 0 {
		wantReadAlike(t, s)
	}
	return want == 0
}

// chance answers numbers below n, made by a rule.
func chance(seed uint32) func(n int) int {
	return func(n int) int {
		seed = seed*1664525 + 1013904223
		return int(seed>>8) % n
	}
}

// wordsFor are what may stand in a line where the table says so, and what may
// stand elsewhere.
var wordsFor = []string{"go", "a", "done.a", "true", "false", "-", "0", "-7", "1099511627776", "1099511627777", "1-2i", "0+0i", "x=1", "x=1;raise:a", "send:done.a", "x<3", "in(a)", "in", "x", "x=y;", "abcdefghijkl", "abcdefghijklm", "-x", "1i", "chart", "on"}

// someLine answers a line that mostly is as told.
func someLine(next func(int) int, row, depth int) string {
	what := strings.Fields(saidTable[row])
	words := what[:1]
	for _, one := range what[1:] {
		w := wordsFor[next(len(wordsFor))]
		for next(600) > 0 && !isSaidWord(one, w) {
			w = wordsFor[next(len(wordsFor))]
		}
		words = append(words, w)
	}
	switch next(150) {
	case 0:
		words = words[:len(words)-1]
	case 1:
		words = append(words, wordsFor[next(len(wordsFor))])
	case 2:
		words[0] = "foo"
	}
	return strings.Repeat(" ", depth) + strings.Join(words, " ")
}

// someText answers a text of which most lines are as told.
func someText(next func(int) int) string {
	l := []string{someLine(next, 0, 0)}
	for range next(4) {
		l = append(l, someLine(next, 1+next(4), 0))
	}
	most := 0
	for range next(12) {
		depth := next(most + 1)
		l = append(l, someLine(next, 5+next(6), depth))
		most = depth + 1
		for range next(3) {
			l = append(l, someLine(next, 11+next(3), most))
		}
	}
	switch at := next(len(l)); next(30) {
	case 0:
		l[at] = " " + l[at]
	case 1:
		l[at] = strings.TrimPrefix(l[at], " ")
	case 2:
		other := next(len(l))
		l[at], l[other] = l[other], l[at]
	case 3:
		l = slices.Insert(l, at, l[next(len(l))])
	case 4:
		l = slices.Delete(l, at, at+1)
	}
	end := "\n"
	switch next(20) {
	case 0:
		end = "\n\n"
	case 1, 2, 3, 4, 5:
		end = ""
	}
	return strings.Join(l, "\n") + end
}

// P8.1, P8.3: many texts against what the document says.
func TestManyTexts(t *testing.T) {
	next := chance(8)
	good, bad := 0, 0
	for range 20000 {
		if wantSaid(t, someText(next)) {
			good++
		} else {
			bad++
		}
	}
	if good < 4000 || bad < 4000 {
		t.Error("too few", good, bad)
	}
}

// P8.1, P8.3: texts with a byte more, less, another one.
func TestOneByteElse(t *testing.T) {
	const bytes = "\n a0-;=:.(_~\t\x00\xff"
	good, bad := 0, 0
	for at := range len(whole) {
		all := []string{whole[:at] + whole[at+1:], whole[:at], whole[at:]}
		for _, b := range []byte(bytes) {
			all = append(all, whole[:at]+string(b)+whole[at:], whole[:at]+string([]byte{b})+whole[at+1:])
		}
		for _, s := range all {
			if wantSaid(t, s) {
				good++
			} else {
				bad++
			}
		}
	}
	if good < 400 || bad < 4000 {
		t.Error("too few", good, bad)
	}
}

// P8.1, P8.2: all lists of a few lines.
func TestFewLines(t *testing.T) {
	all := []string{"chart c", "event a", "int x 0 1 0", "one r a", " one r a", "  basic b", " entry x=1", " exit x=1", " on - - - -", "  on a - - -", " basic b", ""}
	good := 0
	var longer func(l []string)
	longer = func(l []string) {
		if len(l) > 0 && wantSaid(t, strings.Join(l, "\n")) {
			good++
		}
		if len(l) == 5 || len(l) > 0 && l[0] != "chart c" {
			return
		}
		for _, one := range all {
			longer(append(slices.Clip(l), one))
		}
	}
	longer(nil)
	if good < 100 {
		t.Error("too few", good)
	}
}

// P8.2: the order that Show tells, whatever the text's was, and no more
// parentheses than are wanted.
func TestOrderOfShow(t *testing.T) {
	wantText(t, parsed(t, lines("chart c", "int x 0 1 0", "event a", "bool b true", "event b", "point p 0 1 0+0i", "event a", "int x 0 1 1")),
		lines("chart c", "event a", "event b", "event a", "int x 0 1 0", "bool b true", "point p 0 1 0+0i", "int x 0 1 1"))
	wantText(t, parsed(t, lines("chart c", "one r a", " on a - - -", " exit x=1", " on b - - -", " entry x=2", " on c - - -")),
		lines("chart c", "one r a", " entry x=2", " exit x=1", " on a - - -", " on b - - -", " on c - - -"))
	wantText(t, parsed(t, lines("chart c", "one r a", " entry x=((1))", " on - (a)|((b)&(c)) - x=(x+1)*(2)")),
		lines("chart c", "one r a", " entry x=1", " on - a|b&c - x=(x+1)*2"))
	wantText(t, api.Chart{Name: "c"}, "chart c\n")
	wantText(t, api.Chart{Name: "c", Events: []string{}, Vars: []api.Var{}, States: []api.State{{Name: "a", Kind: api.SBasic, Entry: []api.Action{}, Exit: []api.Action{}}}, Trans: []api.Trans{{Guard: []api.Cell{}, Acts: []api.Action{}}}}, lines("chart c", "basic a", " on - - - -"))
}

// change is what is done to a chart, by which there is no text of it any more.
type change struct {
	what string
	do   func(c *api.Chart)
}

// wantChanges holds what Show answers for the whole chart with each of some
// changes against there being no text.
func wantChanges(t *testing.T, l []change) {
	t.Helper()
	for _, one := range l {
		c := wholeChart()
		one.do(&c)
		wantNoText(t, one.what, c)
	}
}

// P8.2: names that aren't names, each by itself.
func TestShowOfNames(t *testing.T) {
	for _, w := range slices.Concat(nearNames, []string{"", "-", " ", "a b", "a\n", "a\nevent b", "\n", "a ", " a", "ä", "\x00", strings.Repeat("a", 1<<20)}) {
		wantChanges(t, []change{
			{"the chart's name " + w, func(c *api.Chart) { c.Name = w }},
			{"an event's name " + w, func(c *api.Chart) { c.Events[1] = w }},
			{"a variable's name " + w, func(c *api.Chart) { c.Vars[0].Name = w }},
			{"a truth's name " + w, func(c *api.Chart) { c.Vars[1].Name = w }},
			{"a point's name " + w, func(c *api.Chart) { c.Vars[3].Name = w }},
			{"a first child's name " + w, func(c *api.Chart) { c.States[0].Initial = w }},
			{"what a history begins with " + w, func(c *api.Chart) { c.States[2].Initial = w }},
			{"what a deep one begins with " + w, func(c *api.Chart) { c.States[3].Initial = w }},
			{"the name in a block " + w, func(c *api.Chart) { c.States[0].Entry[0].Name = w }},
			{"the name in a guard " + w, func(c *api.Chart) { c.Trans[0].Guard[0].Name = w }},
		})
		for i := range wholeChart().States {
			wantChanges(t, []change{{"a state's name " + w, func(c *api.Chart) { c.States[i].Name = w }}})
		}
		if w != "" {
			wantChanges(t, []change{{"a target " + w, func(c *api.Chart) { c.Trans[1].To = w }}})
		}
		if w != "" && w != "done.a" {
			wantChanges(t, []change{{"an event " + w, func(c *api.Chart) { c.Trans[1].Event = w }}})
		}
	}
	// What would be read as more words, or more lines.
	wantChanges(t, []change{
		{"", func(c *api.Chart) { c.Events = []string{"a\nevent b"} }},
		{"", func(c *api.Chart) { c.Trans[1].Event = "go x<3 a"; c.Trans = c.Trans[:2] }},
		{"", func(c *api.Chart) { c.Trans[1].To = "a x=1" }},
		{"", func(c *api.Chart) { c.States[1].Name = "a\n  on - - - -" }},
		{"", func(c *api.Chart) { c.States[8].Name, c.States[8].Initial = "z y\none z", "y" }},
		{"", func(c *api.Chart) { c.Vars[0].Name = "x 0 1 0\nint x" }},
	})
}

// P8.2: states of which there is no text.
func TestShowOfStates(t *testing.T) {
	for i, s := range wholeChart().States {
		for _, n := range []int{-1, math.MinInt, math.MaxInt, math.MaxInt - 1, 1 << 40, 6000, 6001, 5990, s.Depth + 4} {
			wantChanges(t, []change{{"depth " + strconv.Itoa(n), func(c *api.Chart) { c.States[i].Depth = n }}})
		}
		for _, n := range []int{0, -1, 7, 8, math.MinInt, math.MaxInt, 1<<32 + s.Kind, -s.Kind} {
			wantChanges(t, []change{{"kind " + strconv.Itoa(n), func(c *api.Chart) { c.States[i].Kind = n }}})
		}
		if s.Initial == "" {
			for _, w := range []string{"a", s.Name, "nothing", "-", " "} {
				wantChanges(t, []change{{"an Initial where there may be none " + w, func(c *api.Chart) { c.States[i].Initial = w }}})
			}
			wantChanges(t, []change{{"no Initial", func(c *api.Chart) { c.States[i].Kind = api.SOne }}})
		}
	}
	wantChanges(t, []change{
		{"no region", func(c *api.Chart) { c.States = c.States[1:]; c.Trans = nil }},
		{"one deeper by two", func(c *api.Chart) { c.States[5].Depth = 3; c.States[6].Depth = 2 }},
		{"nothing but Kind zero", func(c *api.Chart) { c.States = []api.State{{}}; c.Trans = nil }},
		{"a state that would be another one's line", func(c *api.Chart) { c.States[1] = api.State{Name: "exit x=1", Depth: 0} }},
	})
	// Depths beyond what a text may be deep, each ahead of what has another.
	for _, n := range []int{math.MaxInt, math.MaxInt - 1, math.MaxInt - 6000, math.MinInt, -1} {
		for _, m := range []int{0, 1, math.MinInt, math.MaxInt} {
			l := []api.State{{Name: "a", Kind: api.SBasic, Depth: n, Entry: block("x=1")}, {Name: "b", Kind: api.SBasic, Depth: m, Exit: block("x=1")}}
			wantNoText(t, "depths", api.Chart{Name: "c", States: l, Trans: []api.Trans{{}, {From: 1}}})
		}
	}
	// A right depth is that of the text, blocks and transitions one deeper.
	c := wholeChart()
	c.States[6].Depth = 2
	wantText(t, c, strings.Replace(whole, "   final t\n    entry", "  final t\n   entry", 1))
}

// P8.2: variables of which there is no text.
func TestShowOfVariables(t *testing.T) {
	far := []int64{1<<40 + 1, -1<<40 - 1, math.MaxInt64, math.MinInt64}
	for i, v := range wholeChart().Vars {
		for _, n := range []int{0, -1, 4, math.MaxInt, math.MinInt, 1<<32 + v.Kind} {
			wantChanges(t, []change{
				{"a variable's kind", func(c *api.Chart) { c.Vars[i].Kind = n }},
				{"a value's kind", func(c *api.Chart) { c.Vars[i].Init.Kind = n }},
				{"both kinds", func(c *api.Chart) { c.Vars[i].Kind, c.Vars[i].Init.Kind = n, n }},
			})
		}
		for kind := api.KInt; kind <= api.KPoint; kind++ {
			if kind != v.Kind {
				wantChanges(t, []change{
					{"a kind that isn't the value's", func(c *api.Chart) { c.Vars[i].Kind = kind }},
					{"a value that isn't of the kind", func(c *api.Chart) { c.Vars[i].Init.Kind = kind }},
				})
			}
		}
		for _, n := range far {
			wantChanges(t, []change{
				{"Lo", func(c *api.Chart) { c.Vars[i].Lo = n }},
				{"Hi", func(c *api.Chart) { c.Vars[i].Hi = n }},
				{"A", func(c *api.Chart) { c.Vars[i].Init.A = n }},
				{"B", func(c *api.Chart) { c.Vars[i].Init.B = n }},
			})
		}
		if v.Kind != api.KPoint {
			wantChanges(t, []change{{"B of what is no point", func(c *api.Chart) { c.Vars[i].Init.B = 1 }}})
		}
	}
	for i := 1; i <= 2; i++ {
		wantChanges(t, []change{
			{"a truth's Lo", func(c *api.Chart) { c.Vars[i].Lo = 1 }},
			{"a truth's Lo", func(c *api.Chart) { c.Vars[i].Lo = -1 }},
			{"a truth's Hi", func(c *api.Chart) { c.Vars[i].Hi = 0 }},
			{"a truth's Hi", func(c *api.Chart) { c.Vars[i].Hi = 2 }},
			{"a truth that is neither", func(c *api.Chart) { c.Vars[i].Init.A = 2 }},
			{"a truth that is neither", func(c *api.Chart) { c.Vars[i].Init.A = -1 }},
		})
	}
	for _, n := range []int64{1<<20 + 1, -1<<20 - 1, 1 << 53, 1<<53 + 1} {
		wantChanges(t, []change{
			{"a point's first part", func(c *api.Chart) { c.Vars[3].Init.A = n }},
			{"a point's second part", func(c *api.Chart) { c.Vars[3].Init.B = n }},
		})
	}
	// Bounds that are the wrong way round, and values beyond them, are read too.
	c := api.Chart{Name: "c", Vars: []api.Var{
		{Name: "x", Kind: api.KInt, Lo: 1 << 40, Hi: -1 << 40, Init: api.Value{Kind: api.KInt, A: -1 << 40}},
		{Name: "p", Kind: api.KPoint, Lo: 1 << 40, Hi: -1 << 40, Init: api.Value{Kind: api.KPoint, A: 1 << 20, B: -1 << 20}},
	}}
	wantText(t, c, lines("chart c", "int x 1099511627776 -1099511627776 -1099511627776", "point p 1099511627776 -1099511627776 1048576-1048576i"))
}

// P8.2: transitions of which there is no text.
func TestShowOfTransitions(t *testing.T) {
	for i := range wholeChart().Trans {
		for _, n := range []int{-1, 10, 11, 40, math.MaxInt, math.MinInt} {
			wantChanges(t, []change{{"From " + strconv.Itoa(n), func(c *api.Chart) { c.Trans[i].From = n }}})
		}
	}
	wantChanges(t, []change{
		{"From below that ahead", func(c *api.Chart) { c.Trans[3].From = 0 }},
		{"From below that ahead", func(c *api.Chart) { c.Trans[0].From = 1; c.Trans[2].From = 2 }},
		{"two the other way round", func(c *api.Chart) { c.Trans[2], c.Trans[3] = c.Trans[3], c.Trans[2] }},
		{"falling", func(c *api.Chart) { slices.Reverse(c.Trans) }},
		{"no states", func(c *api.Chart) { c.States = nil }},
		{"fewer states", func(c *api.Chart) { c.States = c.States[:9] }},
		{"one more behind the last", func(c *api.Chart) { c.Trans = append(c.Trans, api.Trans{From: 10}) }},
		{"the event -", func(c *api.Chart) { c.Trans[1].Event = "-" }},
		{"the target -", func(c *api.Chart) { c.Trans[1].To = "-" }},
	})
	c := wholeChart()
	c.Trans = append(c.Trans, api.Trans{From: 9}, api.Trans{From: 9, To: "y"})
	wantText(t, c, whole+"  on - - - -\n  on - - y -\n")
}

// P8.2: blocks and guards of which there is no text.
func TestShowOfBlocksAndGuards(t *testing.T) {
	cell := func(op int, a int64, name string) api.Cell { return api.Cell{Op: op, A: a, Name: name} }
	x := cell(api.OVar, 0, "x")
	for _, l := range [][]api.Cell{
		{{}}, {x, x}, {cell(24, 0, "")}, {cell(api.OAdd, 0, "")}, {cell(api.OInt, -1, "")}, {cell(api.OInt, 1<<40+1, "")}, {cell(api.OImag, 1<<20+1, "")}, {cell(api.OTrue, 1, "")}, {cell(api.OTrue, 0, "a")}, {cell(api.OIn, 0, "in")}, {cell(api.OVar, 0, "-")}, {cell(api.OVar, 1, "x")},
		append([]api.Cell{x}, slices.Repeat([]api.Cell{cell(api.ONeg, 0, "")}, 32)...), slices.Repeat([]api.Cell{x}, 1<<16),
	} {
		set := []api.Action{{Kind: api.ASet, Name: "x", Expr: l}}
		wantChanges(t, []change{
			{"a guard", func(c *api.Chart) { c.Trans[1].Guard = l }},
			{"an expression of Entry", func(c *api.Chart) { c.States[1].Entry = set }},
			{"an expression of Exit", func(c *api.Chart) { c.States[1].Exit = set }},
			{"an expression of Acts", func(c *api.Chart) { c.Trans[1].Acts = set }},
		})
	}
	for _, l := range [][]api.Action{
		{{}}, {{Kind: 4, Name: "a"}}, {{Kind: api.ASet, Name: "x"}}, {{Kind: api.ARaise}}, {{Kind: api.ASend, Name: "in"}}, {{Kind: api.ARaise, Name: "a", Expr: []api.Cell{x}}}, {{Kind: api.ASet, Name: "x", Expr: []api.Cell{cell(api.OIn, 0, "a")}}}, {{Kind: api.ARaise, Name: "a;raise:b"}},
		slices.Repeat(block("raise:a"), 9), slices.Repeat(block("raise:a"), 1<<16), append(block("raise:a"), api.Action{}),
	} {
		wantChanges(t, []change{
			{"Entry", func(c *api.Chart) { c.States[1].Entry = l }},
			{"Exit", func(c *api.Chart) { c.States[1].Exit = l }},
			{"Acts", func(c *api.Chart) { c.Trans[1].Acts = l }},
		})
	}
	// The greatest ones there are.
	c := wholeChart()
	long := append([]api.Cell{cell(api.OIn, 0, "abcdefghijkl")}, slices.Repeat([]api.Cell{cell(api.ONot, 0, "")}, 31)...)
	c.Trans[1].Guard, c.Trans[1].Acts = long, slices.Repeat(block("abcdefghijkl=abcdefghijkl"), 8)
	text, e := Show(c)
	if e != api.OK {
		t.Fatal(e)
	}
	wantChart(t, text, c)
}

// P8.2: charts whose text would be longer than a text may be.
func TestShowOfGreatCharts(t *testing.T) {
	great := strings.Repeat("a", 1<<22)
	for what, c := range map[string]api.Chart{
		"a name":      {Name: great},
		"events":      {Name: "c", Events: slices.Repeat([]string{"a"}, 1<<18)},
		"great ones":  {Name: "c", Events: slices.Repeat([]string{great}, 1<<16)},
		"variables":   {Name: "c", Vars: slices.Repeat(wholeChart().Vars, 1<<16)},
		"states":      {Name: "c", States: slices.Repeat(wholeChart().States, 1<<14)},
		"transitions": {Name: "c", States: wholeChart().States, Trans: slices.Repeat([]api.Trans{{}}, 1<<18)},
	} {
		wantNoText(t, what, c)
	}
	// A line that has no room is missed though those behind it have.
	wantNoText(t, "a great event between", api.Chart{Name: "c", Events: []string{"a", great, "b"}})
	wantNoText(t, "a great depth between", api.Chart{Name: "c", States: []api.State{{Name: "a", Kind: api.SBasic}, {Name: "b", Kind: api.SBasic, Depth: 5999}, {Name: "d", Kind: api.SBasic}}})
	wantText(t, parsed(t, lines("chart c")+strings.Repeat(lines("event a"), 749)), lines("chart c")+strings.Repeat(lines("event a"), 749))
	wantNoText(t, "750 events", api.Chart{Name: "c", Events: slices.Repeat([]string{"a"}, 750)})
}

// charted answers a chart of a text that is one, and it once more.
func charted(t *testing.T, s string) (api.Chart, api.Chart) {
	t.Helper()
	return parsed(t, s), parsed(t, s)
}

// P8.1, P8.2: what is handed in stays, its spare room too, and asking again
// answers the same.
func TestNothingHandedInIsChanged(t *testing.T) {
	c, was := charted(t, whole)
	roomy := func(c api.Chart) api.Chart {
		c.Events = append(c.Events, "more")[:len(c.Events)]
		c.Vars = append(c.Vars, api.Var{Name: "more"})[:len(c.Vars)]
		c.States = append(c.States, api.State{Name: "more"})[:len(c.States)]
		c.Trans = append(c.Trans, api.Trans{To: "more"})[:len(c.Trans)]
		c.Trans[0].Guard = append(c.Trans[0].Guard, api.Cell{Name: "more"})[:len(c.Trans[0].Guard)]
		c.Trans[0].Acts = append(c.Trans[0].Acts, api.Action{Name: "more"})[:len(c.Trans[0].Acts)]
		return c
	}
	c, was = roomy(c), roomy(was)
	for range 3 {
		wantText(t, c, whole)
		wantChart(t, whole, was)
	}
	more := func(c api.Chart) []any {
		return []any{c.Events[:len(c.Events)+1], c.Vars[:len(c.Vars)+1], c.States[:len(c.States)+1], c.Trans[:len(c.Trans)+1], c.Trans[0].Guard[:len(c.Trans[0].Guard)+1], c.Trans[0].Acts[:len(c.Trans[0].Acts)+1]}
	}
	if !reflect.DeepEqual(c, was) || !reflect.DeepEqual(more(c), more(was)) {
		t.Error("changed what was handed in", c)
	}
}

// over writes over a list and its spare room.
func over[T any](l []T, with T) {
	l = l[:cap(l)]
	for i := range l {
		l[i] = with
	}
}

// P8.1: no two lists of an answer share memory, nor do two answers.
func TestListsAreNew(t *testing.T) {
	s := lines("chart c", "event a", "int x 0 1 0", "one r a", " entry x=x+1;x=2", " exit x=x+1;x=2", " on a x+1 a x=x+1;x=2", " on a x+1 a x=x+1;x=2")
	other := parsed(t, s)
	spoils := []func(c api.Chart){
		func(c api.Chart) { over(c.Events, "z") },
		func(c api.Chart) { over(c.Vars, api.Var{Name: "z"}) },
		func(c api.Chart) { over(c.States, api.State{Name: "z"}) },
		func(c api.Chart) { over(c.Trans, api.Trans{To: "z"}) },
		func(c api.Chart) { over(c.States[0].Entry, api.Action{Name: "z"}) },
		func(c api.Chart) { over(c.States[0].Exit, api.Action{Name: "z"}) },
		func(c api.Chart) { over(c.States[0].Exit[0].Expr, api.Cell{Name: "z"}) },
		func(c api.Chart) { over(c.Trans[0].Guard, api.Cell{Name: "z"}) },
		func(c api.Chart) { over(c.Trans[0].Acts, api.Action{Name: "z"}) },
		func(c api.Chart) { over(c.Trans[1].Acts[0].Expr, api.Cell{Name: "z"}) },
	}
	for i, spoil := range spoils {
		c := parsed(t, s)
		spoil(c)
		// Mended again, all else must be as it was.
		mends := []func(){
			func() { c.Events = other.Events }, func() { c.Vars = other.Vars }, func() { c.States = other.States }, func() { c.Trans = other.Trans },
			func() { c.States[0].Entry = other.States[0].Entry }, func() { c.States[0].Exit = other.States[0].Exit }, func() { c.States[0].Exit[0].Expr = other.States[0].Exit[0].Expr },
			func() { c.Trans[0].Guard = other.Trans[0].Guard }, func() { c.Trans[0].Acts = other.Trans[0].Acts }, func() { c.Trans[1].Acts[0].Expr = other.Trans[1].Acts[0].Expr },
		}
		mends[i]()
		if !reflect.DeepEqual(c, other) || !reflect.DeepEqual(other, parsed(t, s)) {
			t.Error(i, "shares memory with another list", c)
		}
	}
}

// begin answers where a text's bytes stand.
func begin(s string) uintptr { return uintptr(unsafe.Pointer(unsafe.StringData(s))) }

// P8.1, P8.2: the names in what is answered are no pieces of what was handed
// in, and a text is new.
func TestNamesAreNew(t *testing.T) {
	s := strings.Clone(lines("chart clock", "event going", "int long 0 1 0", "bool other true", "point place 0 1 0+0i", "one region first", " entry long=long+1;raise:going", " exit send:done.first", " shallow past first", "  on done.region in(first) first long=other"))
	c := parsed(t, s)
	names := []string{c.Name, c.Events[0], c.Vars[0].Name, c.Vars[1].Name, c.Vars[2].Name, c.States[0].Name, c.States[0].Initial, c.States[1].Name, c.States[1].Initial, c.Trans[0].Event, c.Trans[0].To, c.Trans[0].Guard[0].Name}
	for _, l := range [][]api.Action{c.States[0].Entry, c.States[0].Exit, c.Trans[0].Acts} {
		for _, a := range l {
			names = append(names, a.Name)
			for _, one := range a.Expr {
				if one.Name != "" {
					names = append(names, one.Name)
				}
			}
		}
	}
	text, e := Show(c)
	if e != api.OK || text != s {
		t.Fatal(text, e)
	}
	if begin(text) == begin(s) {
		t.Error("the text is the one that was read")
	}
	for i, w := range names {
		if len(w) < 4 {
			t.Error("no name", i, w)
		}
		for _, of := range []string{s, text} {
			if begin(of) <= begin(w) && begin(w) < begin(of)+uintptr(len(of)) {
				t.Errorf("%q shares the memory of a text", w)
			}
		}
		for _, v := range names[:i] {
			if begin(v) == begin(w) {
				t.Errorf("%q and %q share memory", v, w)
			}
		}
	}
}

// P8.3: Parse of Show is the chart, for charts made by a rule, right ones and
// others.
func TestParseOfShow(t *testing.T) {
	next := chance(24)
	good, bad := 0, 0
	for range 20000 {
		c, _, e := Parse(someText(next))
		if e != api.OK {
			continue
		}
		spoiled := spoil(next, &c)
		text, e := Show(c)
		if e == api.OK {
			good++
			wantChart(t, text, c)
			continue
		}
		bad++
		if !spoiled {
			t.Error("there is a text", c)
		}
	}
	if good < 3000 || bad < 1000 {
		t.Error("too few", good, bad)
	}
}

// spoil may change something in a chart, and tells whether it did.
func spoil(next func(int) int, c *api.Chart) bool {
	names := []string{"", "a", "b", "in", "done.a", "-", "a b", "a\nevent b"}
	name, number := names[next(len(names))], int64(next(5)-1)
	switch what := next(16); {
	case what == 0:
		c.Name = name
	case what == 1 && len(c.Events) > 0:
		c.Events[next(len(c.Events))] = name
	case what == 2 && len(c.Vars) > 0:
		v := &c.Vars[next(len(c.Vars))]
		[]func(){func() { v.Kind = int(number) }, func() { v.Init.Kind = int(number) }, func() { v.Lo = number }, func() { v.Hi = number }, func() { v.Init.A = number }, func() { v.Init.B = number }, func() { v.Name = name }}[next(7)]()
	case what <= 4 && len(c.States) > 0:
		s := &c.States[next(len(c.States))]
		[]func(){func() { s.Kind = int(number) + next(5) }, func() { s.Depth = int(number) }, func() { s.Name = name }, func() { s.Initial = name }, func() { s.Entry = s.Exit }, func() { s.Exit = []api.Action{{Kind: int(number), Name: name}} }}[next(6)]()
	case what <= 6 && len(c.Trans) > 0:
		u := &c.Trans[next(len(c.Trans))]
		[]func(){func() { u.From = int(number) }, func() { u.Event = name }, func() { u.To = name }, func() { u.Guard = []api.Cell{{Op: int(number), Name: name}} }, func() { u.Acts = []api.Action{{Kind: int(number), Name: name}} }}[next(5)]()
	default:
		return false
	}
	return true
}
