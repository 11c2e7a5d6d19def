package valid

import (
	"math"
	"reflect"
	"regexp"
	"slices"
	"strings"
	"testing"

	"quintain/acts"
	"quintain/api"
	"quintain/eval"
	"quintain/kinds"
	"quintain/tree"
)

// What follows says again what the document says: all that is wrong with a
// chart is gathered, each thing with what ranks it, and the least rank counts.

// said is all that is wrong with a chart.
type said struct {
	c     api.Chart
	wrong []wrong
}

// wrong is one thing; ahead of it comes what has a lesser rank.
type wrong struct {
	rank []int
	e    api.Errno
}

// ask puts down what is wrong, unless it is so.
func (s *said) ask(so bool, e api.Errno, rank ...int) {
	if !so {
		s.wrong = append(s.wrong, wrong{rank, e})
	}
}

// saidCheck answers the error of what ranks first.
func saidCheck(c api.Chart) api.Errno {
	if len(c.Events) > 12 || len(c.Vars) > 8 || len(c.States) > 40 || len(c.Trans) > 48 {
		return api.ErrLong
	}
	s := said{c: c}
	s.names()
	s.ask(tree.Right(c.States), api.ErrOrder, 4)
	for i := range c.States {
		s.state(i)
	}
	for i := range c.Vars {
		s.variable(i)
	}
	for i := range c.Trans {
		s.transition(i)
	}
	if len(s.wrong) == 0 {
		return api.OK
	}
	return slices.MinFunc(s.wrong, func(a, b wrong) int { return slices.Compare(a.rank, b.rank) }).e
}

var saidName = regexp.MustCompile(`\A[a-z][a-z0-9_]{0,11}\z`)

func (s *said) names() {
	s.name(s.c.Name)
	times := map[string]int{}
	once := func(of, name string) {
		s.name(name)
		times[of+name]++
		s.ask(times[of+name] == 1, api.ErrTwice, 3)
	}
	for _, name := range s.c.Events {
		once("an event ", name)
	}
	for _, v := range s.c.Vars {
		once("a variable ", v.Name)
	}
	for _, v := range s.c.States {
		once("a state ", v.Name)
	}
}

func (s *said) name(w string) {
	s.ask(saidName.MatchString(w) && !strings.Contains(" true false in re im ", " "+w+" "), api.ErrName, 2)
}

// at answers the place of a state, and the state: one that has no kind, if
// there is none.
func (s *said) at(name string) (int, api.State) {
	for i, v := range s.c.States {
		if v.Name == name {
			return i, v
		}
	}
	return -1, api.State{}
}

func (s *said) state(i int) {
	l, v := s.c.States, s.c.States[i]
	k, first := s.at(v.Initial)
	may := first.Kind >= 1 && first.Kind <= 4
	switch v.Kind {
	case 2:
		s.ask(may && slices.Contains(tree.Kids(l, i), k), api.ErrName, 5, i)
	case 5:
		s.ask(may && slices.Contains(tree.Kids(l, tree.Parent(l, i)), k), api.ErrName, 5, i)
	case 6:
		s.ask(may && tree.Within(l, tree.Parent(l, i), k), api.ErrName, 5, i)
	default:
		s.ask(v.Initial == "", api.ErrForm, 5, i)
	}
	if v.Kind == 5 || v.Kind == 6 {
		s.ask(len(v.Entry)+len(v.Exit) == 0, api.ErrForm, 7, i, 0)
	}
	s.ask(v.Kind != 4 || len(v.Exit) == 0, api.ErrForm, 7, i, 0)
	s.block(v.Entry, 7, i, 1)
	s.block(v.Exit, 7, i, 2)
}

func (s *said) variable(i int) {
	v := s.c.Vars[i]
	s.ask(v.Kind == 1 || v.Kind == 2 || v.Kind == 3, api.ErrKind, 6, i, 0)
	s.ask(v.Kind == v.Init.Kind, api.ErrKind, 6, i, 0)
	far := map[int]int64{1: 1099511627776, 2: 1, 3: 1048576}[v.Kind]
	s.ask(v.Lo <= v.Hi && v.Hi <= far && v.Lo >= -far, api.ErrRange, 6, i, 1)
	s.ask(v.Kind != 2 || v.Lo == 0 && v.Hi == 1, api.ErrRange, 6, i, 1)
	s.ask(eval.Right(v.Init), api.ErrRange, 6, i, 2)
	parts := []int64{v.Init.A}
	if v.Kind == 3 {
		parts = append(parts, v.Init.B)
	}
	s.ask(slices.Min(parts) >= v.Lo && slices.Max(parts) <= v.Hi, api.ErrRange, 6, i, 2)
}

func (s *said) block(l []api.Action, rank ...int) {
	under := func(more ...int) []int { return append(slices.Clone(rank), more...) }
	s.ask(len(l) == 0 || acts.Right(l), api.ErrForm, under(-1)...)
	for n, a := range l {
		if a.Kind != api.ASet {
			s.ask(slices.Contains(s.c.Events, a.Name), api.ErrName, under(n)...)
			continue
		}
		is := 0
		for _, v := range s.c.Vars {
			if v.Name == a.Name && is == 0 {
				is = v.Kind
			}
		}
		s.ask(is != 0, api.ErrName, under(n, 0)...)
		kind, e := kinds.Of(a.Expr, s.c.Vars, nil)
		s.ask(e == api.OK, e, under(n, 1)...)
		s.ask(kind == is, api.ErrKind, under(n, 2)...)
	}
}

func (s *said) transition(i int) {
	t := s.c.Trans[i]
	from := api.State{}
	if t.From >= 0 && t.From < len(s.c.States) {
		from = s.c.States[t.From]
	}
	s.ask(from.Kind >= 1 && from.Kind <= 3, api.ErrForm, 8, i, 0)
	s.ask(i == 0 || s.c.Trans[i-1].From <= t.From, api.ErrForm, 8, i, 0)
	waits := append([]string{"", "error"}, s.c.Events...)
	var active []string
	for _, v := range s.c.States {
		if v.Kind == 2 || v.Kind == 3 {
			waits = append(waits, "done."+v.Name)
		}
		if v.Kind <= 4 {
			active = append(active, v.Name)
		}
	}
	s.ask(slices.Contains(waits, t.Event), api.ErrName, 8, i, 1)
	if len(t.Guard) > 0 {
		kind, e := kinds.Of(t.Guard, s.c.Vars, active)
		s.ask(e == api.OK, e, 8, i, 2, 0)
		s.ask(kind == 2, api.ErrKind, 8, i, 2, 1)
	}
	if t.To != "" {
		to, _ := s.at(t.To)
		s.ask(to >= 0, api.ErrName, 8, i, 3, 0)
		s.ask(tree.Domain(s.c.States, t.From, to) >= 0, api.ErrOrder, 8, i, 3, 1)
	}
	s.block(t.Acts, 8, i, 4)
}

// wantSaid holds what Check answers for c against what the document says.
func wantSaid(t *testing.T, what string, c api.Chart) api.Errno {
	t.Helper()
	want := saidCheck(c)
	wantCheck(t, what, c, want)
	return want
}

// someNames are what a name may be changed to.
var someNames = []string{"", "go", "up", "x", "p", "r", "a", "h", "k", "f", "q", "u", "v", "y", "z", "nothing", "in", "done.r", "done.h", "done.a", "error", "a b", "abcdefghijklm"}

// someNumbers are what a number may be changed to.
var someNumbers = []int{math.MinInt, -1 << 40, -1<<40 - 1, -1 << 20, -1<<20 - 1, -10, -1, 0, 1, 2, 3, 4, 5, 6, 7, 10, 11, 12, 13, 40, 1 << 20, 1<<20 + 1, 1 << 40, 1<<40 + 1, math.MaxInt}

// someTexts are expressions.
var someTexts = []string{"x", "b", "p", "x+1", "in(a)", "in(h)", "in(nothing)", "n", "x+b", "x<1", "re(p)<1", "1i"}

// someBlocks are blocks.
var someBlocks = []string{"x=1", "b=x<1", "p=1i", "x=b", "n=1", "x=n", "raise:go", "send:up", "raise:nothing", "send:error", "raise:done.r", "x=1;b=1;n=1", "raise:go;raise:nothing;x=b"}

// blockLists answers what a block may be changed to.
func blockLists() [][]api.Action {
	l := [][]api.Action{nil, {}, {{}}, {{Kind: 4, Name: "go"}}, {set("b", cell(api.OIn, 0, "a"))}, slices.Repeat(blockOf("raise:go"), 9)}
	for _, text := range someBlocks {
		l = append(l, blockOf(text))
	}
	return l
}

// guardLists answers what a guard may be changed to.
func guardLists() [][]api.Cell {
	l := [][]api.Cell{nil, {}}
	for _, text := range someTexts {
		l = append(l, guardOf(text))
	}
	return append(l, notRight[:4]...)
}

// changes answers one change a field of whole and a thing that it may become,
// and some of whole lists.
func changes() []change {
	var l []change
	put := func(what string, do func(*api.Chart)) { l = append(l, change{what, do}) }
	names := func(what string, of func(*api.Chart) *string) {
		for _, w := range someNames {
			put(what+" "+w, func(c *api.Chart) { *of(c) = w })
		}
	}
	numbers := func(what string, of func(*api.Chart) *int) {
		for _, n := range someNumbers {
			put(what, func(c *api.Chart) { *of(c) = n })
		}
	}
	longs := func(what string, of func(*api.Chart) *int64) {
		for _, n := range someNumbers {
			put(what, func(c *api.Chart) { *of(c) = int64(n) })
		}
	}
	blocks := func(what string, of func(*api.Chart) *[]api.Action) {
		for _, list := range blockLists() {
			put(what, func(c *api.Chart) { *of(c) = list })
		}
	}
	names("the chart's name", func(c *api.Chart) *string { return &c.Name })
	for i := range fresh().Events {
		names("an event's name", func(c *api.Chart) *string { return &c.Events[i] })
	}
	for i := range fresh().Vars {
		names("a variable's name", func(c *api.Chart) *string { return &c.Vars[i].Name })
		numbers("a variable's kind", func(c *api.Chart) *int { return &c.Vars[i].Kind })
		numbers("a value's kind", func(c *api.Chart) *int { return &c.Vars[i].Init.Kind })
		longs("Lo", func(c *api.Chart) *int64 { return &c.Vars[i].Lo })
		longs("Hi", func(c *api.Chart) *int64 { return &c.Vars[i].Hi })
		longs("A", func(c *api.Chart) *int64 { return &c.Vars[i].Init.A })
		longs("B", func(c *api.Chart) *int64 { return &c.Vars[i].Init.B })
	}
	for i := range fresh().States {
		names("a state's name", func(c *api.Chart) *string { return &c.States[i].Name })
		names("an Initial", func(c *api.Chart) *string { return &c.States[i].Initial })
		numbers("a state's kind", func(c *api.Chart) *int { return &c.States[i].Kind })
		numbers("a depth", func(c *api.Chart) *int { return &c.States[i].Depth })
		blocks("Entry", func(c *api.Chart) *[]api.Action { return &c.States[i].Entry })
		blocks("Exit", func(c *api.Chart) *[]api.Action { return &c.States[i].Exit })
	}
	for i := range fresh().Trans {
		numbers("From", func(c *api.Chart) *int { return &c.Trans[i].From })
		names("an event", func(c *api.Chart) *string { return &c.Trans[i].Event })
		names("a target", func(c *api.Chart) *string { return &c.Trans[i].To })
		blocks("Acts", func(c *api.Chart) *[]api.Action { return &c.Trans[i].Acts })
		for _, list := range guardLists() {
			put("a guard", func(c *api.Chart) { c.Trans[i].Guard = list })
		}
	}
	return append(l, more()...)
}

// more answers changes that make whole's lists longer, some too long.
func more() []change {
	var l []change
	for _, n := range []int{1, 5, 6, 10, 11, 27, 28, 39, 40} {
		l = append(l,
			change{"more events", func(c *api.Chart) { c.Events = append(c.Events, numbered("e", n)...) }},
			change{"more variables", func(c *api.Chart) { c.Vars = append(c.Vars, sized(0, n, 2, 0).Vars...) }},
			change{"more states", func(c *api.Chart) { c.States = append(c.States, sized(0, 0, n, 0).States[1:]...) }},
			change{"more transitions", func(c *api.Chart) { c.Trans = append(c.Trans, slices.Repeat([]api.Trans{{From: 12}}, n)...) }},
		)
	}
	return l
}

// P9.2, P9.3: each field of a chart changed, as the document says; and what is
// valid still is with a transition less.
func TestOneChange(t *testing.T) {
	count := map[api.Errno]int{}
	for _, one := range changes() {
		c := fresh()
		one.do(&c)
		want := wantSaid(t, one.what, c)
		count[want]++
		if want == api.OK {
			wantFewer(t, c)
		}
	}
	wantMany(t, count, 5)
}

// wantMany holds how often each error was wanted against a number.
func wantMany(t *testing.T, count map[api.Errno]int, n int) {
	t.Helper()
	for _, e := range []api.Errno{api.OK, api.ErrForm, api.ErrName, api.ErrTwice, api.ErrLong, api.ErrRange, api.ErrKind, api.ErrOrder} {
		if count[e] < n {
			t.Errorf("%v: just %d times", e, count[e])
		}
	}
}

// chance answers numbers by a rule, each below the bound that is handed in.
func chance(seed uint32) func(n int) int {
	return func(n int) int {
		seed = seed*1664525 + 1013904223
		return int(seed>>8) % n
	}
}

// P9.2, P9.3: a few fields changed at once.
func TestFewChanges(t *testing.T) {
	next, all := chance(9), changes()
	count := map[api.Errno]int{}
	for range 30000 {
		c := fresh()
		var what []string
		for range 2 + next(3) {
			one := all[next(len(all))]
			one.do(&c)
			what = append(what, one.what)
		}
		want := wantSaid(t, strings.Join(what, ", "), c)
		count[want]++
		if want == api.OK {
			wantFewer(t, c)
		}
	}
	wantMany(t, count, 50)
}

// spoil is one way in which whole may be made wrong: its rank is the number of
// the point, then what comes first within the point, and its error.
type spoil struct {
	rank []int
	want api.Errno
	do   func(*api.Chart)
}

// spoils answers ways to make whole wrong that leave one another alone: no
// later one mends, or moves, what an earlier one does.
func spoils() []spoil {
	at := func(rank ...int) []int { return rank }
	l := []spoil{
		{at(1), api.ErrLong, func(c *api.Chart) { c.Events = append(c.Events, numbered("e", 11)...) }},
		{at(1), api.ErrLong, func(c *api.Chart) { c.Vars = append(c.Vars, sized(0, 6, 2, 0).Vars...) }},
		{at(1), api.ErrLong, func(c *api.Chart) { c.States = append(c.States, make([]api.State, 28)...) }},
		{at(1), api.ErrLong, func(c *api.Chart) { c.Trans = append(c.Trans, make([]api.Trans, 40)...) }},
		{at(2), api.ErrName, func(c *api.Chart) { c.Name = "" }},
		{at(2), api.ErrName, func(c *api.Chart) { c.Events = append(c.Events, "in") }},
		{at(2), api.ErrName, func(c *api.Chart) { c.Vars[0].Name = "A" }},
		{at(2), api.ErrName, func(c *api.Chart) { c.States[0].Name = "a b" }},
		{at(3), api.ErrTwice, func(c *api.Chart) { c.Events = append(c.Events, "go") }},
		{at(3), api.ErrTwice, func(c *api.Chart) { c.Vars[2].Name = "b" }},
		{at(3), api.ErrTwice, func(c *api.Chart) { c.States[10].Name = "w" }},
		{at(4), api.ErrOrder, func(c *api.Chart) { c.States[1].Depth = 0 }},
		{at(4), api.ErrOrder, func(c *api.Chart) { c.States[12].Kind = api.SDeep }},
		{at(5, 0), api.ErrName, func(c *api.Chart) { c.States[0].Initial = "" }},
		{at(5, 1), api.ErrForm, func(c *api.Chart) { c.States[1].Initial = "a" }},
		{at(5, 2), api.ErrName, func(c *api.Chart) { c.States[2].Initial = "v" }},
		{at(5, 4), api.ErrForm, func(c *api.Chart) { c.States[4].Initial = "f" }},
		{at(5, 9), api.ErrName, func(c *api.Chart) { c.States[9].Initial = "y" }},
		{at(5, 12), api.ErrForm, func(c *api.Chart) { c.States[12].Initial = "s" }},
		{at(6, 0, 0), api.ErrKind, func(c *api.Chart) { c.Vars[0].Init.Kind = 9 }},
		{at(6, 0, 1), api.ErrRange, func(c *api.Chart) { c.Vars[0].Lo = 6 }},
		{at(6, 1, 0), api.ErrKind, func(c *api.Chart) { c.Vars[1].Kind = 4 }},
		{at(6, 1, 1), api.ErrRange, func(c *api.Chart) { c.Vars[1].Hi = 2 }},
		{at(6, 1, 2), api.ErrRange, func(c *api.Chart) { c.Vars[1].Init.A = 2 }},
		{at(6, 2, 0), api.ErrKind, func(c *api.Chart) { c.Vars[2].Init.Kind = 0 }},
		{at(6, 2, 2), api.ErrRange, func(c *api.Chart) { c.Vars[2].Init.B = 10 }},
	}
	for i, s := range fresh().States {
		switch {
		case isHistory(s):
			l = append(l, spoil{at(7, i), api.ErrForm, func(c *api.Chart) { c.States[i].Entry = blockOf("raise:go") }})
		case s.Kind == api.SFinal:
			l = append(l,
				spoil{at(7, i, 0), api.ErrForm, func(c *api.Chart) { c.States[i].Exit = blockOf("raise:go") }},
				spoil{at(7, i, 1), api.ErrKind, func(c *api.Chart) { c.States[i].Entry = blockOf("x=1i") }})
		default:
			l = append(l,
				spoil{at(7, i, 1), api.ErrKind, func(c *api.Chart) { c.States[i].Entry = blockOf("x=1i") }},
				spoil{at(7, i, 2), api.ErrName, func(c *api.Chart) { c.States[i].Exit = blockOf("raise:nothing") }})
		}
	}
	for i := range fresh().Trans {
		l = append(l,
			spoil{at(8, i, 0), api.ErrForm, func(c *api.Chart) { c.Trans[i].From = -1 }},
			spoil{at(8, i, 1), api.ErrName, func(c *api.Chart) { c.Trans[i].Event = "done.a" }},
			spoil{at(8, i, 2), api.ErrKind, func(c *api.Chart) { c.Trans[i].Guard = guardOf("1") }},
			spoil{at(8, i, 3), api.ErrOrder, func(c *api.Chart) { c.Trans[i].To = "r" }},
			spoil{at(8, i, 4), api.ErrForm, func(c *api.Chart) { c.Trans[i].Acts = make([]api.Action, 1) }})
	}
	return l
}

// P9.2: of two faults the one of the earlier point is told, and within one
// point the one that is asked first.
func TestWhichFault(t *testing.T) {
	for i, one := range spoils() {
		c := fresh()
		one.do(&c)
		wantCheck(t, "alone", c, one.want)
		for k, other := range spoils() {
			// Within what has no order of its own they have one error.
			if first := slices.Compare(one.rank, other.rank); first > 0 || i == k {
				continue
			}
			c := fresh()
			other.do(&c)
			one.do(&c)
			if got := Check(c); got != one.want {
				t.Errorf("%v %v, %v %v: %v", one.rank, one.want, other.rank, other.want, got)
			}
		}
	}
}

// wantFewer holds what Check answers for a valid chart that has lost any one
// of its transitions against its being valid.
func wantFewer(t *testing.T, c api.Chart) {
	t.Helper()
	for i := range c.Trans {
		less := c
		less.Trans = slices.Delete(slices.Clone(c.Trans), i, i+1)
		wantCheck(t, "with a transition less", less, api.OK)
	}
}

// P9.3: any of the transitions taken away.
func TestFewerTransitions(t *testing.T) {
	texts := []string{whole}
	for _, s := range ofTheDocument {
		texts = append(texts, strings.ReplaceAll(s, "/", "\n"))
	}
	for _, s := range texts {
		c := parsed(t, s)
		for keep := range 1 << len(c.Trans) {
			less := c
			less.Trans = nil
			for i, one := range c.Trans {
				if keep>>i&1 == 1 {
					less.Trans = append(less.Trans, one)
				}
			}
			wantCheck(t, "with fewer transitions", less, api.OK)
		}
	}
	wantFewer(t, sized(12, 8, 40, 48))
}

// roomy answers c with room to spare in each of its lists, which holds things.
func roomy(c api.Chart) api.Chart {
	c.Events = append(c.Events, "more")[:len(c.Events)]
	c.Vars = append(c.Vars, api.Var{Name: "more"})[:len(c.Vars)]
	c.States = append(c.States, api.State{Name: "more"})[:len(c.States)]
	c.Trans = append(c.Trans, api.Trans{To: "more"})[:len(c.Trans)]
	for i := range c.Trans {
		one := &c.Trans[i]
		one.Guard = append(one.Guard, api.Cell{Name: "more"})[:len(one.Guard)]
		one.Acts = append(one.Acts, api.Action{Name: "more"})[:len(one.Acts)]
	}
	return c
}

// spare answers a chart's lists with what stands behind them.
func spare(c api.Chart) []any {
	l := []any{c.Events[:len(c.Events)+1], c.Vars[:len(c.Vars)+1], c.States[:len(c.States)+1], c.Trans[:len(c.Trans)+1]}
	for _, one := range c.Trans {
		l = append(l, one.Guard[:len(one.Guard)+1], one.Acts[:len(one.Acts)+1])
	}
	return l
}

// P9.1, P9.2: what is handed in stays, its spare room too, and asking again
// answers the same.
func TestNothingHandedInIsChanged(t *testing.T) {
	for _, one := range append(spoils(), spoil{nil, api.OK, func(*api.Chart) {}}) {
		c, was := fresh(), fresh()
		one.do(&c)
		one.do(&was)
		c, was = roomy(c), roomy(was)
		for range 3 {
			wantCheck(t, "again", c, one.want)
			Place(c, "z")
		}
		if !reflect.DeepEqual(c, was) || !reflect.DeepEqual(spare(c), spare(was)) {
			t.Error("changed what was handed in", c)
		}
	}
}

// P9.1, P9.2: great charts are answered too.
func TestGreatCharts(t *testing.T) {
	great := strings.Repeat("a", 1<<22)
	wantChanges(t, api.ErrName, []change{
		{"a great name", func(c *api.Chart) { c.Name = great }},
		{"a great Initial", func(c *api.Chart) { c.States[0].Initial = great }},
		{"a great event", func(c *api.Chart) { c.Trans[0].Event = "done." + great }},
		{"a great target", func(c *api.Chart) { c.Trans[0].To = great }},
	})
	wantChanges(t, api.ErrForm, []change{
		{"a great guard", func(c *api.Chart) { c.Trans[0].Guard = slices.Repeat(guardOf("x"), 1<<20) }},
		{"a great block", func(c *api.Chart) { c.Trans[0].Acts = slices.Repeat(blockOf("x=1"), 1<<20) }},
		{"a great expression", func(c *api.Chart) { c.States[0].Exit = []api.Action{set("x", slices.Repeat(guardOf("x"), 1<<20)...)} }},
	})
	wantChanges(t, api.ErrLong, []change{
		{"great lists", func(c *api.Chart) { c.States = slices.Repeat(c.States, 1<<16) }},
	})
}
