package pick

import (
	"slices"
	"strconv"
	"testing"

	"quintain/api"
	"quintain/conf"
	"quintain/eval"
	"quintain/valid"
)

// What follows says again what the document says, word by word, on lists: what
// a state is within is looked for from place to place.

// saidAbove answers i's parent, that one's parent, and so on.
func saidAbove(c api.Chart, i int) []int {
	var l []int
	for depth := c.States[i].Depth; i >= 0; i-- {
		if c.States[i].Depth == depth-1 {
			l, depth = append(l, i), depth-1
		}
	}
	return l
}

func saidLeaves(c api.Chart, l []int, t int) []int {
	from, to := c.Trans[t].From, -1
	for i, s := range c.States {
		if s.Name == c.Trans[t].To {
			to = i
		}
	}
	if to == -1 {
		return nil
	}
	for _, domain := range append([]int{from}, saidAbove(c, from)...) {
		if c.States[domain].Kind != 2 || !slices.Contains(saidAbove(c, to), domain) {
			continue
		}
		var left []int
		for _, i := range l {
			if slices.Contains(saidAbove(c, i), domain) {
				left = append(left, i)
			}
		}
		return left
	}
	panic("there is no domain")
}

func saidMay(c api.Chart, l []int, vals []api.Value, event string) []int {
	var names []string
	for _, i := range l {
		names = append(names, c.States[i].Name)
	}
	var may []int
	for i, t := range c.Trans {
		ok := slices.Contains(l, t.From) && t.Event == event
		if len(t.Guard) > 0 {
			v, e := eval.Of(t.Guard, c.Vars, vals, names)
			ok = ok && e == 0 && v.Kind == 2 && v.A == 1
		}
		if ok {
			may = append(may, i)
		}
	}
	return may
}

// taken is what is taken, and how it came to it.
type taken struct {
	wanted, kept []int
	went, barred int // how many went, and how many weren't kept
	most         int // by one at once
	spared       int // how many stayed, for that by which they were to go isn't kept
}

func saidOf(c api.Chart, l, may []int) taken {
	var s taken
	for _, leaf := range l {
		if kind := c.States[leaf].Kind; kind != 1 && kind != 4 {
			continue
		}
		for _, i := range append([]int{leaf}, saidAbove(c, leaf)...) {
			n := slices.IndexFunc(may, func(t int) bool { return c.Trans[t].From == i })
			if n == -1 {
				continue
			}
			if !slices.Contains(s.wanted, may[n]) {
				s.wanted = append(s.wanted, may[n])
			}
			break
		}
	}
	for _, t := range s.wanted {
		s.hold(c, l, t)
	}
	slices.Sort(s.kept)
	return s
}

// hold holds t against those that were kept so far.
func (s *taken) hold(c api.Chart, l []int, t int) {
	var stay, to []int
	bars := false
	for _, k := range s.kept {
		shared := slices.DeleteFunc(saidLeaves(c, l, t), func(i int) bool { return !slices.Contains(saidLeaves(c, l, k), i) })
		switch {
		case len(shared) == 0:
			stay = append(stay, k)
		case slices.Contains(saidAbove(c, c.Trans[t].From), c.Trans[k].From):
			to = append(to, k)
		default:
			bars = true
		}
	}
	if bars {
		s.barred++
		s.spared += len(to)
		return
	}
	s.went += len(to)
	s.most = max(s.most, len(to))
	s.kept = append(stay, t)
}

// count puts another one's numbers to s's.
func (s *taken) count(other taken) {
	s.kept = append(s.kept, other.kept...)
	s.went, s.barred, s.spared = s.went+other.went, s.barred+other.barred, s.spared+other.spared
}

// wantSaid holds what is answered against what the document says.
func wantSaid(t *testing.T, c api.Chart, l []int, vals []api.Value, event string) taken {
	t.Helper()
	if !conf.Legal(c, l) {
		wantNothing(t, "not legal", c, l)
		return taken{}
	}
	for i := -1; i <= len(c.Trans); i++ {
		var want []int
		if i >= 0 && i < len(c.Trans) && slices.Contains(l, c.Trans[i].From) {
			want = saidLeaves(c, l, i)
		}
		if got := Leaves(c, l, i); !slices.Equal(got, want) {
			t.Errorf("%s: Leaves of %d in %v: %v, not %v", told(c), i, l, got, want)
		}
	}
	may := saidMay(c, l, vals, event)
	if got := May(c, l, vals, event); !slices.Equal(got, may) {
		t.Errorf("%s: May in %v by %v and %.20q: %v, not %v", told(c), l, vals, event, got, may)
	}
	want, got := saidOf(c, l, may), Of(c, l, vals, event)
	if !slices.Equal(got, want.kept) {
		t.Errorf("%s: Of in %v by %v and %.20q: %v, not %v", told(c), l, vals, event, got, want.kept)
	}
	wantApart(t, c, l, got, May(c, l, vals, event))
	// Two that go by one have its From within theirs, so that one's From is within
	// the other's: such two leave a state both, and aren't kept both.
	if want.most > 1 {
		t.Errorf("%s: in %v two go by one", told(c), l)
	}
	return want
}

// wantApart asks, by what the program itself answers, that no two of those that
// are taken leave one state, and that each of them may be taken.
func wantApart(t *testing.T, c api.Chart, l, got, may []int) {
	t.Helper()
	by := map[int]int{}
	for _, n := range got {
		if !slices.Contains(may, n) {
			t.Errorf("%s: %d is taken in %v, though it may not be", told(c), n, l)
		}
		for _, i := range Leaves(c, l, n) {
			if k, again := by[i]; again {
				t.Errorf("%s: %d and %d leave %d in %v", told(c), k, n, i, l)
			}
			by[i] = n
		}
	}
}

// told answers a short text of a chart: of each state the kind's letter (o is
// SOne, p is SBoth), the depth, the name; of each transition from>to.
func told(c api.Chart) string {
	s := c.Name
	for _, v := range c.States {
		kind := "?"
		if v.Kind >= 1 && v.Kind <= 6 {
			kind = "?bopfsd"[v.Kind : v.Kind+1]
		}
		s += " " + kind + strconv.Itoa(v.Depth) + v.Name
	}
	for _, v := range c.Trans {
		s += " " + strconv.Itoa(v.From) + ">" + v.To
	}
	return s
}

// chance answers numbers that are the same each time.
type chance uint32

// below answers one from 0 to n - 1.
func (g *chance) below(n int) int {
	*g = *g*1664525 + 1013904223
	return int(*g>>8) % n
}

// one tells whether it is the one time of n.
func (g *chance) one(n int) bool { return g.below(n) == 0 }

// grow puts a state of that kind, with what is to be within it, behind l.
func (g *chance) grow(l []api.State, kind, depth int) []api.State {
	l = append(l, api.State{Name: "s" + strconv.Itoa(len(l)), Kind: kind, Depth: depth})
	if kind != api.SOne && kind != api.SBoth {
		return l
	}
	for n := 1 + g.below(3); n > 0; n-- {
		l = g.grow(l, g.kind(kind, depth+1), depth+1)
	}
	if kind == api.SOne && g.one(3) {
		l = g.grow(l, api.SShallow+g.below(2), depth+1)
	}
	return l
}

// kind answers of which kind a child at that depth is, of an SOne or an SBoth.
func (g *chance) kind(of, depth int) int {
	switch {
	case depth < api.MaxDepth-1 && !g.one(3):
		return api.SOne + g.below(2)
	case of == api.SOne && g.one(3):
		return api.SFinal
	}
	return api.SBasic
}

// chart answers a valid chart of some n states at least, without transitions.
func (g *chance) chart(n int) api.Chart {
	c := api.Chart{Name: "c", Events: []string{"go", "up"}, Vars: []api.Var{{Name: "x", Kind: api.KInt, Hi: 9, Init: value(1, 3, 0)}}}
	for regions := 0; len(c.States) < n && regions < api.MaxRegions; regions++ {
		for {
			l := g.grow(slices.Clip(c.States), api.SOne, 0)
			if len(l) <= api.MaxStates {
				c.States = l
				break
			}
		}
	}
	for i, s := range c.States {
		if s.Kind == api.SOne {
			c.States[i].Initial = c.States[i+1].Name
		}
		if s.Kind == api.SShallow || s.Kind == api.SDeep {
			c.States[i].Initial = c.States[saidAbove(c, i)[0]+1].Name
		}
	}
	return c
}

// trans puts transitions to c: of each state one in every, about, and some
// states with two.
func (g *chance) trans(c *api.Chart, every int) {
	c.Trans = nil
	guards := [][]api.Cell{
		nil, nil, nil, nil, nil,
		{{Op: api.OVar, Name: "x"}, {Op: api.OInt, A: 5}, {Op: api.OLt}},
		{{Op: api.OInt, A: 1}, {Op: api.OVar, Name: "x"}, {Op: api.ODiv}, {Op: api.OInt, A: 0}, {Op: api.OEq}},
		{{Op: api.OIn, Name: c.States[1].Name}},
	}
	for i, s := range c.States {
		if s.Kind > api.SBoth || !g.one(every) {
			continue
		}
		for range 1 + g.below(2) {
			v := api.Trans{From: i, Event: g.event(), Guard: guards[g.below(len(guards))]}
			if to := g.targets(*c, i); !g.one(8) && len(to) > 0 {
				v.To = to[g.below(len(to))]
			}
			if len(c.Trans) < api.MaxTrans {
				c.Trans = append(c.Trans, v)
			}
		}
	}
}

// event answers what a transition waits for: most of them wait for go.
func (g *chance) event() string {
	if !g.one(4) {
		return "go"
	}
	return []string{"up", ""}[g.below(2)]
}

// targets answers where a transition from i may lead: most times just what
// lies near.
func (g *chance) targets(c api.Chart, i int) []string {
	near := !g.one(4)
	var to []string
	for k, s := range c.States {
		// All in a region but itself has an SOne above that i has, too, or is.
		if up := saidAbove(c, k); len(up) > 0 && slices.Contains(append(saidAbove(c, i), i), up[len(up)-1]) {
			if !near || slices.Contains(up, i) || slices.Equal(up, saidAbove(c, i)) {
				to = append(to, s.Name)
			}
		}
	}
	return to
}

// legal answers one of c's legal configurations.
func (g *chance) legal(c api.Chart) []int {
	var l []int
	var walk func(i int)
	walk = func(i int) {
		l = append(l, i)
		var kids []int
		for k, s := range c.States {
			if up := saidAbove(c, k); len(up) > 0 && up[0] == i && s.Kind < api.SShallow {
				kids = append(kids, k)
			}
		}
		if c.States[i].Kind == api.SOne {
			at := g.below(len(kids))
			kids = kids[at : at+1]
		}
		for _, k := range kids {
			walk(k)
		}
	}
	for i, s := range c.States {
		if s.Depth == 0 {
			walk(i)
		}
	}
	return l
}

// P11.1, P11.2, P11.3, P11.4: charts of many kinds, by some configurations,
// values and events of each.
func TestManyCharts(t *testing.T) {
	g := chance(7)
	var all taken
	full, most := 0, 0
	for round := range 600 {
		c := g.chart(3 + round%36)
		if round%3 == 0 {
			c = parsed(t, split)
		}
		g.trans(&c, 1+round%2)
		if e := valid.Check(c); e != api.OK {
			t.Fatal(told(c), e)
		}
		if len(c.Trans) == api.MaxTrans {
			full++
		}
		for range 4 {
			l := g.legal(c)
			if !conf.Legal(c, l) {
				t.Fatal(told(c), l)
			}
			s := wantSaid(t, c, l, []api.Value{value(1, int64(g.below(10)), 0)}, g.event())
			all.count(s)
			most = max(most, len(s.kept))
		}
	}
	if all.went < 100 || all.barred < 500 || len(all.kept) < 2500 || most < 6 || full < 20 {
		t.Error("too few", all.went, all.barred, len(all.kept), most, full)
	}
}

// P11.3, P11.4: of one chart each choice of transitions, of each state none, one
// that leaves nothing, one that leaves as little as may be, one that leaves all.
func TestAllChoices(t *testing.T) {
	c := parsed(t, "chart c/event go/one r k/ both k/  one u v/   basic v/  one y z/   basic z/  one p a/   both a/    one d e/     basic e/    one g h/     basic h/ basic b")
	l := places(t, c, "r k u v y z p a d e g h")
	near := [][2]string{{"k", "k"}, {"v", "v"}, {"z", "z"}, {"p", "a"}, {"a", "a"}, {"e", "e"}, {"h", "h"}}
	var all taken
	for n := range 1 << 14 {
		c.Trans = nil
		for _, way := range near {
			if n%4 > 0 {
				c.Trans = append(c.Trans, api.Trans{From: valid.Place(c, way[0]), Event: "go", To: []string{"", way[1], "b"}[n%4-1]})
			}
			n /= 4
		}
		all.count(wantSaid(t, c, l, nil, "go"))
	}
	if all.went < 2000 || all.barred < 10000 || all.spared < 100 {
		t.Error("too few", all.went, all.barred, all.spared)
	}
}
