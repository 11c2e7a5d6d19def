package moves

import (
	"slices"
	"strconv"
	"testing"

	"quintain/api"
	"quintain/conf"
	"quintain/pick"
	"quintain/tree"
	"quintain/valid"
)

// What follows says again what the document says, word by word, on lists: what
// a state is within is looked for from place to place, and what is entered is
// told of each state by its parent's.

// saidAbove answers i's parent, that one's parent, and so on.
func saidAbove(c api.Chart, i int) []int {
	var l []int
	for depth := c.States[i].Depth; i >= 0; i-- {
		if c.States[i].Depth == depth-1 {
			l, depth = append(l, i), depth-1
		}
	}
	return l
}

// saidKids answers i's children.
func saidKids(c api.Chart, i int) []int {
	var l []int
	for k := range c.States {
		if up := saidAbove(c, k); len(up) > 0 && up[0] == i {
			l = append(l, k)
		}
	}
	return l
}

// saidChild answers the child that is entered with i, an SOne.
func saidChild(c api.Chart, i int, targets []int) int {
	for _, k := range saidKids(c, i) {
		for _, to := range targets {
			if to == k || to >= 0 && to < len(c.States) && slices.Contains(saidAbove(c, to), k) {
				return k
			}
		}
	}
	return saidPlace(c, c.States[i].Initial)
}

func saidPlace(c api.Chart, name string) int {
	for i, s := range c.States {
		if s.Name == name {
			return i
		}
	}
	return -1
}

// saidDown answers what is entered from the state at i down to targets.
func saidDown(c api.Chart, i int, targets []int) []int {
	entered := []int{i}
	for k := range c.States {
		up := saidAbove(c, k)
		if len(up) == 0 || !slices.Contains(entered, up[0]) {
			continue
		}
		if c.States[up[0]].Kind == 3 || c.States[up[0]].Kind == 2 && saidChild(c, up[0], targets) == k {
			entered = append(entered, k)
		}
	}
	return entered
}

// saidLeaves answers those in l that are SBasic and SFinal.
func saidLeaves(c api.Chart, l []int) []int {
	var leaves []int
	for _, i := range l {
		if c.States[i].Kind == 1 || c.States[i].Kind == 4 {
			leaves = append(leaves, i)
		}
	}
	return leaves
}

func saidRight(c api.Chart, pasts []api.Past) bool {
	for n, p := range pasts {
		if p.State < 0 || p.State >= len(c.States) || n > 0 && p.State <= pasts[n-1].State {
			return false
		}
		for k := 1; k < len(p.Set); k++ {
			if p.Set[k] <= p.Set[k-1] {
				return false
			}
		}
		switch c.States[p.State].Kind {
		case 5:
			if len(p.Set) != 1 || !slices.Contains(saidKids(c, saidAbove(c, p.State)[0]), p.Set[0]) || c.States[p.Set[0]].Kind > 4 {
				return false
			}
		case 6:
			if !slices.Equal(p.Set, saidLeaves(c, saidDown(c, saidAbove(c, p.State)[0], p.Set))) {
				return false
			}
		default:
			return false
		}
	}
	return true
}

func saidEnter(c api.Chart, t int, pasts []api.Past) []int {
	if t < 0 || t >= len(c.Trans) || c.Trans[t].To == "" {
		return nil
	}
	from, to := c.Trans[t].From, saidPlace(c, c.Trans[t].To)
	targets := []int{to}
	if c.States[to].Kind > 4 {
		targets = []int{saidPlace(c, c.States[to].Initial)}
		for _, p := range pasts {
			if p.State == to {
				targets = p.Set
			}
		}
	}
	for _, domain := range append([]int{from}, saidAbove(c, from)...) {
		if c.States[domain].Kind == 2 && slices.Contains(saidAbove(c, to), domain) {
			return saidDown(c, domain, targets)[1:]
		}
	}
	panic("there is no domain")
}

func saidRecord(c api.Chart, l, left []int, pasts []api.Past) []api.Past {
	sets := map[int][]int{}
	for _, p := range pasts {
		sets[p.State] = p.Set
	}
	for i, s := range c.States {
		if s.Kind != 5 && s.Kind != 6 {
			continue
		}
		parent := saidAbove(c, i)[0]
		if !slices.Contains(left, parent) || !slices.Contains(l, parent) {
			continue
		}
		sets[i] = nil
		for _, k := range l {
			up := saidAbove(c, k)
			if s.Kind == 5 && len(up) > 0 && up[0] == parent {
				sets[i] = append(sets[i], k)
			}
			if s.Kind == 6 && slices.Contains(up, parent) && (c.States[k].Kind == 1 || c.States[k].Kind == 4) {
				sets[i] = append(sets[i], k)
			}
		}
	}
	var now []api.Past
	for i := range c.States {
		if set, ok := sets[i]; ok {
			now = append(now, api.Past{State: i, Set: set})
		}
	}
	return now
}

// same tells whether both lists remember the same.
func same(a, b []api.Past) bool {
	return slices.EqualFunc(a, b, func(p, q api.Past) bool { return p.State == q.State && slices.Equal(p.Set, q.Set) })
}

// wantSaid holds what is answered against what the document says.
func wantSaid(t *testing.T, c api.Chart, l, left []int, pasts []api.Past) {
	t.Helper()
	right := saidRight(c, pasts)
	if got := Right(c, pasts); got != right {
		t.Errorf("%s: Right of %v: %v", told(c), pasts, got)
	}
	for i := -1; i <= len(c.Trans); i++ {
		var want []int
		if right {
			want = saidEnter(c, i, pasts)
		}
		if got := Enter(c, i, pasts); !slices.Equal(got, want) {
			t.Errorf("%s: Enter of %d by %v: %v, not %v", told(c), i, pasts, got, want)
		}
	}
	var want []api.Past
	if right && conf.Legal(c, l) {
		want = saidRecord(c, l, left, pasts)
	}
	if got := Record(c, l, left, pasts); !same(got, want) {
		t.Errorf("%s: Record of %v, left %v, by %v: %v, not %v", told(c), l, left, pasts, got, want)
	}
}

// wantLegal asks, by what the program itself answers, that each transition
// that may be taken in l leads to a legal configuration.
func wantLegal(t *testing.T, c api.Chart, l []int, pasts []api.Past) {
	t.Helper()
	for n, v := range c.Trans {
		if slices.Contains(l, v.From) {
			if next := after(c, l, n, pasts); !conf.Legal(c, next) {
				t.Errorf("%s: by %d and %v from %v to %v, which isn't legal", told(c), n, pasts, l, next)
			}
		}
	}
}

// after answers l without what the transition at n leaves, with what it enters.
func after(c api.Chart, l []int, n int, pasts []api.Past) []int {
	left := pick.Leaves(c, l, n)
	next := slices.DeleteFunc(slices.Clone(l), func(i int) bool { return slices.Contains(left, i) })
	next = append(next, Enter(c, n, pasts)...)
	slices.Sort(next)
	return next
}

// wantBack asks that what is active within a deep history's parent is entered
// again, if all of it is left and the history is entered at once; it answers
// how many were asked.
func wantBack(t *testing.T, c api.Chart, l []int, pasts []api.Past) int {
	t.Helper()
	asked := 0
	now := Record(c, l, l, pasts)
	for n, v := range c.Trans {
		to := saidPlace(c, v.To)
		if to == -1 || c.States[to].Kind != api.SDeep {
			continue
		}
		parent := tree.Parent(c.States, to)
		within := func(i int) bool { return tree.Within(c.States, parent, i) }
		if !slices.Contains(l, parent) {
			continue
		}
		asked++
		got, was := only(Enter(c, n, now), within), only(l, within)
		if !slices.Equal(got, was) {
			t.Errorf("%s: by %d %v is entered, where %v was", told(c), n, got, was)
		}
	}
	return asked
}

// only answers those of l that are so.
func only(l []int, so func(int) bool) []int {
	return slices.DeleteFunc(slices.Clone(l), func(i int) bool { return !so(i) })
}

// told answers a short text of a chart: of each state the kind's letter (o is
// SOne, p is SBoth, h is SShallow), the depth, the name, and what it begins
// with; of each transition from>to.
func told(c api.Chart) string {
	s := c.Name
	for _, v := range c.States {
		kind := "?"
		if v.Kind >= 1 && v.Kind <= 6 {
			kind = "?bopfhd"[v.Kind : v.Kind+1]
		}
		s += " " + kind + strconv.Itoa(v.Depth) + v.Name
		if v.Initial != "" {
			s += ":" + v.Initial
		}
	}
	for _, v := range c.Trans {
		s += " " + strconv.Itoa(v.From) + ">" + v.To
	}
	return s
}

// chance answers numbers that are the same each time.
type chance uint32

// below answers one from 0 to n - 1.
func (g *chance) below(n int) int {
	*g = *g*1664525 + 1013904223
	return int(*g>>8) % n
}

// one tells whether it is the one time of n.
func (g *chance) one(n int) bool { return g.below(n) == 0 }

// grow puts a state of that kind, with what is to be within it, behind l.
func (g *chance) grow(l []api.State, kind, depth int) []api.State {
	l = append(l, api.State{Name: "s" + strconv.Itoa(len(l)), Kind: kind, Depth: depth})
	if kind != api.SOne && kind != api.SBoth {
		return l
	}
	for n := 1 + g.below(3); n > 0; n-- {
		if kind == api.SOne && g.one(4) {
			l = g.grow(l, api.SShallow+g.below(2), depth+1)
		}
		l = g.grow(l, g.kind(kind, depth+1), depth+1)
	}
	for kind == api.SOne && g.one(3) {
		l = g.grow(l, api.SShallow+g.below(2), depth+1)
	}
	return l
}

// kind answers of which kind a child at that depth is, of an SOne or an SBoth.
func (g *chance) kind(of, depth int) int {
	switch {
	case depth < api.MaxDepth-1 && !g.one(3):
		return api.SOne + g.below(2)
	case of == api.SOne && g.one(3):
		return api.SFinal
	}
	return api.SBasic
}

// chart answers a valid chart of some n states at least, without transitions.
func (g *chance) chart(n int) api.Chart {
	c := api.Chart{Name: "c", Events: []string{"go"}}
	for regions := 0; len(c.States) < n && regions < api.MaxRegions; regions++ {
		for {
			l := g.grow(slices.Clip(c.States), api.SOne, 0)
			if len(l) <= api.MaxStates {
				c.States = l
				break
			}
		}
	}
	for i, s := range c.States {
		if may := g.begins(c, i); s.Kind == api.SOne || s.Kind > api.SFinal {
			c.States[i].Initial = c.States[may[g.below(len(may))]].Name
		}
	}
	return c
}

// begins answers what the state at i may begin with.
func (g *chance) begins(c api.Chart, i int) []int {
	at := i
	if c.States[i].Kind > api.SFinal {
		at = saidAbove(c, i)[0]
	}
	var may []int
	for k, s := range c.States {
		up := saidAbove(c, k)
		if s.Kind <= api.SFinal && slices.Contains(up, at) && (c.States[i].Kind == api.SDeep || up[0] == at) {
			may = append(may, k)
		}
	}
	return may
}

// trans puts some n transitions to c, of states that may have one in their
// order; many of them lead to histories.
func (g *chance) trans(c *api.Chart, n int) {
	c.Trans = nil
	var from []int
	for range n {
		if i := g.below(len(c.States)); c.States[i].Kind <= api.SBoth {
			from = append(from, i)
		}
	}
	slices.Sort(from)
	for _, i := range from {
		v := api.Trans{From: i, Event: "go"}
		if to := g.targets(*c, i); !g.one(9) && len(to) > 0 {
			v.To = to[g.below(len(to))]
		}
		c.Trans = append(c.Trans, v)
	}
}

// targets answers where a transition from i may lead: sometimes just the
// histories, sometimes all.
func (g *chance) targets(c api.Chart, i int) []string {
	just := g.one(2)
	var to []string
	for k, s := range c.States {
		up := saidAbove(c, k)
		if len(up) == 0 || !slices.Contains(append(saidAbove(c, i), i), up[len(up)-1]) {
			continue
		}
		if !just || s.Kind > api.SFinal {
			to = append(to, s.Name)
		}
	}
	return to
}

// legal answers one of c's legal configurations.
func (g *chance) legal(c api.Chart) []int {
	var l []int
	for i, s := range c.States {
		if s.Depth == 0 {
			l = append(l, g.within(c, i)...)
		}
	}
	return l
}

// within answers i with what may be active within it.
func (g *chance) within(c api.Chart, i int) []int {
	l := []int{i}
	kids := slices.DeleteFunc(saidKids(c, i), func(k int) bool { return c.States[k].Kind > api.SFinal })
	if c.States[i].Kind == api.SOne {
		at := g.below(len(kids))
		kids = kids[at : at+1]
	}
	for _, k := range kids {
		l = append(l, g.within(c, k)...)
	}
	return l
}

// pasts answers what c's histories may remember, of each second one.
func (g *chance) pasts(c api.Chart) []api.Past {
	var pasts []api.Past
	for i, s := range c.States {
		if s.Kind <= api.SFinal || g.one(2) {
			continue
		}
		l := g.within(c, saidAbove(c, i)[0])
		p := api.Past{State: i, Set: l[1:2]}
		if s.Kind == api.SDeep {
			p.Set = saidLeaves(c, l)
		}
		pasts = append(pasts, p)
	}
	return pasts
}

// spoilt answers pasts with one thing changed, which may make it wrong.
func (g *chance) spoilt(c api.Chart, pasts []api.Past) []api.Past {
	var l []api.Past
	for _, p := range pasts {
		l = append(l, api.Past{State: p.State, Set: slices.Clone(p.Set)})
	}
	if len(l) == 0 {
		return []api.Past{{State: g.below(len(c.States)), Set: []int{g.below(len(c.States))}}}
	}
	n := g.below(len(l))
	p := &l[n]
	at, place := g.below(len(p.Set)), g.below(len(c.States)+2)-1
	switch g.below(7) {
	case 0:
		p.Set[at] = place
	case 1:
		p.Set = slices.Delete(p.Set, at, at+1)
	case 2:
		p.Set = slices.Insert(p.Set, at, place)
	case 3:
		p.State = place
	case 4:
		slices.Reverse(p.Set)
	case 5:
		l = slices.Insert(l, n, *p)
	case 6:
		slices.Reverse(l)
	}
	return l
}

// some answers each second of c's places or so, in no order, some of them
// twice and some beyond.
func (g *chance) some(c api.Chart) []int {
	var l []int
	for range g.below(2 * len(c.States)) {
		l = append(l, g.below(len(c.States)+2)-1)
	}
	return l
}

// P12.1, P12.2, P12.3, P12.4: charts of many kinds, by some configurations and
// lists of what is remembered of each.
func TestManyCharts(t *testing.T) {
	g := chance(11)
	wrong, back, most, full := 0, 0, 0, 0
	for round := range 400 {
		c := g.chart(3 + round%36)
		g.trans(&c, 1+g.below(api.MaxTrans))
		if e := valid.Check(c); e != api.OK {
			t.Fatal(told(c), e)
		}
		for range 3 {
			l, pasts := g.legal(c), g.pasts(c)
			if !Right(c, pasts) || !conf.Legal(c, l) {
				t.Fatal(told(c), l, pasts)
			}
			wantSaid(t, c, l, g.some(c), pasts)
			wantLegal(t, c, l, pasts)
			back += wantBack(t, c, l, pasts)
			most = max(most, len(pasts))
			if now := Record(c, l, g.some(c), pasts); !Right(c, now) {
				t.Errorf("%s: %v of %v is recorded, which isn't right", told(c), now, l)
			}
			spoilt := g.spoilt(c, pasts)
			wantSaid(t, c, l, l, spoilt)
			if !saidRight(c, spoilt) {
				wrong++
			}
		}
		if len(c.States) > 30 {
			full++
		}
	}
	if wrong < 600 || back < 1000 || most < 6 || full < 60 {
		t.Error("too few", wrong, back, most, full)
	}
}

// P12.4: from configuration to configuration, each one's histories remembered
// ahead of the next one.
func TestManySteps(t *testing.T) {
	g := chance(5)
	steps, remembered := 0, 0
	for round := range 100 {
		c := g.chart(6 + round%30)
		g.trans(&c, api.MaxTrans)
		l, pasts := conf.Start(c), []api.Past(nil)
		for range 12 {
			var from []int
			for n, v := range c.Trans {
				if slices.Contains(l, v.From) {
					from = append(from, n)
				}
			}
			if len(from) == 0 {
				break
			}
			n := from[g.below(len(from))]
			left := pick.Leaves(c, l, n)
			wantSaid(t, c, l, left, pasts)
			pasts = Record(c, l, left, pasts)
			l = after(c, l, n, pasts)
			if !conf.Legal(c, l) || !Right(c, pasts) {
				t.Fatalf("%s: by %d to %v, %v", told(c), n, l, pasts)
			}
			steps, remembered = steps+1, remembered+len(pasts)
		}
	}
	if steps < 800 || remembered < 800 {
		t.Error("too few", steps, remembered)
	}
}
