package run

import (
	"slices"
	"strconv"
	"testing"

	"quintain/acts"
	"quintain/api"
	"quintain/expr"
	"quintain/micro"
	"quintain/pick"
	"quintain/valid"
)

// What follows says again what the document says, word by word. Layers below are
// asked by what they answer; that there are transitions by no event is asked
// otherwise: one that may be taken is wanted by a leaf, and of what is wanted
// one at least is kept.

// next is what is behind a step, if there is one.
type next struct {
	m       api.Machine
	sent    []string
	taken   bool
	stepped bool
}

func saidNext(c api.Chart, m api.Machine, fuel int, has bool, event string) next {
	if valid.Check(c) != api.OK || !micro.Right(c, m) || m.Steps == 1099511627776 {
		return next{}
	}
	if fuel <= 0 || fuel > 32 || has && slices.Index(c.Events, event) == -1 {
		return next{}
	}
	n := next{m: m}
	free := len(pick.May(c, m.Conf, m.Vals, "")) > 0
	if m.Status == 1 || m.Status == 2 || !free && len(m.Queue) == 0 && !has {
		return n
	}
	n.stepped = true
	if n.taken = !free && len(m.Queue) == 0; n.taken {
		n.m.Fuel = 0
	} else if m.Fuel >= fuel {
		n.m.Status, n.m.Steps = 2, m.Steps+1
		return n
	}
	if !free && !n.taken {
		event, n.m.Queue = m.Queue[0], slices.Clone(m.Queue[1:])
	}
	if free {
		event = ""
	}
	n.m, n.sent, _ = micro.Step(c, n.m, event)
	n.m.Steps, n.m.Fuel = n.m.Steps+1, n.m.Fuel+1
	return n
}

// saidRun answers what c has come to behind no step, behind one, and so on, up to
// the last one; what is told of one is what was sent by then, and how many events
// were taken. There is nothing, if it may not be.
func saidRun(c api.Chart, log []string, fuel int) (ms []api.Machine, sents [][]string, ns []int) {
	if valid.Check(c) != api.OK || len(log) > 200 || fuel <= 0 || fuel > 32 {
		return nil, nil, nil
	}
	for _, event := range log {
		if slices.Index(c.Events, event) == -1 {
			return nil, nil, nil
		}
	}
	m, sent := micro.Start(c)
	for n := 0; ; {
		ms, sents, ns = append(ms, m), append(sents, slices.Clone(sent)), append(ns, n)
		var then next
		if n < len(log) {
			then = saidNext(c, m, fuel, true, log[n])
		} else {
			then = saidNext(c, m, fuel, false, "")
		}
		if !then.stepped {
			return ms, sents, ns
		}
		if then.taken {
			n++
		}
		m, sent = then.m, slices.Concat(sent, then.sent)
	}
}

// same tells whether two machines are: nil and empty lists are one.
func same(a, b api.Machine) bool {
	pasts := slices.EqualFunc(a.Pasts, b.Pasts, func(p, q api.Past) bool { return p.State == q.State && slices.Equal(p.Set, q.Set) })
	lists := slices.Equal(a.Conf, b.Conf) && slices.Equal(a.Vals, b.Vals) && slices.Equal(a.Queue, b.Queue)
	return pasts && lists && a.Steps == b.Steps && a.Fuel == b.Fuel && a.Status == b.Status && a.Lost == b.Lost
}

// wantSaidNext holds a step against what the document says.
func wantSaidNext(t *testing.T, c api.Chart, m api.Machine, fuel int, has bool, event string) {
	t.Helper()
	n, sent, taken, stepped := Next(c, m, fuel, has, event)
	want := saidNext(c, m, fuel, has, event)
	if !same(n, want.m) || !slices.Equal(sent, want.sent) || taken != want.taken || stepped != want.stepped {
		t.Errorf("%s: fuel %d, from %v by %v %.40q\n%v, %v, %v, %v, not\n%v", told(c), fuel, m, has, event, n, sent, taken, stepped, want)
	}
	if len(n.Conf) > 0 && !micro.Right(c, n) {
		t.Errorf("%s: fuel %d, from %v by %v %.40q to %v, which isn't right", told(c), fuel, m, has, event, n)
	}
}

// wantSaidAt holds a run, and what it is behind k steps, against what the
// document says.
func wantSaidAt(t *testing.T, c api.Chart, log []string, fuel, k int) {
	t.Helper()
	ms, sents, ns := saidRun(c, log, fuel)
	hold := func(what string, k int, m api.Machine, sent []string, n int) {
		if k < 0 || len(ms) == 0 {
			if !same(m, api.Machine{}) || len(sent) > 0 || n != 0 {
				t.Errorf("%s: %s, log %.99q, fuel %d, k %d: %v, %v, %v", told(c), what, log, fuel, k, m, sent, n)
			}
			return
		}
		k = min(k, len(ms)-1)
		if !same(m, ms[k]) || !slices.Equal(sent, sents[k]) || n != ns[k] {
			t.Errorf("%s: %s, log %.99q, fuel %d, k %d:\n%s, %v, %v, not\n%s, %v, %v", told(c), what, log, fuel, k, shown(c, m), sent, n, shown(c, ms[k]), sents[k], ns[k])
		}
	}
	m, sent, n := At(c, log, fuel, k)
	hold("at", k, m, sent, n)
	m, sent, n = Run(c, log, fuel)
	hold("run", max(0, len(ms)-1), m, sent, n)
}

// told answers a short text of a chart: of each state the kind's letter (o is
// SOne, p is SBoth, h is SShallow), the depth, the name, and what it begins
// with; of each transition from>to.
func told(c api.Chart) string {
	s := c.Name
	for _, v := range c.States {
		kind := "?"
		if v.Kind >= 1 && v.Kind <= 6 {
			kind = "?bopfhd"[v.Kind : v.Kind+1]
		}
		s += " " + kind + strconv.Itoa(v.Depth) + v.Name
		if v.Initial != "" {
			s += ":" + v.Initial
		}
	}
	for _, v := range c.Trans[:min(len(c.Trans), 48)] {
		s += " " + strconv.Itoa(v.From) + "-" + v.Event + ">" + v.To
	}
	return s
}

// chance answers numbers that are the same each time.
type chance uint32

// below answers one from 0 to n - 1.
func (g *chance) below(n int) int {
	*g = *g*1664525 + 1013904223
	return int(*g>>8) % n
}

// one tells whether it is the one time of n.
func (g *chance) one(n int) bool { return g.below(n) == 0 }

// pickOf answers one of l.
func pickOf[T any](g *chance, l ...T) T { return l[g.below(len(l))] }

// grow puts a state of that kind, with what is to be within it, behind l.
func (g *chance) grow(l []api.State, kind, depth int) []api.State {
	l = append(l, api.State{Name: "s" + strconv.Itoa(len(l)), Kind: kind, Depth: depth})
	if kind != api.SOne && kind != api.SBoth {
		return l
	}
	for n := 1 + g.below(3); n > 0; n-- {
		if kind == api.SOne && g.one(6) {
			l = g.grow(l, api.SShallow+g.below(2), depth+1)
		}
		l = g.grow(l, g.kind(kind, depth+1), depth+1)
	}
	for kind == api.SOne && g.one(5) {
		l = g.grow(l, api.SShallow+g.below(2), depth+1)
	}
	return l
}

// kind answers of which kind a child at that depth is, of an SOne or an SBoth;
// there are many SFinal ones, so that much is over.
func (g *chance) kind(of, depth int) int {
	switch {
	case of == api.SBoth && depth < api.MaxDepth-1:
		return pickOf(g, api.SOne, api.SOne, api.SOne, api.SBoth, api.SBoth, api.SBasic)
	case of == api.SBoth:
		return api.SBasic
	case depth < api.MaxDepth-2 && g.one(3):
		return pickOf(g, api.SOne, api.SBoth, api.SBoth)
	}
	return pickOf(g, api.SFinal, api.SFinal, api.SBasic)
}

// chart answers a valid chart of some n states at least, without transitions.
func (g *chance) chart(n int) api.Chart {
	c := api.Chart{Name: "c", Events: []string{"go", "up"}, Vars: []api.Var{
		{Name: "x", Kind: api.KInt, Lo: -5, Hi: 9999, Init: api.Value{Kind: api.KInt}},
		{Name: "b", Kind: api.KBool, Hi: 1, Init: api.Value{Kind: api.KBool}},
		{Name: "p", Kind: api.KPoint, Lo: -50, Hi: 50, Init: api.Value{Kind: api.KPoint, A: 1}},
	}}
	for regions := 0; len(c.States) < n && regions < api.MaxRegions; regions++ {
		for {
			l := g.grow(slices.Clip(c.States), api.SOne, 0)
			if len(l) <= api.MaxStates {
				c.States = l
				break
			}
		}
	}
	for i, s := range c.States {
		if may := g.begins(c, i); s.Kind == api.SOne || s.Kind > api.SFinal {
			c.States[i].Initial = c.States[may[g.below(len(may))]].Name
		}
		if s.Kind <= api.SFinal {
			c.States[i].Entry = g.block()
		}
		if s.Kind <= api.SBoth {
			c.States[i].Exit = g.block()
		}
	}
	return c
}

// block answers one that may be; many are empty, some fail.
func (g *chance) block() []api.Action {
	if g.one(2) {
		return nil
	}
	l, e := acts.Parse(pickOf(g, "x=x+1", "x=x*10+1;send:go", "x=x*3%1000;raise:up", "send:up;raise:go", "b=!b", "b=x%2=0;send:go", "p=p*1i", "p=p+p;raise:up", "x=re(p)", "x=-6;raise:go", "raise:go;x=1/0;send:up", "raise:go;raise:up;raise:go"))
	if e != api.OK {
		panic("no block")
	}
	return l
}

// saidAbove answers i's parent, that one's parent, and so on.
func saidAbove(c api.Chart, i int) []int {
	var l []int
	for depth := c.States[i].Depth; i >= 0; i-- {
		if c.States[i].Depth == depth-1 {
			l, depth = append(l, i), depth-1
		}
	}
	return l
}

// begins answers what the state at i may begin with.
func (g *chance) begins(c api.Chart, i int) []int {
	at := i
	if c.States[i].Kind > api.SFinal {
		at = saidAbove(c, i)[0]
	}
	var may []int
	for k, s := range c.States {
		up := saidAbove(c, k)
		if s.Kind <= api.SFinal && slices.Contains(up, at) && (c.States[i].Kind == api.SDeep || up[0] == at) {
			may = append(may, k)
		}
	}
	return may
}

// trans puts some n transitions to c, of states that may have one in their
// order.
func (g *chance) trans(c *api.Chart, n int) {
	var from []int
	for range n {
		if i := g.below(len(c.States)); c.States[i].Kind <= api.SBoth {
			from = append(from, i)
		}
	}
	slices.Sort(from)
	for _, i := range from {
		v := api.Trans{From: i, Event: pickOf(g, "go", "go", "go", "up", "", "error", "done."+c.States[0].Name), Acts: g.block()}
		if to := g.targets(*c, i); !g.one(9) && len(to) > 0 {
			v.To = to[g.below(len(to))]
		}
		if g.one(4) {
			v.Guard, _, _ = expr.Parse(pickOf(g, "x<5", "b", "!b", "in("+c.States[i].Initial+")", "!in(s"+strconv.Itoa(i)+")", "re(p)>im(p)", "x/x=1"))
		}
		c.Trans = append(c.Trans, v)
	}
}

// targets answers where a transition from i may lead: sometimes just finals
// and histories, sometimes all that stands near.
func (g *chance) targets(c api.Chart, i int) []string {
	just := g.one(3)
	above := append(saidAbove(c, i), i)
	var near []string
	for k, s := range c.States {
		up := saidAbove(c, k)
		if len(up) == 0 || !slices.Contains(above, up[len(up)-1]) {
			continue
		}
		if g.one(8) || slices.Contains(above[max(0, len(above)-2):], up[0]) || slices.Contains(above[:1], up[0]) {
			if !just || s.Kind > api.SBoth {
				near = append(near, s.Name)
			}
		}
	}
	return near
}

// machine answers one of c's right machines.
func (g *chance) machine(c api.Chart) api.Machine {
	m := api.Machine{Steps: g.count(), Fuel: g.count(), Lost: g.count(), Status: pickOf(g, 0, 0, 0, 1, 2)}
	for i, s := range c.States {
		if s.Depth == 0 {
			m.Conf = append(m.Conf, g.within(c, i)...)
		}
		if s.Kind > api.SFinal && !g.one(2) {
			l := g.within(c, saidAbove(c, i)[0])
			p := api.Past{State: i, Set: l[1:2]}
			if s.Kind == api.SDeep {
				p.Set = slices.DeleteFunc(l, func(k int) bool { return c.States[k].Kind == api.SOne || c.States[k].Kind == api.SBoth })
			}
			m.Pasts = append(m.Pasts, p)
		}
	}
	m.Vals = []api.Value{{Kind: api.KInt, A: int64(g.below(10005)) - 5}, {Kind: api.KBool, A: int64(g.below(2))}, {Kind: api.KPoint, A: int64(g.below(101)) - 50, B: int64(g.below(101)) - 50}}
	if g.one(2) {
		m.Vals[0].A %= 7
	}
	for range pickOf(g, 0, 0, 0, 0, 1, 2, 16) {
		m.Queue = append(m.Queue, pickOf(g, "go", "up", "error", "done."+c.States[0].Name))
	}
	return m
}

// count answers what may be counted.
func (g *chance) count() int { return pickOf(g, 0, 0, 1, 7, 7, 8, 1<<40-1, 1<<40) }

// within answers i with what may be active within it.
func (g *chance) within(c api.Chart, i int) []int {
	l := []int{i}
	var kids []int
	for k, s := range c.States {
		if up := saidAbove(c, k); len(up) > 0 && up[0] == i && s.Kind <= api.SFinal {
			kids = append(kids, k)
		}
	}
	if c.States[i].Kind == api.SOne {
		at := g.below(len(kids))
		kids = kids[at : at+1]
	}
	for _, k := range kids {
		l = append(l, g.within(c, k)...)
	}
	return l
}

// log answers one of at most n events.
func (g *chance) log(n int) []string {
	var l []string
	for range g.below(n + 1) {
		l = append(l, pickOf(g, "go", "go", "up"))
	}
	return l
}

// P14.1: machines and charts of many kinds.
func TestManyNexts(t *testing.T) {
	g := chance(5)
	by := map[string]int{}
	for round := range 80 {
		c := g.chart(3 + round%30)
		g.trans(&c, 1+g.below(api.MaxTrans))
		for range 4 {
			m, fuel := g.machine(c), pickOf(&g, 1, 2, 7, 8, 9, 32, 32)
			for _, event := range []string{"go", "up", "", "nothing"} {
				for _, has := range []bool{false, true} {
					wantSaidNext(t, c, m, fuel, has, event)
					switch n, _, taken, stepped := Next(c, m, fuel, has, event); {
					case len(n.Conf) == 0:
						by["nothing"]++
					case taken:
						by["outside"]++
					case !stepped:
						by["none"]++
					case n.Status == api.Diverged:
						by["diverged"]++
					default:
						by["within"]++
					}
				}
			}
		}
	}
	for _, what := range []string{"nothing", "outside", "none", "diverged", "within"} {
		if by[what] < 60 {
			t.Error("too few", by)
		}
	}
}

// P14.2, P14.3: runs of many kinds: behind each number of steps; how many there
// are; and what a longer log, and more steps, have of them.
func TestManyRuns(t *testing.T) {
	g := chance(7)
	diverged, done, long := 0, 0, 0
	for round := range 70 {
		c := g.chart(3 + round%12)
		g.trans(&c, 1+g.below(24))
		if e := valid.Check(c); e != api.OK {
			t.Fatal(told(c), e)
		}
		log, fuel := g.log(9), pickOf(&g, 1, 2, 3, 5, 9, 32)
		ms, sents, ns := saidRun(c, log, fuel)
		last := len(ms) - 1
		wantSaidAt(t, c, log, fuel, last)
		for range 4 {
			wantSaidAt(t, c, log, fuel, g.below(last+3))
		}
		wantFew(t, c, ms, ns, fuel)
		shorter := log[:g.below(len(log)+1)]
		wantBegins(t, c, shorter, log, fuel, sents)
		if last > 20 {
			long++
		}
		switch ms[last].Status {
		case api.Diverged:
			diverged++
		case api.Done:
			done++
		}
	}
	if diverged < 12 || done < 6 || long < 2 {
		t.Error("too few", diverged, done, long)
	}
}

// wantFew asks that a run has at most fuel + 1 steps for each event, and as many
// ahead of the first.
func wantFew(t *testing.T, c api.Chart, ms []api.Machine, ns []int, fuel int) {
	t.Helper()
	steps := map[int]int{}
	for k, n := range ns {
		if ms[k].Steps != k || ms[k].Fuel > fuel || k < len(ms)-1 && ms[k].Status != api.Running {
			t.Errorf("%s: behind %d steps: %s", told(c), k, shown(c, ms[k]))
		}
		if k == 0 {
			continue
		}
		if steps[n]++; steps[n] > fuel+1 {
			t.Errorf("%s: fuel %d, but event %d has more steps", told(c), fuel, n)
		}
	}
}

// wantBegins asks that a longer log changes nothing of the steps of a shorter
// one, and that what is sent by fewer steps begins what is sent by more.
func wantBegins(t *testing.T, c api.Chart, shorter, longer []string, fuel int, sents [][]string) {
	t.Helper()
	end, all, _ := Run(c, shorter, fuel)
	for k := 0; k <= end.Steps; k++ {
		m, sent, n := At(c, shorter, fuel, k)
		other, otherSent, otherN := At(c, longer, fuel, k)
		if !same(m, other) || !slices.Equal(sent, otherSent) || n != otherN {
			t.Errorf("%s: logs %q and %q, fuel %d, behind %d steps: %s and %s", told(c), shorter, longer, fuel, k, shown(c, m), shown(c, other))
		}
		if len(sent) > len(all) || !slices.Equal(sent, all[:len(sent)]) {
			t.Errorf("%s: behind %d steps %q was sent, and %q at last", told(c), k, sent, all)
		}
	}
	for k := 1; k < len(sents); k++ {
		if n := len(sents[k-1]); n > len(sents[k]) || !slices.Equal(sents[k-1], sents[k][:n]) {
			t.Errorf("%s: sent %q, and then %q", told(c), sents[k-1], sents[k])
		}
	}
	if m, sent, _ := At(c, shorter, fuel, end.Steps); !same(m, end) || !slices.Equal(sent, all) {
		t.Errorf("%s: behind all steps it isn't the run", told(c))
	}
}
