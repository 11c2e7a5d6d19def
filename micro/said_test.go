package micro

import (
	"reflect"
	"slices"
	"strconv"
	"testing"

	"quintain/acts"
	"quintain/api"
	"quintain/conf"
	"quintain/expr"
	"quintain/moves"
	"quintain/pick"
	"quintain/valid"
)

// What follows says again what the document says, word by word: what is active
// is a truth for each place, and what is over is told of all states at once,
// from the last one on. Layers below are asked by what they answer.

// saidAbove answers i's parent, that one's parent, and so on.
func saidAbove(c api.Chart, i int) []int {
	var l []int
	for depth := c.States[i].Depth; i >= 0; i-- {
		if c.States[i].Depth == depth-1 {
			l, depth = append(l, i), depth-1
		}
	}
	return l
}

func saidRight(c api.Chart, m api.Machine) bool {
	if valid.Check(c) != api.OK || !conf.Legal(c, m.Conf) || !moves.Right(c, m.Pasts) || len(m.Vals) != len(c.Vars) || len(m.Queue) > 16 {
		return false
	}
	for i, v := range c.Vars {
		val := m.Vals[i]
		if val.Kind != v.Kind || val.A < v.Lo || val.A > v.Hi || v.Kind != 3 && val.B != 0 || v.Kind == 3 && (val.B < v.Lo || val.B > v.Hi) {
			return false
		}
	}
	may := map[string]bool{"error": true}
	for _, name := range c.Events {
		may[name] = true
	}
	for _, s := range c.States {
		may["done."+s.Name] = s.Kind == 2 || s.Kind == 3
	}
	for _, name := range m.Queue {
		if !may[name] {
			return false
		}
	}
	for _, n := range []int{m.Steps, m.Fuel, m.Lost} {
		if n < 0 || n > 1099511627776 {
			return false
		}
	}
	return m.Status == 0 || m.Status == 1 || m.Status == 2
}

// said is a machine that something is done to.
type said struct {
	c      api.Chart
	active [40]bool
	m      api.Machine
	sent   []string
}

func (s *said) raise(name string) {
	if len(s.m.Queue) >= 16 {
		s.m.Lost = min(s.m.Lost+1, 1099511627776)
		return
	}
	s.m.Queue = append(s.m.Queue, name)
}

func (s *said) block(l []api.Action) {
	vals, raised, sent, _ := acts.Do(l, s.c.Vars, s.m.Vals)
	s.m.Vals = vals
	for _, name := range raised {
		s.raise(name)
	}
	s.sent = append(s.sent, sent...)
}

// over tells of each state whether it is over.
func (s *said) over() []bool {
	over := make([]bool, len(s.c.States))
	for i, v := range s.c.States {
		over[i] = v.Kind == 3 && s.active[i]
	}
	for k := len(s.c.States) - 1; k > 0; k-- {
		up := saidAbove(s.c, k)
		if len(up) == 0 {
			continue
		}
		switch s.c.States[up[0]].Kind {
		case 2:
			over[up[0]] = over[up[0]] || s.c.States[k].Kind == 4 && s.active[k]
		case 3:
			over[up[0]] = over[up[0]] && over[k]
		}
	}
	return over
}

func (s *said) enter(i int) {
	s.active[i] = true
	s.block(s.c.States[i].Entry)
	if s.c.States[i].Kind != 4 {
		return
	}
	up := saidAbove(s.c, i)
	s.raise("done." + s.c.States[up[0]].Name)
	for _, k := range up[1:] {
		if s.c.States[k].Kind != 3 || !s.over()[k] {
			return
		}
		s.raise("done." + s.c.States[k].Name)
	}
}

// end answers the machine at last.
func (s *said) end() api.Machine {
	s.m.Conf = nil
	ended := true
	for i, v := range s.c.States {
		if s.active[i] {
			s.m.Conf = append(s.m.Conf, i)
		}
		if v.Depth == 0 && !s.over()[i] {
			ended = false
		}
	}
	if ended && s.m.Status == 0 {
		s.m.Status = 1
	}
	return s.m
}

func saidStart(c api.Chart) (api.Machine, []string) {
	s := said{c: c}
	for _, v := range c.Vars {
		s.m.Vals = append(s.m.Vals, v.Init)
	}
	for _, i := range conf.Start(c) {
		s.enter(i)
	}
	return s.end(), s.sent
}

func saidStep(c api.Chart, m api.Machine, event string) (api.Machine, []string, []int) {
	s := said{c: c, m: m}
	s.m.Queue = slices.Clone(m.Queue)
	taken := pick.Of(c, m.Conf, m.Vals, event)
	var left, entered [40]bool
	var gone []int
	for _, t := range taken {
		for _, i := range pick.Leaves(c, m.Conf, t) {
			left[i], gone = true, append(gone, i)
		}
		for _, i := range moves.Enter(c, t, m.Pasts) {
			entered[i] = true
		}
	}
	s.m.Pasts = moves.Record(c, m.Conf, gone, m.Pasts)
	for i := len(c.States) - 1; i >= 0; i-- {
		if left[i] {
			s.block(c.States[i].Exit)
		}
	}
	for _, t := range taken {
		s.block(c.Trans[t].Acts)
	}
	for _, i := range m.Conf {
		s.active[i] = !left[i]
	}
	for i := range c.States {
		if entered[i] {
			s.enter(i)
		}
	}
	return s.end(), s.sent, taken
}

// same tells whether two machines are: nil and empty lists are one.
func same(a, b api.Machine) bool {
	pasts := slices.EqualFunc(a.Pasts, b.Pasts, func(p, q api.Past) bool { return p.State == q.State && slices.Equal(p.Set, q.Set) })
	lists := slices.Equal(a.Conf, b.Conf) && slices.Equal(a.Vals, b.Vals) && slices.Equal(a.Queue, b.Queue)
	return pasts && lists && a.Steps == b.Steps && a.Fuel == b.Fuel && a.Status == b.Status && a.Lost == b.Lost
}

func wantSaidStart(t *testing.T, c api.Chart) {
	t.Helper()
	m, sent := Start(c)
	want, wantSent := saidStart(c)
	if !same(m, want) || !slices.Equal(sent, wantSent) {
		t.Errorf("%s: started\n%s, %v, not\n%s, %v", told(c), shown(c, m), sent, shown(c, want), wantSent)
	}
}

// wantSaid holds a step, and whether it is of a right machine, against what the
// document says; P13.3 is asked of it, too.
func wantSaid(t *testing.T, c api.Chart, m api.Machine, event string) {
	t.Helper()
	right := saidRight(c, m)
	if got := Right(c, m); got != right {
		t.Errorf("%s: Right of %v: %v", told(c), m, got)
	}
	n, sent, taken := Step(c, m, event)
	if !right {
		if !reflect.DeepEqual(n, api.Machine{}) || sent != nil || taken != nil {
			t.Errorf("%s: of %v, which isn't right, %v, %v, %v", told(c), m, n, sent, taken)
		}
		return
	}
	want, wantSent, wantTaken := saidStep(c, m, event)
	if !same(n, want) || !slices.Equal(sent, wantSent) || !slices.Equal(taken, wantTaken) {
		t.Errorf("%s: from %s by %.40q\n%s, %v, %v, not\n%s, %v, %v", told(c), shown(c, m), event, shown(c, n), sent, taken, shown(c, want), wantSent, wantTaken)
	}
	if !saidRight(c, n) {
		t.Errorf("%s: from %s by %.40q to %s, which isn't right", told(c), shown(c, m), event, shown(c, n))
	}
	if len(taken) == 0 {
		if m.Status == api.Running && n.Status == api.Done {
			n.Status = api.Running
		}
		if !same(n, m) || len(sent) > 0 {
			t.Errorf("%s: %s isn't as it was: %s", told(c), shown(c, m), shown(c, n))
		}
	}
}

// told answers a short text of a chart: of each state the kind's letter (o is
// SOne, p is SBoth, h is SShallow), the depth, the name, and what it begins
// with; of each transition from>to.
func told(c api.Chart) string {
	s := c.Name
	for _, v := range c.States {
		kind := "?"
		if v.Kind >= 1 && v.Kind <= 6 {
			kind = "?bopfhd"[v.Kind : v.Kind+1]
		}
		s += " " + kind + strconv.Itoa(v.Depth) + v.Name
		if v.Initial != "" {
			s += ":" + v.Initial
		}
	}
	for _, v := range c.Trans[:min(len(c.Trans), 48)] {
		s += " " + strconv.Itoa(v.From) + "-" + v.Event + ">" + v.To
	}
	return s
}

// chance answers numbers that are the same each time.
type chance uint32

// below answers one from 0 to n - 1.
func (g *chance) below(n int) int {
	*g = *g*1664525 + 1013904223
	return int(*g>>8) % n
}

// one tells whether it is the one time of n.
func (g *chance) one(n int) bool { return g.below(n) == 0 }

// pickOf answers one of l.
func pickOf[T any](g *chance, l ...T) T { return l[g.below(len(l))] }

// grow puts a state of that kind, with what is to be within it, behind l.
func (g *chance) grow(l []api.State, kind, depth int) []api.State {
	l = append(l, api.State{Name: "s" + strconv.Itoa(len(l)), Kind: kind, Depth: depth})
	if kind != api.SOne && kind != api.SBoth {
		return l
	}
	for n := 1 + g.below(3); n > 0; n-- {
		if kind == api.SOne && g.one(6) {
			l = g.grow(l, api.SShallow+g.below(2), depth+1)
		}
		l = g.grow(l, g.kind(kind, depth+1), depth+1)
	}
	for kind == api.SOne && g.one(5) {
		l = g.grow(l, api.SShallow+g.below(2), depth+1)
	}
	return l
}

// kind answers of which kind a child at that depth is, of an SOne or an SBoth;
// there are many SFinal ones, so that much is over.
func (g *chance) kind(of, depth int) int {
	switch {
	case of == api.SBoth && depth < api.MaxDepth-1:
		return pickOf(g, api.SOne, api.SOne, api.SOne, api.SBoth, api.SBoth, api.SBasic)
	case of == api.SBoth:
		return api.SBasic
	case depth < api.MaxDepth-2 && g.one(3):
		return pickOf(g, api.SOne, api.SBoth, api.SBoth)
	}
	return pickOf(g, api.SFinal, api.SFinal, api.SBasic)
}

// chart answers a valid chart of some n states at least, without transitions.
func (g *chance) chart(n int) api.Chart {
	c := api.Chart{Name: "c", Events: []string{"go", "up"}, Vars: []api.Var{
		{Name: "x", Kind: api.KInt, Lo: -5, Hi: 9999, Init: api.Value{Kind: api.KInt}},
		{Name: "b", Kind: api.KBool, Hi: 1, Init: api.Value{Kind: api.KBool}},
		{Name: "p", Kind: api.KPoint, Lo: -50, Hi: 50, Init: api.Value{Kind: api.KPoint, A: 1}},
	}}
	for regions := 0; len(c.States) < n && regions < api.MaxRegions; regions++ {
		for {
			l := g.grow(slices.Clip(c.States), api.SOne, 0)
			if len(l) <= api.MaxStates {
				c.States = l
				break
			}
		}
	}
	for i, s := range c.States {
		if may := g.begins(c, i); s.Kind == api.SOne || s.Kind > api.SFinal {
			c.States[i].Initial = c.States[may[g.below(len(may))]].Name
		}
		if s.Kind <= api.SFinal {
			c.States[i].Entry = g.block()
		}
		if s.Kind <= api.SBoth {
			c.States[i].Exit = g.block()
		}
	}
	return c
}

// block answers one that may be; many are empty, some fail.
func (g *chance) block() []api.Action {
	if g.one(2) {
		return nil
	}
	l, e := acts.Parse(pickOf(g, "x=x+1", "x=x*10+1;send:go", "x=x*3%1000;raise:up", "send:up;raise:go", "b=!b", "b=x%2=0;send:go", "p=p*1i", "p=p+p;raise:up", "x=re(p)", "x=-6;raise:go", "raise:go;x=1/0;send:up", "raise:go;raise:up;raise:go"))
	if e != api.OK {
		panic("no block")
	}
	return l
}

// begins answers what the state at i may begin with.
func (g *chance) begins(c api.Chart, i int) []int {
	at := i
	if c.States[i].Kind > api.SFinal {
		at = saidAbove(c, i)[0]
	}
	var may []int
	for k, s := range c.States {
		up := saidAbove(c, k)
		if s.Kind <= api.SFinal && slices.Contains(up, at) && (c.States[i].Kind == api.SDeep || up[0] == at) {
			may = append(may, k)
		}
	}
	return may
}

// trans puts some n transitions to c, of states that may have one in their
// order.
func (g *chance) trans(c *api.Chart, n int) {
	var from []int
	for range n {
		if i := g.below(len(c.States)); c.States[i].Kind <= api.SBoth {
			from = append(from, i)
		}
	}
	slices.Sort(from)
	for _, i := range from {
		v := api.Trans{From: i, Event: pickOf(g, "go", "go", "go", "up", "", "error", "done."+c.States[0].Name), Acts: g.block()}
		if to := g.targets(*c, i); !g.one(9) && len(to) > 0 {
			v.To = to[g.below(len(to))]
		}
		if g.one(4) {
			v.Guard, _, _ = expr.Parse(pickOf(g, "x<5", "b", "!b", "in("+c.States[i].Initial+")", "!in(s"+strconv.Itoa(i)+")", "re(p)>im(p)", "x/x=1"))
		}
		c.Trans = append(c.Trans, v)
	}
}

// targets answers where a transition from i may lead: sometimes just finals
// and histories, sometimes all that stands near.
func (g *chance) targets(c api.Chart, i int) []string {
	just := g.one(3)
	above := append(saidAbove(c, i), i)
	var near []string
	for k, s := range c.States {
		up := saidAbove(c, k)
		if len(up) == 0 || !slices.Contains(above, up[len(up)-1]) {
			continue
		}
		if g.one(8) || slices.Contains(above[max(0, len(above)-2):], up[0]) || slices.Contains(above[:1], up[0]) {
			if !just || s.Kind > api.SBoth {
				near = append(near, s.Name)
			}
		}
	}
	return near
}

// machine answers one of c's right machines.
func (g *chance) machine(c api.Chart) api.Machine {
	m := api.Machine{Steps: g.count(), Fuel: g.count(), Lost: g.count(), Status: pickOf(g, 0, 0, 0, 1, 2)}
	for i, s := range c.States {
		if s.Depth == 0 {
			m.Conf = append(m.Conf, g.within(c, i)...)
		}
		if s.Kind > api.SFinal && !g.one(2) {
			l := g.within(c, saidAbove(c, i)[0])
			p := api.Past{State: i, Set: l[1:2]}
			if s.Kind == api.SDeep {
				p.Set = slices.DeleteFunc(l, func(k int) bool { return c.States[k].Kind == api.SOne || c.States[k].Kind == api.SBoth })
			}
			m.Pasts = append(m.Pasts, p)
		}
	}
	m.Vals = []api.Value{{Kind: api.KInt, A: int64(g.below(10005)) - 5}, {Kind: api.KBool, A: int64(g.below(2))}, {Kind: api.KPoint, A: int64(g.below(101)) - 50, B: int64(g.below(101)) - 50}}
	if g.one(2) {
		m.Vals[0].A %= 7
	}
	for range pickOf(g, 0, 1, 3, 12, 14, 15, 16) {
		m.Queue = append(m.Queue, pickOf(g, "go", "up", "error", "done."+c.States[0].Name))
	}
	return m
}

// count answers what may be counted.
func (g *chance) count() int { return pickOf(g, 0, 0, 1, 7, 1<<40-1, 1<<40) }

// within answers i with what may be active within it.
func (g *chance) within(c api.Chart, i int) []int {
	l := []int{i}
	var kids []int
	for k, s := range c.States {
		if up := saidAbove(c, k); len(up) > 0 && up[0] == i && s.Kind <= api.SFinal {
			kids = append(kids, k)
		}
	}
	if c.States[i].Kind == api.SOne {
		at := g.below(len(kids))
		kids = kids[at : at+1]
	}
	for _, k := range kids {
		l = append(l, g.within(c, k)...)
	}
	return l
}

// spoilt answers m with one thing changed, which may make it wrong.
func (g *chance) spoilt(c api.Chart, m api.Machine) api.Machine {
	m.Conf, m.Vals, m.Queue = slices.Clone(m.Conf), slices.Clone(m.Vals), slices.Clone(m.Queue)
	at := g.below(len(m.Conf))
	switch g.below(10) {
	case 0:
		m.Conf[at] = g.below(len(c.States)+2) - 1
	case 1:
		m.Conf = slices.Delete(m.Conf, at, at+1)
	case 2:
		m.Vals[g.below(3)].A = int64(pickOf(g, -51, -50, -6, -5, -1, 0, 1, 2, 50, 51, 9999, 10000))
	case 3:
		m.Vals[g.below(3)].B = int64(pickOf(g, -51, -50, 0, 1, 50, 51))
	case 4:
		m.Vals[g.below(3)].Kind = g.below(5)
	case 5:
		m.Vals = m.Vals[:g.below(4)]
	case 6:
		m.Queue = append(m.Queue, pickOf(g, "go", "error", "", "x", "c", "in", "done", "done.c", "done."+c.States[g.below(len(c.States))].Name))
	case 7:
		*pickOf(g, &m.Steps, &m.Fuel, &m.Lost) = pickOf(g, -1, 0, 1<<40, 1<<40+1)
	case 8:
		m.Status = g.below(5) - 1
	case 9:
		m.Pasts = append(slices.Clip(m.Pasts), api.Past{State: g.below(len(c.States)), Set: []int{g.below(len(c.States))}})
	}
	return m
}

// events are what steps are by.
func events(c api.Chart) []string {
	return []string{"go", "up", "", "error", "done." + c.States[0].Name, "nothing"}
}

// P13.1, P13.2, P13.3: charts of many kinds, by some machines of each.
func TestManyCharts(t *testing.T) {
	g := chance(3)
	wrong, several, ended, over, lost := 0, 0, 0, 0, 0
	for round := range 120 {
		c := g.chart(3 + round%36)
		g.trans(&c, 1+g.below(api.MaxTrans))
		if e := valid.Check(c); e != api.OK {
			t.Fatal(told(c), e)
		}
		wantSaidStart(t, c)
		for range 3 {
			m := g.machine(c)
			if !Right(c, m) {
				t.Fatal(told(c), m)
			}
			for _, event := range events(c) {
				wantSaid(t, c, m, event)
				n, _, taken := Step(c, m, event)
				if len(taken) > 1 {
					several++
				}
				if n.Status == api.Done && m.Status == api.Running {
					ended++
				}
				if n.Lost > m.Lost {
					lost++
				}
				if len(n.Queue) > 0 && slices.ContainsFunc(c.States, func(s api.State) bool { return s.Kind == api.SBoth && "done."+s.Name == n.Queue[len(n.Queue)-1] }) {
					over++
				}
			}
			spoilt := g.spoilt(c, m)
			wantSaid(t, c, spoilt, "go")
			if !saidRight(c, spoilt) {
				wrong++
			}
		}
	}
	if wrong < 150 || several < 150 || ended < 150 || over < 40 || lost < 150 {
		t.Error("too few", wrong, several, ended, over, lost)
	}
}

// P13.2, P13.3: from a start on, step by step.
func TestManySteps(t *testing.T) {
	g := chance(8)
	steps, ended, remembered := 0, 0, 0
	for round := range 50 {
		c := g.chart(6 + round%30)
		g.trans(&c, api.MaxTrans)
		m, _ := Start(c)
		for range 12 {
			event := pickOf(&g, events(c)...)
			wantSaid(t, c, m, event)
			n, _, taken := Step(c, m, event)
			if len(taken) > 0 {
				steps++
			}
			m = n
			remembered += len(m.Pasts)
			if len(m.Queue) > 10 {
				m.Queue = m.Queue[8:]
			}
		}
		if m.Status == api.Done {
			ended++
		}
	}
	if steps < 200 || ended < 5 || remembered < 300 {
		t.Error("too few", steps, ended, remembered)
	}
}
