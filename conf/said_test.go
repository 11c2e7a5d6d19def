package conf

import (
	"slices"
	"strconv"
	"testing"

	"quintain/api"
	"quintain/tree"
	"quintain/valid"
)

// What follows says again what the document says, word by word: a place's
// parent is looked for, and all else stands on that.

func saidParent(l []api.State, i int) int {
	for k := i - 1; k >= 0; k-- {
		if l[k].Depth == l[i].Depth-1 {
			return k
		}
	}
	return -1
}

func saidKids(l []api.State, i int) []int {
	var places []int
	for k := range l {
		if saidParent(l, k) == i {
			places = append(places, k)
		}
	}
	return places
}

func saidBegin(c api.Chart, i int) []int {
	if i < 0 || i >= len(c.States) || c.States[i].Kind == 5 || c.States[i].Kind == 6 {
		return nil
	}
	l := []int{i}
	for _, k := range saidKids(c.States, i) {
		if c.States[i].Kind == 3 || c.States[i].Kind == 2 && c.States[k].Name == c.States[i].Initial {
			l = append(l, saidBegin(c, k)...)
		}
	}
	slices.Sort(l)
	return l
}

func saidStart(c api.Chart) []int {
	var l []int
	for i := range c.States {
		if saidParent(c.States, i) == -1 {
			l = append(l, saidBegin(c, i)...)
		}
	}
	slices.Sort(l)
	return l
}

func saidLegal(c api.Chart, l []int) bool {
	for n, i := range l {
		if i < 0 || i >= len(c.States) || c.States[i].Kind == 5 || c.States[i].Kind == 6 || n > 0 && l[n-1] >= i {
			return false
		}
	}
	has := func(i int) bool { return slices.Contains(l, i) }
	for i, s := range c.States {
		if s.Depth == 0 && !has(i) {
			return false
		}
		if !has(i) {
			continue
		}
		if s.Depth > 0 && !has(saidParent(c.States, i)) {
			return false
		}
		kids, in := saidKids(c.States, i), 0
		for _, k := range kids {
			if has(k) {
				in++
			}
		}
		if s.Kind == 2 && in != 1 || s.Kind == 3 && in != len(kids) {
			return false
		}
	}
	return true
}

func saidOver(c api.Chart, l []int, i int) bool {
	if !slices.Contains(l, i) {
		return false
	}
	all := true
	for _, k := range saidKids(c.States, i) {
		if c.States[i].Kind == 2 && c.States[k].Kind == 4 && slices.Contains(l, k) {
			return true
		}
		all = all && saidOver(c, l, k)
	}
	return c.States[i].Kind == 3 && all
}

// saidLegals answers all legal configurations: of SOne those of its children
// that are no histories, of SBoth those of all of them, one with another.
func saidLegals(c api.Chart) [][]int {
	var under func(i int) [][]int
	each := func(places []int) [][]int {
		all := [][]int{nil}
		for _, k := range places {
			var more [][]int
			for _, l := range all {
				for _, m := range under(k) {
					more = append(more, slices.Concat(l, m))
				}
			}
			all = more
		}
		return all
	}
	under = func(i int) [][]int {
		var all [][]int
		switch c.States[i].Kind {
		case 2:
			for _, k := range saidKids(c.States, i) {
				all = append(all, under(k)...)
			}
		case 3:
			all = each(saidKids(c.States, i))
		case 1, 4:
			all = [][]int{nil}
		}
		for n, l := range all {
			all[n] = slices.Concat([]int{i}, l)
		}
		return all
	}
	return each(saidKids(c.States, -1))
}

// wantSaid holds what is answered of c and l against what the document says.
func wantSaid(t *testing.T, c api.Chart, l []int) {
	t.Helper()
	legal := saidLegal(c, l)
	if got := Legal(c, l); got != legal {
		t.Errorf("%s: Legal of %v: %v", told(c), l, got)
	}
	if !legal {
		wantNothingOf(t, c, l, -1, 0, len(c.States)-1)
		return
	}
	var leaves []int
	var names []string
	for _, i := range l {
		if c.States[i].Kind == 1 || c.States[i].Kind == 4 {
			leaves = append(leaves, i)
		}
		names = append(names, c.States[i].Name)
	}
	if got := Leaves(c, l); !slices.Equal(got, leaves) {
		t.Errorf("%s: Leaves of %v: %v", told(c), l, got)
	}
	if got := Names(c, l); !slices.Equal(got, names) {
		t.Errorf("%s: Names of %v: %v", told(c), l, got)
	}
	for i := -1; i <= len(c.States); i++ {
		if got := Over(c, l, i); got != saidOver(c, l, i) {
			t.Errorf("%s: Over of %d in %v: %v", told(c), i, l, got)
		}
	}
	wantUpward(t, c, l)
}

// wantUpward holds l against its leaves and all their parents.
func wantUpward(t *testing.T, c api.Chart, l []int) {
	t.Helper()
	var up []int
	for _, i := range Leaves(c, l) {
		for ; i != -1; i = saidParent(c.States, i) {
			up = append(up, i)
		}
	}
	slices.Sort(up)
	if up = slices.Compact(up); !slices.Equal(up, l) {
		t.Errorf("%s: of %v the leaves and their parents are %v", told(c), l, up)
	}
}

// wantNothingOf holds what is answered of a list that isn't legal, or of a
// chart that isn't valid, against nothing.
func wantNothingOf(t *testing.T, c api.Chart, l []int, places ...int) {
	t.Helper()
	if Legal(c, l) {
		t.Errorf("%s: %.99v is legal", told(c), l)
	}
	if got := Leaves(c, l); len(got) != 0 {
		t.Errorf("%s: Leaves of %.99v: %v", told(c), l, got)
	}
	if got := Names(c, l); len(got) != 0 {
		t.Errorf("%s: Names of %.99v: %v", told(c), l, got)
	}
	for _, i := range places {
		if Over(c, l, i) {
			t.Errorf("%s: %d is over in %.99v", told(c), i, l)
		}
	}
}

// wantBegins holds what c begins with against what the document says.
func wantBegins(t *testing.T, c api.Chart) {
	t.Helper()
	got := Start(c)
	if !slices.Equal(got, saidStart(c)) || !Legal(c, got) {
		t.Errorf("%s: Start is %v", told(c), got)
	}
	for i := -1; i <= len(c.States); i++ {
		if got := Begin(c, i); !slices.Equal(got, saidBegin(c, i)) {
			t.Errorf("%s: Begin of %d is %v", told(c), i, got)
		}
	}
}

// told answers a short text of c's states: kinds' letters (o is SOne, p is
// SBoth), depths, what they begin with.
func told(c api.Chart) string {
	s := c.Name
	for _, v := range c.States {
		kind := "?"
		if v.Kind >= 1 && v.Kind <= 6 {
			kind = "?bopfsd"[v.Kind : v.Kind+1]
		}
		s += " " + kind + strconv.Itoa(v.Depth) + v.Initial
	}
	return s
}

// subset answers the places below n that the bits tell.
func subset(n int, bits int) []int {
	var l []int
	for i := range n {
		if bits>>i&1 == 1 {
			l = append(l, i)
		}
	}
	return l
}

// smallTrees answers all right trees of n states, which have names.
func smallTrees(n int) [][]api.State {
	var all [][]api.State
	var grow func(l []api.State)
	grow = func(l []api.State) {
		if len(l) == n {
			if tree.Right(l) {
				all = append(all, slices.Clone(l))
			}
			return
		}
		for depth := range len(l) + 1 {
			for kind := 1; kind <= 6; kind++ {
				if depth > 0 && l[len(l)-1].Depth < depth-1 || depth == 0 && kind != 2 {
					continue
				}
				grow(append(slices.Clip(l), api.State{Name: "s" + strconv.Itoa(len(l)), Kind: kind, Depth: depth}))
			}
		}
	}
	grow(nil)
	return all
}

// allInitials hands on the charts of a right tree, with each Initial that each
// SOne may have; a history has the first one that it may.
func allInitials(l []api.State, use func(api.Chart)) {
	var fill func(i int)
	fill = func(i int) {
		if i == len(l) {
			use(api.Chart{Name: "c", States: slices.Clone(l)})
			return
		}
		of := i
		switch l[i].Kind {
		case 1, 3, 4:
			fill(i + 1)
			return
		case 5, 6:
			of = saidParent(l, i)
		}
		for _, k := range saidKids(l, of) {
			if l[k].Kind >= 5 {
				continue
			}
			l[i].Initial = l[k].Name
			fill(i + 1)
			if of != i {
				break
			}
		}
		l[i].Initial = ""
	}
	fill(0)
}

// P10.1, P10.2, P10.3, P10.4: all charts of few states, and of each all lists
// that rise.
func TestAllSmallCharts(t *testing.T) {
	charts, legals := 0, 0
	for n := 2; n <= 5; n++ {
		for _, l := range smallTrees(n) {
			allInitials(l, func(c api.Chart) {
				if valid.Check(c) != api.OK {
					t.Fatal(told(c))
				}
				charts++
				wantBegins(t, c)
				found := 0
				for bits := range 1 << n {
					m := subset(n, bits)
					wantSaid(t, c, m)
					if saidLegal(c, m) {
						found++
					}
				}
				if found != len(saidLegals(c)) {
					t.Errorf("%s: %d legal configurations", told(c), found)
				}
				legals += found
			})
		}
	}
	if charts < 500 || legals < 1000 {
		t.Error("too few", charts, legals)
	}
}

// grown answers a valid chart of some n states, made by chance that is the
// same each time.
func grown(next func(int) int, n int) api.Chart {
	l := []api.State{{Name: "s0", Kind: api.SOne}}
	for tries := 0; len(l) < n && tries < 4000; tries++ {
		last := l[len(l)-1]
		s := api.State{Name: "s" + strconv.Itoa(len(l)), Kind: 1 + next(6), Depth: next(last.Depth + 2)}
		if s.Depth == 0 {
			s.Kind = api.SOne
		}
		longer := append(slices.Clone(l), s)
		// What has to have a child gets one at once.
		if s.Kind == api.SOne || s.Kind == api.SBoth {
			longer = append(longer, api.State{Name: "s" + strconv.Itoa(len(longer)), Kind: api.SBasic, Depth: s.Depth + 1})
		}
		if len(l) == 1 {
			longer = append(l, api.State{Name: "s1", Kind: api.SBasic, Depth: 1})
		}
		if tree.Right(longer) {
			l = longer
		}
	}
	for i, s := range l {
		of := i
		switch s.Kind {
		case api.SBasic, api.SBoth, api.SFinal:
			continue
		case api.SShallow, api.SDeep:
			of = saidParent(l, i)
		}
		kids := slices.DeleteFunc(saidKids(l, of), func(k int) bool { return l[k].Kind >= api.SShallow })
		l[i].Initial = l[kids[next(len(kids))]].Name
	}
	return api.Chart{Name: "c", States: l}
}

// P10.1, P10.2, P10.3, P10.4: greater charts, some of as many states as there
// may be; some of their legal configurations, and what is left of these if a
// place is put in, taken away or put for another.
func TestGreatCharts(t *testing.T) {
	seed := uint32(5)
	next := func(n int) int {
		seed = seed*1664525 + 1013904223
		return int(seed>>8) % n
	}
	full, over, wrong := 0, 0, 0
	for round := range 120 {
		c := grown(next, 12+round%29)
		if valid.Check(c) != api.OK {
			t.Fatal(told(c))
		}
		if len(c.States) == api.MaxStates {
			full++
		}
		wantBegins(t, c)
		for range 4 {
			l := someLegal(c, next)
			wantSaid(t, c, l)
			if !saidLegal(c, l) {
				t.Errorf("%s: %v should be legal", told(c), l)
			}
			if slices.ContainsFunc(l, func(i int) bool { return saidOver(c, l, i) }) {
				over++
			}
			for range 10 {
				m := changed(l, len(c.States), next)
				wantSaid(t, c, m)
				if !saidLegal(c, m) {
					wrong++
				}
			}
		}
	}
	if full < 3 || over < 40 || wrong < 2000 {
		t.Error("too few", full, over, wrong)
	}
}

// someLegal answers one of c's legal configurations.
func someLegal(c api.Chart, next func(int) int) []int {
	var l []int
	var walk func(i int)
	walk = func(i int) {
		if i != -1 {
			l = append(l, i)
		}
		kids := slices.DeleteFunc(saidKids(c.States, i), func(k int) bool { return c.States[k].Kind >= api.SShallow })
		if i != -1 && c.States[i].Kind == api.SOne {
			walk(kids[next(len(kids))])
			return
		}
		for _, k := range kids {
			walk(k)
		}
	}
	walk(-1)
	return l
}

// changed answers l with one thing changed.
func changed(l []int, n int, next func(int) int) []int {
	m := slices.Clone(l)
	at := next(len(m))
	switch next(5) {
	case 0:
		m = slices.Delete(m, at, at+1)
	case 1:
		m = append(m, next(n+1))
		slices.Sort(m)
		m = slices.Compact(m)
	case 2:
		m[at] = next(n+2) - 1
	case 3:
		m[at] = next(n)
		slices.Sort(m)
		m = slices.Compact(m)
	case 4:
		k := next(len(m))
		m[at], m[k] = m[k], m[at]
	}
	return m
}
