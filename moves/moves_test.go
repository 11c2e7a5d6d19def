package moves

import (
	"math"
	"reflect"
	"slices"
	"strconv"
	"strings"
	"testing"

	"quintain/acts"
	"quintain/api"
	"quintain/chart"
	"quintain/conf"
	"quintain/pick"
	"quintain/valid"
)

// parsed answers the chart of a text whose lines are parted by /.
func parsed(t *testing.T, s string) api.Chart {
	t.Helper()
	c, n, e := chart.Parse(strings.ReplaceAll(s, "/", "\n"))
	if e != api.OK || valid.Check(c) != api.OK {
		t.Fatalf("%.300q: line %d: %v, %v", s, n, e, valid.Check(c))
	}
	return c
}

// places answers the places of the states with these names, in their order.
func places(t *testing.T, c api.Chart, names string) []int {
	t.Helper()
	var l []int
	for _, name := range strings.Fields(names) {
		i := valid.Place(c, name)
		if i == -1 {
			t.Fatal("there is no state", name)
		}
		l = append(l, i)
	}
	return l
}

// names answers the names of these places.
func names(c api.Chart, l []int) string {
	var w []string
	for _, i := range l {
		w = append(w, c.States[i].Name)
	}
	return strings.Join(w, " ")
}

// pasts answers what a text tells: each history, and behind = the names of what
// it remembers; they are parted by commas.
func pasts(t *testing.T, c api.Chart, s string) []api.Past {
	t.Helper()
	var l []api.Past
	for _, w := range strings.FieldsFunc(s, func(r rune) bool { return r == ',' }) {
		name, set, _ := strings.Cut(w, "=")
		l = append(l, api.Past{State: places(t, c, name)[0], Set: places(t, c, set)})
	}
	return l
}

// shown answers the text of which pasts would be l.
func shown(c api.Chart, l []api.Past) string {
	var w []string
	for _, p := range l {
		w = append(w, c.States[p.State].Name+"="+names(c, p.Set))
	}
	return strings.Join(w, ",")
}

// all has states of each kind, histories of both kinds at several depths, and
// some whose Initial stands several levels down.
const all = "chart all/event go" +
	"/one r q" + // 0
	"/ shallow h q" + // 1
	"/ basic a" + // 2
	"/ both q" + // 3
	"/  one u v" + // 4
	"/   basic v" + // 5
	"/   final w" + // 6
	"/   one e k" + // 7
	"/    basic j" + // 8
	"/    one k m" + // 9
	"/     basic m" + // 10
	"/     basic n" + // 11
	"/    shallow i k" + // 12
	"/    deep d n" + // 13
	"/   shallow s e" + // 14
	"/   deep g j" + // 15
	"/  one x y" + // 16
	"/   basic y" + // 17
	"/   basic z" + // 18
	"/   deep b z" + // 19
	"/  basic l" + // 20
	"/ final f" + // 21
	"/ deep p n" + // 22
	"/one t o" + // 23
	"/ basic o" + // 24
	"/ final c" + // 25
	"/ shallow y1 c" // 26

// to answers all with one transition.
func to(t *testing.T, from, to string) api.Chart {
	t.Helper()
	c := parsed(t, all)
	c.Trans = []api.Trans{{From: valid.Place(c, from), Event: "go", To: to}}
	if valid.Check(c) != api.OK {
		t.Fatal(from, to, "may not be")
	}
	return c
}

// P12.1, P12.2, P12.3, P12.4: the chapter's example.
func TestExample(t *testing.T) {
	c := parsed(t, "chart c/event go/one r a/ basic a/  on go - h -/ one b c/  basic c/  basic d/   on go - a -/ deep h c")
	l := places(t, c, "r b d")
	left := pick.Leaves(c, l, 1)
	if names(c, left) != "b d" {
		t.Error("left", names(c, left))
	}
	// What is left is within r, and r isn't: so nothing is remembered.
	if got := Record(c, l, left, nil); len(got) != 0 {
		t.Error(shown(c, got))
	}
	now := Record(c, l, l, nil)
	if shown(c, now) != "h=d" || !Right(c, now) {
		t.Error(shown(c, now))
	}
	if got := Enter(c, 0, now); names(c, got) != "b d" {
		t.Error(names(c, got))
	}
	if got := Enter(c, 0, nil); names(c, got) != "b c" {
		t.Error("not remembered", names(c, got))
	}
	wantSaid(t, c, l, l, now)
}

// P12.1: what shallow and deep histories may remember.
func TestRight(t *testing.T) {
	c := parsed(t, all)
	for _, row := range []struct {
		pasts string
		want  bool
	}{
		{"", true},
		// A shallow one: a child of its parent.
		{"h=q", true}, {"h=a", true}, {"h=f", true}, {"i=j", true}, {"i=k", true}, {"s=v", true}, {"s=w", true}, {"s=e", true}, {"y1=o", true}, {"y1=c", true},
		{"h=", false}, {"h=a q", false}, {"h=q a", false}, {"h=a a", false}, {"h=a f", false}, {"h=h", false}, {"h=p", false}, {"h=r", false}, {"h=u", false}, {"h=v", false}, {"h=l", false}, {"h=n", false}, {"h=o", false}, {"i=m", false}, {"i=e", false}, {"i=i", false}, {"i=d", false}, {"i=v", false}, {"i=j k", false}, {"s=s", false}, {"s=g", false}, {"s=y", false}, {"s=u", false}, {"s=k", false}, {"s=", false}, {"y1=t", false}, {"y1=a", false}, {"y1=y1", false},
		// A deep one: the leaves that are entered.
		{"d=j", true}, {"d=m", true}, {"d=n", true}, {"g=v", true}, {"g=w", true}, {"g=j", true}, {"g=m", true}, {"g=n", true}, {"b=y", true}, {"b=z", true},
		{"d=", false}, {"d=k", false}, {"d=j m", false}, {"d=m n", false}, {"d=n m", false}, {"d=m m", false}, {"d=k m", false}, {"d=e", false}, {"d=d", false}, {"d=i", false}, {"d=v", false}, {"d=l", false}, {"d=j i", false}, {"g=", false}, {"g=v w", false}, {"g=v j", false}, {"g=j n", false}, {"g=e n", false}, {"g=e", false}, {"g=u v", false}, {"g=y", false}, {"g=v y", false}, {"g=v s", false}, {"b=x", false}, {"b=y z", false}, {"b=b", false}, {"b=v", false}, {"b=", false},
		// Of all that is within a region: one leaf of each part.
		{"p=a", true}, {"p=f", true}, {"p=v y l", true}, {"p=w z l", true}, {"p=j z l", true}, {"p=m y l", true}, {"p=n z l", true},
		{"p=", false}, {"p=q", false}, {"p=r", false}, {"p=l", false}, {"p=v l", false}, {"p=y l", false}, {"p=v y", false}, {"p=n z", false}, {"p=v w y l", false}, {"p=v y z l", false}, {"p=j n y l", false}, {"p=v l y", false}, {"p=l y v", false}, {"p=y v l", false}, {"p=v y l l", false}, {"p=v v y l", false}, {"p=q v y l", false}, {"p=u v y l", false}, {"p=v x y l", false}, {"p=k m y l", false}, {"p=a v y l", false}, {"p=v y l f", false}, {"p=a f", false}, {"p=f a", false}, {"p=v y l p", false}, {"p=h v y l", false}, {"p=v y l o", false}, {"p=o", false}, {"p=e y l", false},
		// Of no history.
		{"r=a", false}, {"a=a", false}, {"q=u", false}, {"u=v", false}, {"w=w", false}, {"f=f", false}, {"x=", false}, {"t=o", false}, {"l=", false},
		// Several ones.
		{"h=a,p=a", true}, {"h=a,p=v y l", true}, {"h=q,p=f", true}, {"i=j,d=n", true}, {"i=k,d=m,s=v,g=n", true}, {"h=f,i=k,d=j,s=e,g=w,b=y,p=n z l,y1=c", true}, {"s=w,b=y", true}, {"h=a,y1=o", true},
		{"p=a,h=a", false}, {"d=n,i=j", false}, {"h=a,h=a", false}, {"h=a,h=q", false}, {"p=f,p=f", false}, {"h=a,p=a,p=a", false}, {"h=a,i=j,h=a", false}, {"h=q,a=a,p=f", false}, {"h=,p=a", false}, {"h=a,p=", false}, {"h=u,p=a", false}, {"h=a,i=k,d=m n", false}, {"h=f,i=k,d=j,s=e,g=w,b=y,p=n z l,y1=t", false}, {"r=r,h=a", false}, {"h=a,t=o", false}, {"y1=c,h=f", false},
	} {
		l := pasts(t, c, row.pasts)
		if got := Right(c, l); got != row.want {
			t.Errorf("%s: %v", row.pasts, got)
		}
		wantSaid(t, c, conf.Start(c), []int{0}, l)
	}
}

// P12.1: places that there aren't.
func TestRightBeyond(t *testing.T) {
	c := parsed(t, all)
	far := []int{-1, -2, len(c.States), len(c.States) + 1, 40, 1 << 32, math.MaxInt, math.MinInt, math.MinInt + 1}
	start := conf.Start(c)
	// Behind the length there is a history more, of which nothing is told.
	c.States = append(slices.Clip(c.States), api.State{Name: "more", Kind: api.SShallow, Depth: 1, Initial: "o"})[:len(c.States)]
	for _, i := range far {
		for _, l := range [][]api.Past{
			{{State: i, Set: []int{2}}}, {{State: i}}, {{State: 1, Set: []int{2}}, {State: i, Set: []int{2}}}, {{State: i, Set: []int{2}}, {State: 1, Set: []int{2}}},
			{{State: 1, Set: []int{i}}}, {{State: 1, Set: []int{2, i}}}, {{State: 1, Set: []int{i, 2}}},
			{{State: 22, Set: []int{i}}}, {{State: 22, Set: []int{21, i}}}, {{State: 22, Set: []int{i, 21}}}, {{State: 22, Set: []int{5, 17, i}}}, {{State: 22, Set: []int{5, 17, 20, i}}}, {{State: 22, Set: []int{i, 5, 17, 20}}},
		} {
			if Right(c, l) {
				t.Error(l, "is right")
			}
			wantSaid(t, c, start, start, l)
		}
	}
	many := slices.Repeat([]int{2}, 1<<16)
	for _, l := range [][]api.Past{
		{{State: 1, Set: many}}, {{State: 22, Set: many}}, slices.Repeat([]api.Past{{State: 1, Set: []int{2}}}, 1<<16),
	} {
		if Right(c, l) || len(Enter(c, 0, l)) != 0 || len(Record(c, start, start, l)) != 0 {
			t.Error("very many")
		}
	}
}

// P12.2: to states of each kind, from each side.
func TestEnter(t *testing.T) {
	for _, row := range []struct{ from, to, want string }{
		// To a basic and a final state, to itself.
		{"q", "a", "a"}, {"a", "a", "a"}, {"a", "f", "f"}, {"r", "f", "f"}, {"v", "w", "w"}, {"v", "v", "v"}, {"o", "c", "c"}, {"t", "o", "o"}, {"k", "j", "j"}, {"m", "n", "n"}, {"n", "m", "m"}, {"y", "y", "y"},
		// To an SOne, whose Initial is taken.
		{"v", "e", "e k m"}, {"j", "k", "k m"}, {"u", "e", "e k m"}, {"e", "e", "e k m"}, {"k", "k", "k m"},
		// To an SOne within an SBoth: the others are entered, too.
		{"a", "u", "q u v x y l"}, {"a", "x", "q u v x y l"}, {"u", "u", "q u v x y l"}, {"r", "x", "q u v x y l"}, {"y", "u", "q u v x y l"},
		// To an SBoth, and to what has no children within it.
		{"a", "q", "q u v x y l"}, {"q", "q", "q u v x y l"}, {"l", "l", "q u v x y l"}, {"r", "q", "q u v x y l"}, {"a", "l", "q u v x y l"}, {"n", "q", "q u v x y l"},
		// To what stands several levels down.
		{"a", "v", "q u v x y l"}, {"a", "w", "q u w x y l"}, {"a", "e", "q u e k m x y l"}, {"a", "j", "q u e j x y l"}, {"a", "k", "q u e k m x y l"}, {"a", "n", "q u e k n x y l"}, {"a", "z", "q u v x z l"}, {"r", "n", "q u e k n x y l"}, {"r", "m", "q u e k m x y l"}, {"q", "n", "q u e k n x y l"}, {"q", "z", "q u v x z l"}, {"u", "n", "e k n"}, {"u", "j", "e j"}, {"v", "n", "e k n"}, {"e", "n", "k n"}, {"e", "j", "j"},
		// From one part to another.
		{"v", "z", "q u v x z l"}, {"n", "z", "q u v x z l"}, {"y", "n", "q u e k n x y l"}, {"l", "w", "q u w x y l"}, {"x", "l", "q u v x y l"},
		// To what holds it.
		{"n", "k", "k m"}, {"n", "e", "e k m"}, {"n", "u", "q u v x y l"}, {"v", "u", "q u v x y l"}, {"l", "q", "q u v x y l"}, {"z", "x", "q u v x y l"}, {"m", "a", "a"},
		// To nothing.
		{"a", "", ""}, {"r", "", ""}, {"n", "", ""}, {"q", "", ""}, {"o", "", ""},
	} {
		c := to(t, row.from, row.to)
		for _, p := range []string{"", "h=f,i=j,d=n,s=w,g=n,b=z,p=w z l,y1=c"} {
			// Histories don't matter to what isn't one.
			l := pasts(t, c, p)
			if got := Enter(c, 0, l); names(c, got) != row.want {
				t.Errorf("from %s to %s by %q: %s, not %s", row.from, row.to, p, names(c, got), row.want)
			}
			wantSaid(t, c, conf.Start(c), []int{0, 4}, l)
		}
	}
}

// P12.2: to histories, which remember something, or don't.
func TestEnterHistories(t *testing.T) {
	const start = "q u v x y l"
	for _, row := range []struct{ from, to, pasts, want string }{
		// Shallow ones.
		{"a", "h", "", start}, {"a", "h", "h=a", "a"}, {"a", "h", "h=f", "f"}, {"a", "h", "h=q", start}, {"q", "h", "h=a", "a"}, {"r", "h", "h=a", "a"}, {"n", "h", "h=f", "f"}, {"n", "h", "", start},
		{"u", "s", "", "e k m"}, {"u", "s", "s=v", "v"}, {"u", "s", "s=w", "w"}, {"v", "s", "s=e", "e k m"}, {"a", "s", "", "q u e k m x y l"}, {"a", "s", "s=w", "q u w x y l"}, {"y", "s", "s=w", "q u w x y l"}, {"a", "s", "s=e", "q u e k m x y l"},
		{"e", "i", "", "k m"}, {"e", "i", "i=j", "j"}, {"e", "i", "i=k", "k m"}, {"n", "i", "i=k", "k m"}, {"u", "i", "i=j", "e j"}, {"a", "i", "i=j", "q u e j x y l"}, {"a", "i", "", "q u e k m x y l"},
		{"o", "y1", "", "c"}, {"o", "y1", "y1=o", "o"}, {"t", "y1", "y1=c", "c"},
		// Deep ones, whose Initial stands one level down and several.
		{"e", "d", "", "k n"}, {"e", "d", "d=m", "k m"}, {"e", "d", "d=j", "j"}, {"j", "d", "d=n", "k n"}, {"u", "d", "", "e k n"}, {"a", "d", "", "q u e k n x y l"}, {"a", "d", "d=j", "q u e j x y l"},
		{"u", "g", "", "e j"}, {"u", "g", "g=n", "e k n"}, {"v", "g", "g=w", "w"}, {"n", "g", "g=v", "v"}, {"a", "g", "", "q u e j x y l"}, {"a", "g", "g=m", "q u e k m x y l"},
		{"x", "b", "", "z"}, {"x", "b", "b=y", "y"}, {"a", "b", "", "q u v x z l"}, {"a", "b", "b=y", start}, {"v", "b", "b=z", "q u v x z l"},
		// A region's, which remembers states of several parts.
		{"a", "p", "", "q u e k n x y l"}, {"r", "p", "", "q u e k n x y l"}, {"a", "p", "p=a", "a"}, {"a", "p", "p=f", "f"}, {"a", "p", "p=w z l", "q u w x z l"}, {"a", "p", "p=j z l", "q u e j x z l"}, {"q", "p", "p=n z l", "q u e k n x z l"}, {"n", "p", "p=v y l", start}, {"z", "p", "p=m z l", "q u e k m x z l"}, {"r", "p", "p=m z l", "q u e k m x z l"},
		// Each by what it remembers itself, whatever the others do.
		{"a", "h", "p=f", start}, {"a", "p", "h=f", "q u e k n x y l"}, {"a", "h", "h=a,p=f", "a"}, {"a", "p", "h=a,p=f", "f"}, {"u", "s", "i=j,d=j,g=v", "e k m"}, {"u", "g", "s=v", "e j"}, {"u", "s", "i=j,d=j,s=e,g=v", "e k m"}, {"e", "d", "i=j", "k n"}, {"e", "i", "i=j,d=n", "j"}, {"e", "d", "i=j,d=m", "k m"}, {"a", "g", "g=w,b=z,p=f", "q u w x y l"}, {"a", "b", "g=w,b=z", "q u v x z l"}, {"a", "p", "h=f,i=j,d=j,s=w,g=w,b=y,p=n z l,y1=c", "q u e k n x z l"}, {"a", "h", "h=q,p=w z l", start},
	} {
		c := to(t, row.from, row.to)
		l := pasts(t, c, row.pasts)
		if got := Enter(c, 0, l); names(c, got) != row.want {
			t.Errorf("from %s to %s by %q: %s, not %s", row.from, row.to, row.pasts, names(c, got), row.want)
		}
		wantSaid(t, c, conf.Start(c), []int{0, 4}, l)
	}
}

// P12.2: what a transition waits for, and whether it may be taken, doesn't
// matter for what it enters.
func TestEnterOfWhatIsNotTaken(t *testing.T) {
	c := parsed(t, "chart c/event go/one r a/ basic a/  on - false b -/  on go 1%0=1 h -/  on error - b -/  on done.r - b raise:go/ basic b/ shallow h b")
	for n := range c.Trans {
		if got := Enter(c, n, nil); !slices.Equal(got, []int{2}) {
			t.Error(n, got)
		}
	}
}

// P12.2: places that no transition has.
func TestEnterOfNoTransition(t *testing.T) {
	for _, s := range []string{all, "chart c/event go/one r a/ basic a/  on go - a -/  on go - h -/ basic b/ shallow h a"} {
		c := parsed(t, s)
		// Behind the length there is room, of which nothing is told.
		c.Trans = append(slices.Clip(c.Trans), api.Trans{To: c.States[1].Name})[:len(c.Trans)]
		n := len(c.Trans)
		for _, i := range []int{-1, -2, n, n + 1, 48, 49, 1 << 32, math.MaxInt, math.MinInt, math.MinInt + 1} {
			if got := Enter(c, i, nil); len(got) != 0 {
				t.Errorf("%d: %v", i, got)
			}
		}
		if n > 0 && (!slices.Equal(Enter(c, 0, nil), []int{1}) || !slices.Equal(Enter(c, n-1, nil), []int{1})) {
			t.Error("the first and the last one")
		}
	}
}

// P12.3: of which histories it is told anew, and what.
func TestRecord(t *testing.T) {
	c := parsed(t, all)
	const (
		first = "r q u v x y l t o"
		deep  = "r q u e k n x z l t o"
		plain = "r a t c"
	)
	for _, row := range []struct{ l, left, pasts, want string }{
		// No history's parent is left.
		{first, "", "", ""}, {first, "v", "", ""}, {first, "q l", "", ""}, {first, "v y l o", "", ""}, {plain, "a", "", ""}, {deep, "k n", "", ""}, {deep, "k n q z", "h=a", "h=a"},
		// One's, several's; both kinds of one parent.
		{first, "x", "", "b=y"}, {deep, "x", "", "b=z"}, {first, "u", "", "s=v,g=v"}, {deep, "u", "", "s=e,g=n"}, {deep, "e", "", "i=k,d=n"}, {deep, "e k n", "", "i=k,d=n"}, {first, "r", "", "h=q,p=v y l"}, {deep, "r", "", "h=q,p=n z l"}, {plain, "r", "", "h=a,p=a"}, {"r f t o", "r", "", "h=f,p=f"}, {plain, "t", "", "y1=c"}, {first, "t", "", "y1=o"},
		{first, "u x", "", "s=v,g=v,b=y"}, {deep, "q u e k n x z l", "", "i=k,d=n,s=e,g=n,b=z"}, {"r q u e j x z l t o", "u e", "", "i=j,d=j,s=e,g=j"}, {"r q u w x y l t o", "u", "", "s=w,g=w"}, {deep, deep, "", "h=q,i=k,d=n,s=e,g=n,b=z,p=n z l,y1=o"},
		// A parent that is left, though it isn't active, and the other way about.
		{plain, "u x e q", "", ""}, {first, "e", "", ""}, {first, "e k n", "i=j", "i=j"}, {plain, deep, "", "h=a,p=a,y1=c"}, {plain, deep, "s=w,g=n", "h=a,s=w,g=n,p=a,y1=c"}, {deep, plain, "", "h=q,p=n z l,y1=o"}, {first, first, "i=j,d=m", "h=q,i=j,d=m,s=v,g=v,b=y,p=v y l,y1=o"},
		// What was remembered: it is told anew, or as it was.
		{deep, "u", "s=v,g=w", "s=e,g=n"}, {deep, "u", "s=v", "s=e,g=n"}, {deep, "u", "g=w", "s=e,g=n"}, {deep, "u", "g=n", "s=e,g=n"}, {deep, "u", "h=a,p=f", "h=a,s=e,g=n,p=f"}, {deep, "u", "h=a,i=j,d=j,s=w,g=w,b=y,p=f,y1=c", "h=a,i=j,d=j,s=e,g=n,b=y,p=f,y1=c"}, {first, "", "h=a,p=v y l,y1=c", "h=a,p=v y l,y1=c"}, {plain, "t", "h=a,p=v y l,y1=o", "h=a,p=v y l,y1=c"}, {plain, "r", "p=v y l", "h=a,p=a"}, {plain, "a", "p=v y l", "p=v y l"},
		// left as it comes: in no order, twice, with histories.
		{deep, "x u", "", "s=e,g=n,b=z"}, {deep, "u u u", "", "s=e,g=n"}, {deep, "n k e", "", "i=k,d=n"}, {deep, "s g h p", "", ""}, {deep, "o t", "", "y1=o"}, {deep, "h x", "", "b=z"},
	} {
		l, left, p := places(t, c, row.l), places(t, c, row.left), pasts(t, c, row.pasts)
		got := Record(c, l, left, p)
		if shown(c, got) != row.want || !Right(c, got) {
			t.Errorf("of %s, left %s, by %q: %s, not %s", row.l, row.left, row.pasts, shown(c, got), row.want)
		}
		wantSaid(t, c, l, left, p)
		// Places that there aren't, left too, don't matter.
		for _, i := range []int{-1, len(c.States), math.MaxInt, math.MinInt} {
			if again := Record(c, l, append([]int{i}, left...), p); !same(again, got) {
				t.Errorf("%d left, too: %s", i, shown(c, again))
			}
		}
	}
	if got := Record(c, places(t, c, deep), slices.Repeat([]int{16}, 1<<16), nil); shown(c, got) != "b=z" {
		t.Error("very many", shown(c, got))
	}
}

// P12.1, P12.4: of each configuration just what deep histories record of it is
// right, of all lists that rise.
func TestAllSets(t *testing.T) {
	c := parsed(t, "chart c/event go/one r q/ both q/  one u v/   basic v/   final w/  one x y/   basic y/   basic z/   shallow s z/  basic l/ deep h a/ basic a")
	h := valid.Place(c, "h")
	recorded := map[string]int{}
	var wanted []string
	for n := range 1 << len(c.States) {
		var l []int
		for i := range c.States {
			if n>>i&1 == 1 {
				l = append(l, i)
			}
		}
		if conf.Legal(c, l) {
			for _, p := range Record(c, l, []int{0}, nil) {
				recorded[names(c, p.Set)]++
			}
		}
		if Right(c, []api.Past{{State: h, Set: l}}) {
			wanted = append(wanted, names(c, l))
		}
	}
	for _, set := range wanted {
		if recorded[set] != 1 {
			t.Error(set, "is right, and recorded", recorded[set], "times")
		}
	}
	if len(wanted) != len(recorded) || len(wanted) != 5 {
		t.Error(wanted, recorded)
	}
}

// P12.1: all lists of up to three places, in any order, for each state.
func TestShortSets(t *testing.T) {
	c := parsed(t, "chart c/event go/one r q/ both q/  one u v/   basic v/   basic w/  basic l/ deep h w/ shallow s a/ basic a")
	right := 0
	try := func(set ...int) {
		for i := -1; i <= len(c.States); i++ {
			l := []api.Past{{State: i, Set: set}}
			got := Right(c, l)
			if got != saidRight(c, l) {
				t.Error(l, got)
			}
			if got {
				right++
			}
		}
	}
	try()
	for i := -1; i <= len(c.States); i++ {
		try(i)
		for k := -1; k <= len(c.States); k++ {
			try(i, k)
			for n := -1; n <= len(c.States); n += 2 {
				try(i, k, n)
			}
		}
	}
	// Of s q and a, of h v l, w l and a.
	if right != 5 {
		t.Error(right)
	}
}

// P12.4: from each configuration by each transition there may be, by some lists
// of what is remembered.
func TestEachTransition(t *testing.T) {
	c := parsed(t, all)
	back := 0
	for _, from := range []string{"r q u v x y l t o", "r q u w x z l t c", "r q u e j x z l t o", "r q u e k n x y l t c", "r a t o", "r f t c"} {
		l := places(t, c, from)
		for _, p := range []string{"", "h=f,i=j,d=n,s=w,g=n,b=z,p=w z l,y1=c", "h=q,i=k,d=m,s=v,g=v,b=y,p=a", "p=m y l"} {
			past := pasts(t, c, p)
			for i, s := range c.States {
				if s.Kind > api.SBoth {
					continue
				}
				c.Trans = nil
				for _, v := range c.States {
					c.Trans = append(c.Trans, api.Trans{From: i, Event: "go", To: v.Name})
					if valid.Check(c) != api.OK {
						c.Trans = c.Trans[:len(c.Trans)-1]
					}
				}
				wantLegal(t, c, l, past)
				back += wantBack(t, c, l, past)
			}
		}
	}
	if back < 400 {
		t.Error("too few", back)
	}
}

// wantNothing holds what is answered against nothing.
func wantNothing(t *testing.T, what string, c api.Chart, l []int, p []api.Past) {
	t.Helper()
	for _, i := range []int{-1, 0, 1, 2, len(c.Trans) - 1, len(c.Trans), math.MinInt, math.MaxInt} {
		if got := Enter(c, i, p); len(got) != 0 {
			t.Errorf("%s: Enter of %d: %v", what, i, got)
		}
	}
	for _, left := range [][]int{nil, l, {0}, {0, 4, 7, 16, 23}} {
		if got := Record(c, l, left, p); len(got) != 0 {
			t.Errorf("%s: Record: %v", what, got)
		}
	}
	if Right(c, p) {
		t.Errorf("%s: right", what)
	}
}

// P12.1, P12.2, P12.3: charts that aren't valid, though what is asked of them
// might be told.
func TestNotValid(t *testing.T) {
	block, _ := acts.Parse("raise:nothing")
	for what, do := range map[string]func(*api.Chart){
		"nothing":               func(c *api.Chart) { *c = api.Chart{} },
		"no states":             func(c *api.Chart) { c.States = nil },
		"no states at all":      func(c *api.Chart) { c.States, c.Trans = nil, nil },
		"too many events":       func(c *api.Chart) { c.Events = strings.Fields("go b c d e f g h i j k l m") },
		"too many states":       func(c *api.Chart) { c.States = append(c.States, wide(40).States[1:]...) },
		"too many transitions":  func(c *api.Chart) { c.Trans = slices.Repeat(c.Trans[:1], 49) },
		"very many transitions": func(c *api.Chart) { c.Trans = slices.Repeat(c.Trans[:1], 1<<16) },
		"no name":               func(c *api.Chart) { c.Name = "" },
		"twice":                 func(c *api.Chart) { c.States[25].Name = "r" },
		"a tree that isn't":     func(c *api.Chart) { c.States[25].Depth = 3 },
		"a kind that isn't":     func(c *api.Chart) { c.States[25].Kind = 7 },
		"a region's kind":       func(c *api.Chart) { c.States[0].Kind = api.SDeep },
		"a history in an SBoth": func(c *api.Chart) { c.States[20].Kind = api.SShallow },
		"no Initial":            func(c *api.Chart) { c.States[23].Initial = "" },
		"no history's Initial":  func(c *api.Chart) { c.States[26].Initial = "" },
		"a history's Initial":   func(c *api.Chart) { c.States[1].Initial = "p" },
		"one too deep":          func(c *api.Chart) { c.States[1].Initial = "v" },
		"one too far":           func(c *api.Chart) { c.States[22].Initial = "o" },
		"a variable":            func(c *api.Chart) { c.Vars = []api.Var{{Name: "x"}} },
		"a history's block":     func(c *api.Chart) { c.States[1].Entry, _ = acts.Parse("raise:go") },
		"a block":               func(c *api.Chart) { c.States[25].Entry = block },
		"where one stands":      func(c *api.Chart) { c.Trans[0].From = -1 },
		"from a history":        func(c *api.Chart) { c.Trans[0].From = 1 },
		"falling":               func(c *api.Chart) { c.Trans[1].From = 0 },
		"what one waits for":    func(c *api.Chart) { c.Trans[0].Event = "nothing" },
		"a guard":               func(c *api.Chart) { c.Trans[0].Guard = []api.Cell{{Op: api.OInt}} },
		"to no state":           func(c *api.Chart) { c.Trans[1].To = "nothing" },
		"to another region":     func(c *api.Chart) { c.Trans[1].To = "t" },
		"what one does":         func(c *api.Chart) { c.Trans[0].Acts = block },
	} {
		c := parsed(t, all)
		c.Trans = []api.Trans{{From: 2, Event: "go", To: "h"}, {From: 2, Event: "go", To: "q"}, {From: 24, To: "y1"}}
		l := conf.Start(c)
		if valid.Check(c) != api.OK || len(Record(c, l, l, nil)) != 6 || len(Enter(c, 2, nil)) != 1 {
			t.Fatal("not as told")
		}
		do(&c)
		if valid.Check(c) == api.OK {
			t.Error(what, "should not be valid")
		}
		for _, p := range [][]api.Past{nil, {}, {{State: 1, Set: []int{2}}}, {{State: 26, Set: []int{24}}}, {{State: 0}}} {
			for _, m := range [][]int{l, nil, {0}, {0, 2, 23, 24}} {
				wantNothing(t, what, c, m, p)
			}
		}
	}
}

// P12.3: lists that aren't legal.
func TestNotLegal(t *testing.T) {
	c := parsed(t, all)
	lists := map[string][]int{"nil": nil, "empty": {}, "very many": slices.Repeat([]int{0}, 1<<16)}
	for what, s := range map[string]string{
		"regions alone":        "r t",
		"without a region":     "r a",
		"without a parent":     "r q v x y l t o",
		"without a child":      "r q u x y l t o",
		"without a part":       "r q u v x y t o",
		"with two children":    "r a q u v x y l t o",
		"with two leaves":      "r q u v w x y l t o",
		"with a history":       "r h a t o",
		"a history for a leaf": "r h t o",
		"falling":              "o t a r",
		"changed about":        "t o r a",
		"one twice":            "r a a t o",
		"leaves alone":         "v y l o",
	} {
		lists[what] = places(t, c, s)
	}
	a := places(t, c, "r a t o")
	for _, i := range []int{-1, math.MinInt} {
		lists["below nought "+strconv.Itoa(i)] = slices.Insert(slices.Clone(a), 0, i)
	}
	for _, i := range []int{len(c.States), 40, 1 << 32, math.MaxInt} {
		lists["beyond "+strconv.Itoa(i)] = append(slices.Clone(a), i)
	}
	for what, l := range lists {
		for _, left := range [][]int{nil, {0}, l, {0, 23}} {
			for _, p := range []string{"", "h=a", "i=j,d=n,p=f"} {
				if got := Record(c, l, left, pasts(t, c, p)); len(got) != 0 {
					t.Errorf("%s: %v", what, got)
				}
			}
		}
	}
	// Each place of a legal one taken away, told twice, put for another.
	l := conf.Start(c)
	for n := range l {
		for _, m := range [][]int{slices.Delete(slices.Clone(l), n, n+1), slices.Insert(slices.Clone(l), n, l[n])} {
			if got := Record(c, m, l, nil); len(got) != 0 {
				t.Errorf("%v: %v", m, got)
			}
		}
		for i := -1; i <= len(c.States); i++ {
			m := slices.Clone(l)
			m[n] = i
			wantSaid(t, c, m, l, nil)
		}
	}
}

// P12.2, P12.3: lists of what is remembered that aren't right.
func TestNotRight(t *testing.T) {
	c := to(t, "a", "h")
	l := conf.Start(c)
	for _, s := range []string{
		"h=", "h=u", "h=h", "h=a q", "h=r", "p=", "p=l", "p=v y", "p=v w y l", "p=l y v", "p=q", "p=v y z l", "r=a", "a=a", "p=a,h=a", "h=a,h=a", "h=a,p=", "h=,p=a", "y1=c,h=a", "h=a,y1=t", "h=a,t=o",
	} {
		p := pasts(t, c, s)
		if Right(c, p) || len(Enter(c, 0, p)) != 0 || len(Record(c, l, l, p)) != 0 || len(Record(c, l, nil, p)) != 0 {
			t.Error(s, Enter(c, 0, p), Record(c, l, l, p))
		}
	}
}

// wide answers a chart of n states: a region and its children.
func wide(n int) api.Chart {
	c := api.Chart{Name: "c", Events: []string{"go"}, States: []api.State{{Name: "c0", Kind: api.SOne, Initial: "c1"}}}
	for i := 1; i < n; i++ {
		c.States = append(c.States, api.State{Name: "c" + strconv.Itoa(i), Kind: api.SBasic, Depth: 1})
	}
	return c
}

// P12.1, P12.2, P12.3: as many states, histories and transitions as there may
// be.
func TestMost(t *testing.T) {
	// All but one are histories, half of them shallow.
	c := wide(40)
	var want []api.Past
	for i := 2; i < 40; i++ {
		c.States[i].Kind, c.States[i].Initial = api.SShallow+i%2, "c1"
		want = append(want, api.Past{State: i, Set: []int{1}})
	}
	for n := range 48 {
		c.Trans = append(c.Trans, api.Trans{From: n / 47, Event: "go", To: "c" + strconv.Itoa(2+n%38)})
	}
	l := []int{0, 1}
	got := Record(c, l, l, nil)
	if !same(got, want) || !Right(c, got) || !Right(c, want[:1]) {
		t.Error("histories", got)
	}
	for n := range 48 {
		if got := Enter(c, n, want); !slices.Equal(got, []int{1}) {
			t.Error(n, got)
		}
	}
	wantSaid(t, c, l, l, want)
	// As many leaves as there may be, which a deep one remembers.
	c = wide(40)
	var every, leaves []int
	for i := range c.States {
		c.States[i].Depth = min(i, 2)
		every = append(every, i)
	}
	c.States[1].Kind, c.States[39] = api.SBoth, api.State{Name: "h", Kind: api.SDeep, Depth: 1, Initial: "c38"}
	c.Trans = slices.Repeat([]api.Trans{{From: 38, Event: "go", To: "h"}}, 48)
	every, leaves = every[:39], every[2:39]
	got = Record(c, every, every, nil)
	if len(got) != 1 || got[0].State != 39 || !slices.Equal(got[0].Set, leaves) || !Right(c, got) {
		t.Error("leaves", got)
	}
	if in := Enter(c, 47, got); !slices.Equal(in, every[1:]) || len(Enter(c, 48, got)) != 0 {
		t.Error("entered", in)
	}
	wantSaid(t, c, every, every, got)
}

// P12.2: down to the deepest place there may be.
func TestDeepest(t *testing.T) {
	c := parsed(t, "chart c/event go/one a b/ one b c/  one c d/   one d e/    one e f/     basic f/     basic g/     shallow h g/     deep i f/ deep k g/ basic l/  on go - k -/  on go - h -/  on go - i -/  on go - g -/  on go - b -")
	for n, want := range []string{"b c d e g", "b c d e g", "b c d e f", "b c d e g", "b c d e f"} {
		if got := Enter(c, n, nil); names(c, got) != want {
			t.Error(n, names(c, got))
		}
	}
	l := places(t, c, "a b c d e g")
	now := Record(c, l, l, nil)
	if shown(c, now) != "h=g,i=g,k=g" {
		t.Error(shown(c, now))
	}
	wantSaid(t, c, l, l, now)
}

// P12.1, P12.2, P12.3: what is handed in stays, its spare room too, and asking
// again answers the same.
func TestNothingIsChanged(t *testing.T) {
	fresh := func() (api.Chart, []api.Past) {
		c := to(t, "a", "p")
		c.States = append(c.States, api.State{Name: "more"})[:len(c.States)]
		c.Trans = append(c.Trans, api.Trans{Event: "go"})[:len(c.Trans)]
		p := append(pasts(t, c, "h=a,g=n,p=w z l,y1=c"), api.Past{State: 7, Set: []int{7}})
		for i := range p {
			p[i].Set = append(p[i].Set, -7, 7)[:len(p[i].Set)]
		}
		return c, p
	}
	c, p := fresh()
	was, before := fresh()
	for _, s := range []string{"r q u v x y l t o", "r q u e k n x z l t c", "r a t o", "", "r q"} {
		room := append(places(t, c, s), 7, -7, 1)
		left := append(places(t, c, "u t r x"), 7, -7, 1)
		held, gone := slices.Clone(room), slices.Clone(left)
		for range 3 {
			wantSaid(t, c, room[:len(room)-3], left[:len(left)-3], p[:4])
		}
		if !slices.Equal(room, held) || !slices.Equal(left, gone) {
			t.Error(s, "was changed")
		}
	}
	if !reflect.DeepEqual(c, was) || !reflect.DeepEqual(c.States[:len(c.States)+1], was.States[:len(c.States)+1]) || !reflect.DeepEqual(c.Trans[:len(c.Trans)+1], was.Trans[:len(c.Trans)+1]) {
		t.Error("the chart was changed")
	}
	for i, q := range before {
		if p[i].State != q.State || len(p[i].Set) != len(q.Set) || !slices.Equal(p[i].Set[:len(q.Set)+2], q.Set[:len(q.Set)+2]) {
			t.Error("what is remembered was changed", p)
		}
	}
}

// P12.2, P12.3: what is answered is new, spare room included, and no two lists
// of one answer share any.
func TestNothingIsShared(t *testing.T) {
	c := to(t, "a", "p")
	l, left := places(t, c, "r q u e k n x z l t o"), places(t, c, "u t")
	const told = "h=a,g=w,b=y,p=w z l"
	p := pasts(t, c, told)
	first, again := Enter(c, 0, p), Enter(c, 0, p)
	first = first[:cap(first)]
	for i := range first {
		first[i] = -7
	}
	if names(c, again) != "q u w x z l" || !slices.Equal(Enter(c, 0, p), again) || shown(c, p) != told {
		t.Error("Enter shares memory")
	}
	const want = "h=a,s=e,g=n,b=y,p=w z l,y1=o"
	for n := range 6 {
		got, other := Record(c, l, left, p), Record(c, l, left, p)
		if shown(c, got) != want {
			t.Fatal(shown(c, got))
		}
		set := got[n].Set[:cap(got[n].Set)]
		for i := range set {
			set[i] = -7
		}
		got[n].Set = other[n].Set
		if shown(c, got) != want || shown(c, other) != want || shown(c, p) != told || names(c, l) != "r q u e k n x z l t o" || names(c, left) != "u t" {
			t.Error("Record's list", n, "shares memory")
		}
		room := got[:cap(got)]
		for i := range room {
			room[i] = api.Past{State: -7}
		}
		if shown(c, other) != want || shown(c, p) != told || !same(Record(c, l, left, p), other) {
			t.Error("Record shares memory")
		}
	}
}
