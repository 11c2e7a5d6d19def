package micro

import (
	"math"
	"reflect"
	"slices"
	"strconv"
	"strings"
	"testing"

	"quintain/acts"
	"quintain/api"
	"quintain/chart"
	"quintain/conf"
	"quintain/plane"
	"quintain/valid"
)

// parsed answers the chart of a text whose lines are parted by /.
func parsed(t *testing.T, s string) api.Chart {
	t.Helper()
	c, n, e := chart.Parse(strings.ReplaceAll(s, "/", "\n"))
	if e != api.OK || valid.Check(c) != api.OK {
		t.Fatalf("%.300q: line %d: %v, %v", s, n, e, valid.Check(c))
	}
	return c
}

// places answers the places of the states with these names, in their order.
func places(t *testing.T, c api.Chart, names string) []int {
	t.Helper()
	var l []int
	for _, name := range strings.Fields(names) {
		i := valid.Place(c, name)
		if i == -1 {
			t.Fatal("there is no state", name)
		}
		l = append(l, i)
	}
	return l
}

// names answers the names of these places.
func names(c api.Chart, l []int) string {
	var w []string
	for _, i := range l {
		w = append(w, c.States[i].Name)
	}
	return strings.Join(w, " ")
}

// pasts answers what a text tells: each history, and behind = the names of what
// it remembers; they are parted by commas.
func pasts(t *testing.T, c api.Chart, s string) []api.Past {
	t.Helper()
	var l []api.Past
	for _, w := range strings.FieldsFunc(s, func(r rune) bool { return r == ',' }) {
		name, set, _ := strings.Cut(w, "=")
		l = append(l, api.Past{State: places(t, c, name)[0], Set: places(t, c, set)})
	}
	return l
}

// held answers the text of a value.
func held(v api.Value) string {
	switch v.Kind {
	case api.KBool:
		return strconv.FormatBool(v.A == 1)
	case api.KPoint:
		p, _ := plane.Made(v.A, v.B)
		s, _ := plane.Show(p)
		return s
	}
	return strconv.FormatInt(v.A, 10)
}

// shown answers a machine as a text, its parts parted by semicolons: states,
// what is remembered, values, the queue, and Steps, Fuel, Status and Lost.
func shown(c api.Chart, m api.Machine) string {
	var p, v []string
	for _, past := range m.Pasts {
		p = append(p, c.States[past.State].Name+"="+names(c, past.Set))
	}
	for _, val := range m.Vals {
		v = append(v, held(val))
	}
	counts := strconv.Itoa(m.Steps) + " " + strconv.Itoa(m.Fuel) + " " + strconv.Itoa(m.Status) + " " + strconv.Itoa(m.Lost)
	return strings.Join([]string{names(c, m.Conf), strings.Join(p, ","), strings.Join(v, " "), strings.Join(m.Queue, " "), counts}, "; ")
}

// machine answers c's, in these states, with these names in its queue, and
// variables that hold their Inits.
func machine(t *testing.T, c api.Chart, states, queue string) api.Machine {
	t.Helper()
	m := api.Machine{Conf: places(t, c, states), Queue: strings.Fields(queue)}
	for _, v := range c.Vars {
		m.Vals = append(m.Vals, v.Init)
	}
	if !Right(c, m) {
		t.Fatal(states, queue, "isn't right")
	}
	return m
}

// wantStart holds what c begins with against its text, what was sent behind >,
// and against what the document says.
func wantStart(t *testing.T, c api.Chart, want string) api.Machine {
	t.Helper()
	m, sent := Start(c)
	if got := shown(c, m) + " > " + strings.Join(sent, " "); got != want {
		t.Errorf("%s: started\n%s, not\n%s", told(c), got, want)
	}
	wantSaidStart(t, c)
	return m
}

// wantStep holds what m is behind a step against its text, what was sent and
// the transitions behind >, and against what the document says.
func wantStep(t *testing.T, c api.Chart, m api.Machine, event, want string) api.Machine {
	t.Helper()
	n, sent, taken := Step(c, m, event)
	var w []string
	for _, i := range taken {
		w = append(w, strconv.Itoa(i))
	}
	if got := shown(c, n) + " > " + strings.Join(sent, " ") + " > " + strings.Join(w, " "); got != want {
		t.Errorf("%s: from %s by %q\n%s, not\n%s", told(c), shown(c, m), event, got, want)
	}
	wantSaid(t, c, m, event)
	return n
}

// P13.1, P13.2: the chapter's example.
func TestExample(t *testing.T) {
	c := parsed(t, "chart c/event go/int x 0 9 0/one r a/ basic a/  on go x<3 - x=x+1")
	m := wantStart(t, c, "r a; ; 0; ; 0 0 0 0 > ")
	for _, want := range []string{"r a; ; 1; ; 0 0 0 0 >  > 0", "r a; ; 2; ; 0 0 0 0 >  > 0", "r a; ; 3; ; 0 0 0 0 >  > 0", "r a; ; 3; ; 0 0 0 0 >  > ", "r a; ; 3; ; 0 0 0 0 >  > "} {
		m = wantStep(t, c, m, "go", want)
	}
}

// P13.1: what a chart begins with: blocks of what is entered, in order.
func TestStart(t *testing.T) {
	for _, row := range []struct{ chart, want string }{
		{"one r a/ basic a", "r a; ; 0 true 1-2i; ; 0 0 0 0 > "},
		// Entry alone is done, of what is entered alone, rising.
		{"one r b/ entry x=1;send:go/ exit x=9;send:up/ basic a/  entry x=8;send:up/ one b d/  entry x=x*10+2;raise:go;send:up/  basic d/   entry x=x*10+3;raise:up/   exit x=7/   on - - a x=6", "r b d; ; 123 true 1-2i; go up; 0 0 0 0 > go up"},
		{"one r a/ entry send:go/ basic a/  entry send:up/one s d/ entry send:go;send:go/ basic d/  entry send:up;send:up", "r a s d; ; 0 true 1-2i; ; 0 0 0 0 > go up go go up up"},
		{"one r q/ both q/  entry x=x+1/  one u v/   entry x=x*10+2/   basic v/    entry x=x*10+3/  basic l/   entry x=x*10+4;b=x=1234;p=p*1i", "r q u v l; ; 1234 true 2+1i; ; 0 0 0 0 > "},
		// A block that fails: error, and the rest of it isn't done.
		{"one r a/ entry x=2;send:go;x=-1;send:up;raise:up/ basic a/  entry x=x+3;send:up", "r a; ; 5 true 1-2i; error; 0 0 0 0 > go up"},
		{"one r a/ entry x=1%0;raise:go/ basic a/  entry b=1%0=1/one s d/ basic d/  entry p=p*p*p*p*p*p*p*p;b=false", "r a s d; ; 0 true 1-2i; error error error; 0 0 0 0 > "},
		// Final ones: done. is raised behind what Entry raises.
		{"one r f/ final f/one s a/ basic a", "r f s a; ; 0 true 1-2i; done.r; 0 0 0 0 > "},
		{"one r f/ final f/  entry raise:go;send:up/one s a/ basic a/  entry raise:up", "r f s a; ; 0 true 1-2i; go done.r up; 0 0 0 0 > up"},
		{"one r f/ final f/  entry raise:go;x=-1;raise:up/one s a/ basic a", "r f s a; ; 0 true 1-2i; go error done.r; 0 0 0 0 > "},
		{"one r a/ one a f/  final f/one s d/ basic d", "r a f s d; ; 0 true 1-2i; done.a; 0 0 0 0 > "},
		// All regions are over at once.
		{"one r f/ final f", "r f; ; 0 true 1-2i; done.r; 0 0 1 0 > "},
		{"one r f/ final f/one s g/ final g/one o h/ final h/one k j/ final j", "r f s g o h k j; ; 0 true 1-2i; done.r done.s done.o done.k; 0 0 1 0 > "},
		// But not, if one of them isn't, be it the first or the last one.
		{"one r f/ final f/one s g/ final g/one o h/ basic h", "r f s g o h; ; 0 true 1-2i; done.r done.s; 0 0 0 0 > "},
		{"one r a/ basic a/one s g/ final g", "r a s g; ; 0 true 1-2i; done.s; 0 0 0 0 > "},
		{"one r a/ one a f/  final f", "r a f; ; 0 true 1-2i; done.a; 0 0 0 0 > "},
		// An SBoth that is over by its start.
		{"one r q/ both q/  one u v/   final v/  one y z/   final z", "r q u v y z; ; 0 true 1-2i; done.u done.y done.q; 0 0 0 0 > "},
		{"one r q/ both q/  one u v/   final v", "r q u v; ; 0 true 1-2i; done.u done.q; 0 0 0 0 > "},
		{"one r q/ both q/  one u v/   final v/    entry raise:go/  one y z/   final z/    entry raise:up", "r q u v y z; ; 0 true 1-2i; go done.u up done.y done.q; 0 0 0 0 > "},
		// One that isn't, for one of its children isn't.
		{"one r q/ both q/  one u v/   final v/  one y z/   basic z", "r q u v y z; ; 0 true 1-2i; done.u; 0 0 0 0 > "},
		{"one r q/ both q/  one u v/   basic v/  one y z/   final z", "r q u v y z; ; 0 true 1-2i; done.y; 0 0 0 0 > "},
		{"one r q/ both q/  one u v/   final v/  basic l", "r q u v l; ; 0 true 1-2i; done.u; 0 0 0 0 > "},
		{"one r q/ both q/  basic l/  one u v/   final v", "r q l u v; ; 0 true 1-2i; done.u; 0 0 0 0 > "},
		{"one r q/ both q/  basic l", "r q l; ; 0 true 1-2i; ; 0 0 0 0 > "},
		{"one r q/ both q/  one u v/   final v/  one y z/   one z f/    final f", "r q u v y z f; ; 0 true 1-2i; done.u done.z; 0 0 0 0 > "},
		// An SBoth within an SBoth: one by one, upward.
		{"one r q/ both q/  both d/   one u v/    final v/   one y z/    final z", "r q d u v y z; ; 0 true 1-2i; done.u done.y done.d done.q; 0 0 0 0 > "},
		{"one r q/ both q/  both d/   one u v/    final v/  one y z/   final z", "r q d u v y z; ; 0 true 1-2i; done.u done.d done.y done.q; 0 0 0 0 > "},
		{"one r q/ both q/  one y z/   final z/  both d/   one u v/    final v", "r q y z d u v; ; 0 true 1-2i; done.y done.u done.d done.q; 0 0 0 0 > "},
		{"one r q/ both q/  both d/   one u v/    final v/  one y z/   basic z", "r q d u v y z; ; 0 true 1-2i; done.u done.d; 0 0 0 0 > "},
		{"one r q/ both q/  both d/   one u v/    final v/   basic l/  one y z/   final z", "r q d u v l y z; ; 0 true 1-2i; done.u done.y; 0 0 0 0 > "},
		{"one r q/ both q/  both d/   both k/    one u v/     final v", "r q d k u v; ; 0 true 1-2i; done.u done.k done.d done.q; 0 0 0 0 > "},
		// What it stands in is an SOne: that is over by its own final child alone.
		{"one r a/ one a q/  both q/   one u v/    final v", "r a q u v; ; 0 true 1-2i; done.u done.q; 0 0 0 0 > "},
		{"one r q/ both q/  one u d/   both d/    one k v/     final v", "r q u d k v; ; 0 true 1-2i; done.k done.d; 0 0 0 0 > "},
		// Two of them in two regions.
		{"one r q/ both q/  one u v/   final v/one s d/ both d/  one y z/   final z", "r q u v s d y z; ; 0 true 1-2i; done.u done.q done.y done.d; 0 0 0 0 > "},
	} {
		c := parsed(t, "chart c/event go/event up/int x 0 9999 0/bool b true/point p -99 99 1-2i/"+row.chart)
		m := wantStart(t, c, row.want)
		if !Right(c, m) {
			t.Error(row.chart, "starts with what isn't right")
		}
	}
}

// P13.1: without variables, and with as many as there may be, of all kinds.
func TestStartValues(t *testing.T) {
	wantStart(t, parsed(t, "chart c/one r a/ basic a"), "r a; ; ; ; 0 0 0 0 > ")
	c := parsed(t, "chart c/int a -5 -1 -3/bool b false/point d -1048576 1048576 1048576-1048576i/int e 0 0 0/int f -1099511627776 1099511627776 1099511627776/bool g true/point h 0 0 0+0i/int i -1099511627776 0 -1099511627776/one r a/ basic a")
	m := wantStart(t, c, "r a; ; -3 false 1048576-1048576i 0 1099511627776 true 0+0i -1099511627776; ; 0 0 0 0 > ")
	if !Right(c, m) {
		t.Error("not right")
	}
}

// ordered has blocks that each put a digit behind x, and raise and send an
// event of that digit, so that the order is told three times.
const ordered = "chart o/event go/event up/event e1/event e2/event e3/event e4/event e5/event e6/event e7/event e8/event e9/int x 0 1000000000000 0" +
	"/one r a" +
	"/ basic a" +
	"/  entry x=x*10+1;raise:e1;send:e1" +
	"/  exit x=x*10+2;raise:e2;send:e2" +
	"/  on go - b x=x*10+3;raise:e3;send:e3" + // 0
	"/  on up - h x=x*10+3;raise:e3;send:e3" + // 1
	"/  on e1 - g x=x*10+3;raise:e3;send:e3" + // 2
	"/  on e2 - - x=x*10+3;raise:e3;send:e3" + // 3
	"/  on e3 - a -" + // 4
	"/ one b d" +
	"/  entry x=x*10+4;raise:e4;send:e4" +
	"/  exit x=x*10+5;raise:e5;send:e5" +
	"/  on go - a x=x*10+6;raise:e6;send:e6" + // 5
	"/  on e2 - - x=x*10+6;raise:e6;send:e6" + // 6
	"/  basic d" +
	"/   entry x=x*10+7;raise:e7;send:e7" +
	"/   exit x=x*10+8;raise:e8;send:e8" +
	"/   on up - k x=x*10+3;raise:e3;send:e3" + // 7
	"/   on e3 - d x=x*10+3;raise:e3;send:e3" + // 8
	"/  one k m" +
	"/   entry x=x*10+9;raise:e9;send:e9" +
	"/   exit x=x*10;raise:up;send:up" +
	"/   basic m" +
	"/    entry x=x*10+1;raise:e1;send:e1" +
	"/    exit x=x*10+2;raise:e2;send:e2" +
	"/    on up - d -" + // 9
	"/    on e3 - b x=x*10+3;raise:e3;send:e3" + // 10
	"/  shallow h k" +
	"/  deep g k"

// P13.2: Exit of what is left falls, then Acts, then Entry of what is entered
// rises; each finds variables as those ahead left them.
func TestOrder(t *testing.T) {
	c := parsed(t, ordered)
	for _, row := range []struct{ states, pasts, event, want string }{
		// No transition, and one without To.
		{"r a", "", "e9", "r a; ; 0; ; 0 0 0 0 >  > "},
		{"r a", "", "", "r a; ; 0; ; 0 0 0 0 >  > "},
		{"r a", "", "e2", "r a; ; 3; e3; 0 0 0 0 > e3 > 3"},
		{"r b k m", "h=d", "e2", "r b k m; h=d; 6; e6; 0 0 0 0 > e6 > 6"},
		// To itself: it is left and entered, without a block too.
		{"r a", "", "e3", "r a; ; 21; e2 e1; 0 0 0 0 > e2 e1 > 4"},
		{"r b d", "", "e3", "r b d; ; 837; e8 e3 e7; 0 0 0 0 > e8 e3 e7 > 8"},
		// Several states are entered, and left.
		{"r a", "", "go", "r b d; ; 2347; e2 e3 e4 e7; 0 0 0 0 > e2 e3 e4 e7 > 0"},
		{"r b d", "", "go", "r a; h=d,g=d; 8561; e8 e5 e6 e1; 0 0 0 0 > e8 e5 e6 e1 > 5"},
		{"r b k m", "", "go", "r a; h=k,g=m; 20561; e2 up e5 e6 e1; 0 0 0 0 > e2 up e5 e6 e1 > 5"},
		// Within b, which isn't left, so that nothing is remembered.
		{"r b d", "", "up", "r b k m; ; 8391; e8 e3 e9 e1; 0 0 0 0 > e8 e3 e9 e1 > 7"},
		{"r b k m", "h=d", "up", "r b d; h=d; 207; e2 up e7; 0 0 0 0 > e2 up e7 > 9"},
		// b itself is left and entered.
		{"r b k m", "g=d", "e3", "r b d; h=k,g=m; 205347; e2 up e5 e3 e4 e7; 0 0 0 0 > e2 up e5 e3 e4 e7 > 10"},
		// Into histories.
		{"r a", "", "up", "r b k m; ; 23491; e2 e3 e4 e9 e1; 0 0 0 0 > e2 e3 e4 e9 e1 > 1"},
		{"r a", "h=d", "up", "r b d; h=d; 2347; e2 e3 e4 e7; 0 0 0 0 > e2 e3 e4 e7 > 1"},
		{"r a", "h=k,g=d", "up", "r b k m; h=k,g=d; 23491; e2 e3 e4 e9 e1; 0 0 0 0 > e2 e3 e4 e9 e1 > 1"},
		{"r a", "", "e1", "r b k m; ; 23491; e2 e3 e4 e9 e1; 0 0 0 0 > e2 e3 e4 e9 e1 > 2"},
		{"r a", "g=d", "e1", "r b d; g=d; 2347; e2 e3 e4 e7; 0 0 0 0 > e2 e3 e4 e7 > 2"},
		{"r a", "h=d,g=m", "e1", "r b k m; h=d,g=m; 23491; e2 e3 e4 e9 e1; 0 0 0 0 > e2 e3 e4 e9 e1 > 2"},
	} {
		m := machine(t, c, row.states, "")
		m.Pasts = pasts(t, c, row.pasts)
		wantStep(t, c, m, row.event, row.want)
		// What was in the queue stays ahead; the event needn't be in it.
		m.Queue = []string{"done.b", "go", "error"}
		n, _, _ := Step(c, m, row.event)
		if len(n.Queue) < 3 || !slices.Equal(n.Queue[:3], m.Queue) {
			t.Error(row, n.Queue)
		}
		wantSaid(t, c, m, row.event)
	}
}

// P13.2: from step to step, what is remembered and raised is kept.
func TestSteps(t *testing.T) {
	c := parsed(t, ordered)
	m := wantStart(t, c, "r a; ; 1; e1; 0 0 0 0 > e1")
	m = wantStep(t, c, m, "e1", "r b k m; ; 123491; e1 e2 e3 e4 e9 e1; 0 0 0 0 > e2 e3 e4 e9 e1 > 2")
	m.Vals[0].A, m.Queue, m.Steps, m.Fuel = 0, nil, 7, 5
	m = wantStep(t, c, m, "go", "r a; h=k,g=m; 20561; e2 up e5 e6 e1; 7 5 0 0 > e2 up e5 e6 e1 > 5")
	m.Vals[0].A, m.Queue = 0, nil
	m = wantStep(t, c, m, "up", "r b k m; h=k,g=m; 23491; e2 e3 e4 e9 e1; 7 5 0 0 > e2 e3 e4 e9 e1 > 1")
	m = wantStep(t, c, m, "up", "r b d; h=k,g=m; 23491207; e2 e3 e4 e9 e1 e2 up e7; 7 5 0 0 > e2 up e7 > 9")
	m.Queue = nil
	m = wantStep(t, c, m, "go", "r a; h=d,g=d; 234912078561; e8 e5 e6 e1; 7 5 0 0 > e8 e5 e6 e1 > 5")
	// Now x goes over: each block fails by itself.
	m.Queue = nil
	m = wantStep(t, c, m, "go", "r b d; h=d,g=d; 234912078561; error error error error; 7 5 0 0 >  > 0")
	if !Right(c, m) {
		t.Error("not right")
	}
}

// P13.2: several transitions: all Exits ahead of all Acts, these ahead of all
// Entries.
func TestSeveral(t *testing.T) {
	c := parsed(t, "chart c/event go/event up/int x 0 1000000000000 0"+
		"/one r q/ both q/  exit x=x*10+9"+
		"/  one u v/   basic v/    exit x=x*10+1/    on go - w x=x*10+2/    on up - a x=x*10+5/   basic w/    entry x=x*10+3"+ // 0, 1
		"/  one y z/   basic z/    exit x=x*10+4/    on go - k x=x*10+5/    on up - a x=x*10+2/   basic k/    entry x=x*10+6"+ // 2, 3
		"/ basic a/  entry x=x*10+8"+
		"/one s t/ basic t/  exit x=x*10+7/  on go - o x=x*10+8/  on up - - x=x*10/ basic o/  entry x=x*10+9") // 4, 5
	m := wantStart(t, c, "r q u v y z s t; ; 0; ; 0 0 0 0 > ")
	wantStep(t, c, m, "go", "r q u w y k s o; ; 741258369; ; 0 0 0 0 >  > 0 2 4")
	// The first one leaves q, and with it what the other one would.
	wantStep(t, c, m, "up", "r a s t; ; 419508; ; 0 0 0 0 >  > 1 5")
	m.Conf = places(t, c, "r q u w y z s t")
	wantStep(t, c, m, "go", "r q u w y k s o; ; 745869; ; 0 0 0 0 >  > 2 4")
	m.Conf = places(t, c, "r q u v y k s o")
	wantStep(t, c, m, "go", "r q u w y k s o; ; 123; ; 0 0 0 0 >  > 0")
}

// P13.2: what is entered is told by what histories remembered ahead of the
// step, though the step itself lets them remember something else.
func TestRemembered(t *testing.T) {
	c := parsed(t, "chart c/event go/event up"+
		"/one r q/ both q"+
		"/  one u v/   basic v/    on go - h -/    on up - g -/   basic w"+
		"/  one y z/   basic z/   basic k/   shallow h z/   deep g k"+
		"/ shallow i a/ basic a/  on go - i -")
	m := machine(t, c, "r q u v y z", "")
	wantStep(t, c, m, "go", "r q u v y z; h=z,g=z; ; ; 0 0 0 0 >  > 0")
	wantStep(t, c, m, "up", "r q u v y k; h=z,g=z; ; ; 0 0 0 0 >  > 1")
	m.Pasts = pasts(t, c, "h=k,g=z")
	wantStep(t, c, m, "go", "r q u v y k; h=z,g=z; ; ; 0 0 0 0 >  > 0")
	wantStep(t, c, m, "up", "r q u v y z; h=z,g=z; ; ; 0 0 0 0 >  > 1")
	m.Pasts, m.Conf = pasts(t, c, "h=z,g=k,i=a"), places(t, c, "r q u v y k")
	wantStep(t, c, m, "go", "r q u v y z; h=k,g=k,i=a; ; ; 0 0 0 0 >  > 0")
	m.Pasts = pasts(t, c, "g=z")
	wantStep(t, c, m, "go", "r q u v y z; h=k,g=k; ; ; 0 0 0 0 >  > 0")
	// r isn't left, so what i remembers stays.
	m.Conf, m.Pasts = places(t, c, "r a"), pasts(t, c, "i=q")
	wantStep(t, c, m, "go", "r q u v y z; i=q; ; ; 0 0 0 0 >  > 2")
}

// P13.2: what is over by what is entered.
func TestOver(t *testing.T) {
	c := parsed(t, "chart c/event go/event up/event on"+
		"/one r q/ both q"+
		"/  one u v/   on on - f -/   basic v/    on go - f -/    on up - a -/   final f/    entry raise:go"+ // 0, 1, 2
		"/  both d"+
		"/   one m n/    on on - n -/    basic n/     on go - j -/    final j"+ // 3, 4
		"/   one y z/    on up - k -/    basic z/     on go - k -/     on on - k -/    final k"+ // 5, 6, 7
		"/ final a/one s t/ basic t/  on up - o -/ final o") // 8
	for _, row := range []struct{ states, event, want string }{
		// By the last one of them alone.
		{"r q u v d m n y z s t", "go", "r q u f d m j y k s t; ; ; go done.u done.m done.y done.d done.q; 0 0 0 0 >  > 1 4 6"},
		{"r q u v d m j y k s t", "go", "r q u f d m j y k s t; ; ; go done.u done.q; 0 0 0 0 >  > 1"},
		{"r q u f d m n y k s t", "go", "r q u f d m j y k s t; ; ; done.m done.d done.q; 0 0 0 0 >  > 4"},
		{"r q u f d m n y z s t", "go", "r q u f d m j y k s t; ; ; done.m done.y done.d done.q; 0 0 0 0 >  > 4 6"},
		{"r q u f d m j y z s t", "on", "r q u f d m n y k s t; ; ; go done.u done.y; 0 0 0 0 >  > 0 3 7"},
		// Part of it.
		{"r q u v d m n y k s t", "go", "r q u f d m j y k s t; ; ; go done.u done.m done.d done.q; 0 0 0 0 >  > 1 4"},
		{"r q u v d m j y z s t", "on", "r q u f d m n y k s t; ; ; go done.u done.y; 0 0 0 0 >  > 0 3 7"},
		// What was left doesn't count any more.
		{"r q u f d m j y k s t", "on", "r q u f d m n y k s t; ; ; go done.u; 0 0 0 0 >  > 0 3"},
		// It was over ahead already: it is told again.
		{"r q u f d m j y k s t", "up", "r q u f d m j y k s o; ; ; done.y done.d done.q done.s; 0 0 0 0 >  > 5 8"},
		// All regions are over behind it.
		{"r q u v d m n y z s t", "up", "r a s o; ; ; done.r done.s; 0 0 1 0 >  > 2 8"},
		{"r a s t", "up", "r a s o; ; ; done.s; 0 0 1 0 >  > 8"},
		{"r q u v d m n y z s o", "up", "r a s o; ; ; done.r; 0 0 1 0 >  > 2"},
		{"r q u v d m n y z s o", "go", "r q u f d m j y k s o; ; ; go done.u done.m done.y done.d done.q; 0 0 0 0 >  > 1 4 6"},
		{"r a s o", "go", "r a s o; ; ; ; 0 0 1 0 >  > "},
		{"r a s o", "", "r a s o; ; ; ; 0 0 1 0 >  > "},
		{"r a s t", "go", "r a s t; ; ; ; 0 0 0 0 >  > "},
	} {
		m := machine(t, c, row.states, "")
		n := wantStep(t, c, m, row.event, row.want)
		// Of what had a status already, nothing becomes Done.
		for _, status := range []int{api.Done, api.Diverged} {
			m.Status, n.Status = status, status
			if got, _, _ := Step(c, m, row.event); shown(c, got) != shown(c, n) {
				t.Error(status, shown(c, got))
			}
			wantSaid(t, c, m, row.event)
		}
	}
}

// P13.2: a block that fails ends itself, and no other one.
func TestFails(t *testing.T) {
	for _, row := range []struct{ exit, acts, entry, want string }{
		{"x=x+1;send:go", "x=x*10+2;send:go", "x=x*10+3;send:up", "r b; ; 123; ; 0 0 0 0 > go go up > 0"},
		{"x=1;raise:go;x=1%0;x=2;raise:up;send:up", "x=x*10+2", "x=x*10+3", "r b; ; 123; go error; 0 0 0 0 >  > 0"},
		{"x=x+1", "x=x*10+2;send:go;x=-1;x=5;send:up;raise:up", "x=x*10+3;raise:go", "r b; ; 123; error go; 0 0 0 0 > go > 0"},
		{"x=x+1", "x=x*10+2", "raise:go;x=x*10+3;x=10000;x=x*10+4;send:up", "r b; ; 123; go error; 0 0 0 0 >  > 0"},
		{"x=-1", "x=-1", "x=-1", "r b; ; 0; error error error; 0 0 0 0 >  > 0"},
		{"x=10000;send:go", "x=9999;send:go", "x=x+1;send:up", "r b; ; 9999; error error; 0 0 0 0 > go > 0"},
		{"-", "-", "-", "r b; ; 0; ; 0 0 0 0 >  > 0"},
	} {
		text := "chart c/event go/event up/int x 0 9999 0/one r a/ basic a/  exit " + row.exit + "/  on go - b " + row.acts + "/ basic b/  entry " + row.entry
		if row.exit == "-" {
			text = "chart c/event go/event up/int x 0 9999 0/one r a/ basic a/  on go - b -/ basic b"
		}
		c := parsed(t, text)
		wantStep(t, c, machine(t, c, "r a", ""), "go", row.want)
	}
}

// queue answers one of n names.
func queue(n int) string { return strings.Repeat("go ", n) }

// P13.2: what is raised while the queue is full is lost.
func TestLost(t *testing.T) {
	c := parsed(t, "chart c/event go/event up/int x 0 9 0/one r a/ basic a/  on go - - raise:up;raise:go;send:go/  on up - f raise:up;x=-1/  on error - q -/ both q/  one u v/   final v/    entry raise:up/  one y z/   final z/ final f/  entry raise:go")
	for _, row := range []struct {
		waits       int
		lost        int
		event, want string
	}{
		{13, 0, "go", "r a; ; 0; " + queue(13) + "up go; 0 0 0 0 > go > 0"},
		{14, 0, "go", "r a; ; 0; " + queue(14) + "up go; 0 0 0 0 > go > 0"},
		{15, 0, "go", "r a; ; 0; " + queue(15) + "up; 0 0 0 1 > go > 0"},
		{16, 0, "go", "r a; ; 0; " + queue(15) + "go; 0 0 0 2 > go > 0"},
		{15, 7, "go", "r a; ; 0; " + queue(15) + "up; 0 0 0 8 > go > 0"},
		{16, 7, "nothing", "r a; ; 0; " + queue(15) + "go; 0 0 0 7 >  > "},
		// Of error and of done. too.
		{12, 0, "up", "r f; ; 0; " + queue(12) + "up error go done.r; 0 0 1 0 >  > 1"},
		{13, 0, "up", "r f; ; 0; " + queue(13) + "up error go; 0 0 1 1 >  > 1"},
		{14, 0, "up", "r f; ; 0; " + queue(14) + "up error; 0 0 1 2 >  > 1"},
		{15, 0, "up", "r f; ; 0; " + queue(15) + "up; 0 0 1 3 >  > 1"},
		{16, 0, "up", "r f; ; 0; " + queue(15) + "go; 0 0 1 4 >  > 1"},
		{12, 0, "error", "r q u v y z; ; 0; " + queue(12) + "up done.u done.y done.q; 0 0 0 0 >  > 2"},
		{13, 1, "error", "r q u v y z; ; 0; " + queue(13) + "up done.u done.y; 0 0 0 2 >  > 2"},
		{14, 0, "error", "r q u v y z; ; 0; " + queue(14) + "up done.u; 0 0 0 2 >  > 2"},
		{16, 0, "error", "r q u v y z; ; 0; " + queue(15) + "go; 0 0 0 4 >  > 2"},
		// To 2^40 and no further.
		{16, 1<<40 - 3, "go", "r a; ; 0; " + queue(15) + "go; 0 0 0 1099511627775 > go > 0"},
		{16, 1<<40 - 2, "go", "r a; ; 0; " + queue(15) + "go; 0 0 0 1099511627776 > go > 0"},
		{16, 1<<40 - 1, "go", "r a; ; 0; " + queue(15) + "go; 0 0 0 1099511627776 > go > 0"},
		{16, 1 << 40, "go", "r a; ; 0; " + queue(15) + "go; 0 0 0 1099511627776 > go > 0"},
		{15, 1 << 40, "go", "r a; ; 0; " + queue(15) + "up; 0 0 0 1099511627776 > go > 0"},
		{14, 1 << 40, "go", "r a; ; 0; " + queue(14) + "up go; 0 0 0 1099511627776 > go > 0"},
	} {
		m := machine(t, c, "r a", queue(row.waits))
		m.Lost = row.lost
		if n := wantStep(t, c, m, row.event, row.want); !Right(c, n) {
			t.Error(row, "isn't right")
		}
	}
	// At the start, too.
	c = parsed(t, "chart c/event go/one r f/ entry "+strings.Repeat("raise:go;", 7)+"raise:go/ final f/  entry "+strings.Repeat("raise:go;", 7)+"raise:go")
	wantStart(t, c, "r f; ; ; "+queue(15)+"go; 0 0 1 1 > ")
}

// P13.2: by which event; the queue isn't asked.
func TestEvents(t *testing.T) {
	c := parsed(t, "chart c/event go/event up/int x 0 99 0/one r a/ basic a/  on go - - x=1/  on - x>5 - x=2/  on error - - x=3/  on done.r - - x=4/  on done.q - - x=5/ both q/  basic d/   on - - a x=7")
	for _, row := range []struct{ event, want string }{
		{"go", "r a; ; 1; go up; 0 0 0 0 >  > 0"},
		{"up", "r a; ; 0; go up; 0 0 0 0 >  > "},
		{"", "r a; ; 0; go up; 0 0 0 0 >  > "},
		{"error", "r a; ; 3; go up; 0 0 0 0 >  > 2"},
		{"done.r", "r a; ; 4; go up; 0 0 0 0 >  > 3"},
		{"done.q", "r a; ; 5; go up; 0 0 0 0 >  > 4"},
		{"done.a", "r a; ; 0; go up; 0 0 0 0 >  > "},
		{"done.", "r a; ; 0; go up; 0 0 0 0 >  > "},
		{"-", "r a; ; 0; go up; 0 0 0 0 >  > "},
		{"go ", "r a; ; 0; go up; 0 0 0 0 >  > "},
		{"nothing", "r a; ; 0; go up; 0 0 0 0 >  > "},
		{"\x00", "r a; ; 0; go up; 0 0 0 0 >  > "},
		{strings.Repeat("go", 1<<20), "r a; ; 0; go up; 0 0 0 0 >  > "},
	} {
		n := wantStep(t, c, machine(t, c, "r a", "go up"), row.event, row.want)
		if row.want[6:7] == "0" && !reflect.DeepEqual(n, machine(t, c, "r a", "go up")) {
			t.Error(row.event, shown(c, n))
		}
	}
	m := machine(t, c, "r q d", "")
	wantStep(t, c, m, "", "r a; ; 7; ; 0 0 0 0 >  > 5")
	m = machine(t, c, "r a", "")
	m.Vals[0].A = 6
	wantStep(t, c, m, "", "r a; ; 2; ; 0 0 0 0 >  > 1")
}

// full is a chart with variables of each kind, histories, and states of each
// kind; machines of it are changed in one thing.
const full = "chart c/event go/event up/int x -3 9 0/bool b true/point p -4 5 1-2i" +
	"/one r q/ both q/  one u v/   basic v/    on go - w -/   final w/   shallow h w/   deep g v/  basic l/ basic a/ deep k a/one s t/ basic t/ final o"

// wantRight holds whether a machine is right against what is wanted, and asks
// that of one that isn't there is no step.
func wantRight(t *testing.T, what string, c api.Chart, m api.Machine, want bool) {
	t.Helper()
	if got := Right(c, m); got != want {
		t.Errorf("%s: %v", what, got)
	}
	if got := saidRight(c, m); got != want {
		t.Errorf("%s: it is said that %v", what, got)
	}
	for _, event := range []string{"go", "", "nothing"} {
		n, sent, taken := Step(c, m, event)
		if !want && (!reflect.DeepEqual(n, api.Machine{}) || sent != nil || taken != nil) {
			t.Errorf("%s: a step to %v, %v, %v", what, n, sent, taken)
		}
		if want && !Right(c, n) {
			t.Errorf("%s: a step to %v", what, n)
		}
		wantSaid(t, c, m, event)
	}
}

// P13.1: counts and statuses.
func TestRightCounts(t *testing.T) {
	c := parsed(t, full)
	for what, at := range map[string]func(*api.Machine) *int{
		"Steps": func(m *api.Machine) *int { return &m.Steps },
		"Fuel":  func(m *api.Machine) *int { return &m.Fuel },
		"Lost":  func(m *api.Machine) *int { return &m.Lost },
	} {
		for _, n := range []int{0, 1, 2, 31, 32, 33, 1<<32 - 1, 1 << 32, 1<<40 - 1, 1 << 40} {
			m := machine(t, c, "r a s t", "")
			*at(&m) = n
			wantRight(t, what+" "+strconv.Itoa(n), c, m, true)
		}
		for _, n := range []int{-1, -2, 1<<40 + 1, 1 << 41, math.MaxInt, math.MinInt, math.MinInt + 1, -1 << 40} {
			m := machine(t, c, "r a s t", "")
			*at(&m) = n
			wantRight(t, what+" "+strconv.Itoa(n), c, m, false)
		}
	}
	for _, n := range []int{-1, 0, 1, 2, 3, 4, 1 << 32, 1<<32 + 1, math.MaxInt, math.MinInt} {
		m := machine(t, c, "r a s t", "")
		m.Status = n
		wantRight(t, "Status "+strconv.Itoa(n), c, m, n == 0 || n == 1 || n == 2)
	}
	// What has come to its end, and doesn't say so, and the other way about.
	m := machine(t, c, "r a s o", "")
	m.Status = api.Done
	wantRight(t, "done ahead of its end", c, m, true)
	m = machine(t, parsed(t, "chart c/one r a/ final a"), "r a", "")
	wantRight(t, "at its end", parsed(t, "chart c/one r a/ final a"), m, true)
}

// value answers a value of that kind.
func value(kind int, a, b int64) api.Value { return api.Value{Kind: kind, A: a, B: b} }

// P13.1: what variables hold.
func TestRightValues(t *testing.T) {
	c := parsed(t, full)
	for _, row := range []struct {
		at   int
		v    api.Value
		want bool
	}{
		// A number: at its bounds and beyond, of other kinds, with a part that it
		// hasn't.
		{0, value(1, -3, 0), true}, {0, value(1, 9, 0), true}, {0, value(1, 4, 0), true}, {0, value(1, -4, 0), false}, {0, value(1, 10, 0), false}, {0, value(1, math.MaxInt64, 0), false}, {0, value(1, math.MinInt64, 0), false},
		{0, value(2, 0, 0), false}, {0, value(2, 1, 0), false}, {0, value(3, 0, 0), false}, {0, value(3, 1, 1), false}, {0, value(0, 0, 0), false}, {0, value(4, 0, 0), false}, {0, value(-1, 0, 0), false}, {0, value(1, 4, 1), false}, {0, value(1, 4, -1), false},
		// A truth.
		{1, value(2, 0, 0), true}, {1, value(2, 1, 0), true}, {1, value(2, 2, 0), false}, {1, value(2, -1, 0), false}, {1, value(2, 1, 1), false}, {1, value(2, 0, 1), false}, {1, value(1, 1, 0), false}, {1, value(1, 0, 0), false}, {1, value(3, 1, 0), false}, {1, value(3, 0, 0), false}, {1, value(0, 1, 0), false}, {1, value(0, 0, 0), false},
		// A point: each of its parts.
		{2, value(3, -4, -4), true}, {2, value(3, 5, 5), true}, {2, value(3, -4, 5), true}, {2, value(3, 5, -4), true}, {2, value(3, 0, 0), true}, {2, value(3, -5, 0), false}, {2, value(3, 6, 0), false}, {2, value(3, 0, -5), false}, {2, value(3, 0, 6), false}, {2, value(3, 6, 6), false}, {2, value(3, 1<<20, 1<<20), false}, {2, value(3, math.MaxInt64, 0), false}, {2, value(3, 0, math.MinInt64), false},
		{2, value(1, 1, 0), false}, {2, value(2, 1, 0), false}, {2, value(2, 0, 0), false}, {2, value(0, 1, 1), false},
	} {
		m := machine(t, c, "r a s t", "")
		m.Vals[row.at] = row.v
		wantRight(t, strconv.Itoa(row.at)+" "+held(row.v), c, m, row.want)
	}
	m := machine(t, c, "r a s t", "")
	all := m.Vals
	for what, vals := range map[string][]api.Value{
		"none": nil, "one": all[:1], "two": all[:2], "without the first": all[1:], "one more": append(slices.Clone(all), all[0]), "another one more": append(slices.Clone(all), api.Value{}), "turned about": {all[2], all[1], all[0]}, "very many": slices.Repeat(all, 1<<16), "zeros": make([]api.Value, 3),
	} {
		m.Vals = vals
		wantRight(t, what, c, m, false)
	}
	// Without variables, and with bounds as wide as there may be.
	c = parsed(t, "chart c/event go/one r a/ basic a")
	m = machine(t, c, "r a", "")
	wantRight(t, "no variables", c, m, true)
	m.Vals = all[:1]
	wantRight(t, "a value of no variable", c, m, false)
	c = parsed(t, "chart c/event go/int x -1099511627776 1099511627776 0/point p -1048576 1048576 0+0i/one r a/ basic a")
	m = machine(t, c, "r a", "")
	for _, row := range []struct {
		x, a, b int64
		want    bool
	}{
		{1 << 40, 1 << 20, 1 << 20, true}, {-1 << 40, -1 << 20, -1 << 20, true}, {1<<40 + 1, 0, 0, false}, {-1<<40 - 1, 0, 0, false}, {0, 1<<20 + 1, 0, false}, {0, 0, 1<<20 + 1, false}, {0, -1<<20 - 1, 0, false}, {0, 0, -1<<20 - 1, false},
	} {
		m.Vals = []api.Value{value(1, row.x, 0), value(3, row.a, row.b)}
		wantRight(t, "wide", c, m, row.want)
	}
}

// P13.1: what waits within.
func TestRightQueue(t *testing.T) {
	c := parsed(t, full)
	for _, row := range []struct {
		queue []string
		want  bool
	}{
		{nil, true}, {[]string{}, true}, {[]string{"go"}, true}, {[]string{"up"}, true}, {[]string{"error"}, true}, {[]string{"go", "go", "up", "error", "error"}, true},
		// done. and what has an end.
		{[]string{"done.r"}, true}, {[]string{"done.q"}, true}, {[]string{"done.u"}, true}, {[]string{"done.s"}, true}, {[]string{"done.s", "done.r", "done.s", "go"}, true},
		{[]string{"done.v"}, false}, {[]string{"done.w"}, false}, {[]string{"done.l"}, false}, {[]string{"done.a"}, false}, {[]string{"done.o"}, false}, {[]string{"done.h"}, false}, {[]string{"done.g"}, false}, {[]string{"done.k"}, false},
		{[]string{"done.c"}, false}, {[]string{"done.x"}, false}, {[]string{"done.go"}, false}, {[]string{"done."}, false}, {[]string{"done"}, false}, {[]string{"done.done.r"}, false}, {[]string{"done.r "}, false}, {[]string{" done.r"}, false}, {[]string{"Done.r"}, false}, {[]string{"done.error"}, false}, {[]string{"doner"}, false},
		// Names of no event.
		{[]string{""}, false}, {[]string{"-"}, false}, {[]string{"r"}, false}, {[]string{"q"}, false}, {[]string{"x"}, false}, {[]string{"c"}, false}, {[]string{"nothing"}, false}, {[]string{"g"}, false}, {[]string{"goo"}, false}, {[]string{"go "}, false}, {[]string{"GO"}, false}, {[]string{"Error"}, false}, {[]string{"errors"}, false}, {[]string{"\x00"}, false}, {[]string{strings.Repeat("go", 1<<20)}, false},
		// Wherever it stands.
		{[]string{"nothing", "go"}, false}, {[]string{"go", "nothing"}, false}, {[]string{"go", "", "up"}, false}, {[]string{"go", "up", "done.v"}, false},
		// As many as there may be.
		{slices.Repeat([]string{"go"}, 15), true}, {slices.Repeat([]string{"go"}, 16), true}, {slices.Repeat([]string{"go"}, 17), false}, {slices.Repeat([]string{"done.r"}, 16), true}, {slices.Repeat([]string{"done.r"}, 17), false}, {slices.Repeat([]string{"go"}, 1<<16), false}, {append(slices.Repeat([]string{"go"}, 15), "nothing"), false},
	} {
		m := machine(t, c, "r a s t", "")
		m.Queue = row.queue
		wantRight(t, strings.Join(row.queue, ",")[:min(99, len(strings.Join(row.queue, ",")))], c, m, row.want)
	}
	// Without events; and with one that is called error.
	c = parsed(t, "chart c/one r a/ basic a")
	m := machine(t, c, "r a", "error done.r")
	for _, name := range []string{"go", "", "done.a", "r"} {
		m.Queue = []string{name}
		wantRight(t, name, c, m, false)
	}
	c = parsed(t, "chart c/event error/event r/one r a/ basic a")
	m = machine(t, c, "r a", "error r done.r error")
	m.Queue = []string{"a"}
	wantRight(t, "a", c, m, false)
}

// P13.1: states and histories.
func TestRightStates(t *testing.T) {
	c := parsed(t, full)
	for _, row := range []struct {
		states, pasts string
		want          bool
	}{
		{"r a s t", "", true}, {"r q u v l s t", "", true}, {"r q u w l s o", "", true}, {"r a s t", "h=v", true}, {"r q u v l s t", "h=w,g=v,k=a", true}, {"r a s o", "k=w l", true},
		{"", "", false}, {"r a", "", false}, {"a r s t", "", false}, {"r a a s t", "", false}, {"r a s t o", "", false}, {"r s t", "", false}, {"a s t", "", false}, {"r q u l s t", "", false}, {"r q u v s t", "", false}, {"r q l s t", "", false}, {"r q u v w l s t", "", false}, {"r q u h l s t", "", false}, {"r k s t", "", false}, {"r a k s t", "", false}, {"s t r a", "", false}, {"r a q u v l s t", "", false},
		{"r a s t", "h=", false}, {"r a s t", "h=a", false}, {"r a s t", "h=g", false}, {"r a s t", "h=v w", false}, {"r a s t", "g=u", false}, {"r a s t", "k=v", false}, {"r a s t", "k=l v", false}, {"r a s t", "k=q", false}, {"r a s t", "g=v,h=v", false}, {"r a s t", "h=v,h=v", false}, {"r a s t", "a=a", false}, {"r a s t", "r=a", false}, {"r a s t", "h=v,g=v,k=", false},
		{"r a", "h=a", false}, {"", "h=v", false},
	} {
		m := machine(t, c, "r a s t", "")
		m.Conf, m.Pasts = places(t, c, row.states), pasts(t, c, row.pasts)
		wantRight(t, row.states+","+row.pasts, c, m, row.want)
	}
	far := []int{-1, -2, len(c.States), 40, 1 << 32, math.MaxInt, math.MinInt}
	for _, i := range far {
		m := machine(t, c, "r a s t", "")
		for n := range m.Conf {
			m.Conf = places(t, c, "r a s t")
			m.Conf[n] = i
			wantRight(t, "far", c, m, false)
		}
		m = machine(t, c, "r a s t", "")
		m.Pasts = []api.Past{{State: i, Set: []int{3}}}
		wantRight(t, "a history that isn't there", c, m, false)
		m.Pasts = []api.Past{{State: valid.Place(c, "h"), Set: []int{i}}}
		wantRight(t, "what isn't there is remembered", c, m, false)
	}
	m := machine(t, c, "r a s t", "")
	m.Conf = slices.Repeat([]int{0}, 1<<16)
	wantRight(t, "very many", c, m, false)
	m = machine(t, c, "r a s t", "")
	m.Pasts = slices.Repeat([]api.Past{{State: valid.Place(c, "h"), Set: []int{3}}}, 1<<16)
	wantRight(t, "very many histories", c, m, false)
	wantRight(t, "nothing", c, api.Machine{}, false)
}

// P13.1: what begins is right, and so it is behind several steps.
func TestRightAtFirst(t *testing.T) {
	for _, s := range []string{ordered, full, "chart c/one r a/ basic a", "chart c/one r f/ final f"} {
		c := parsed(t, s)
		m := wantStart(t, c, func() string { m, sent := Start(c); return shown(c, m) + " > " + strings.Join(sent, " ") }())
		wantRight(t, "at first", c, m, true)
		for n, event := range []string{"go", "go", "up", "", "go", "e1", "go", "error"} {
			m, _, _ = Step(c, m, event)
			m.Queue = nil
			if !Right(c, m) {
				t.Error(s, n, "isn't right")
			}
		}
	}
}

// P13.1, P13.2: charts that aren't valid, with machines that would be right.
func TestNotValid(t *testing.T) {
	block, _ := acts.Parse("raise:nothing")
	for what, do := range map[string]func(*api.Chart){
		"nothing":               func(c *api.Chart) { *c = api.Chart{} },
		"no states":             func(c *api.Chart) { c.States, c.Trans = nil, nil },
		"too many events":       func(c *api.Chart) { c.Events = strings.Fields("go up b d e f g h i j k l m") },
		"too many variables":    func(c *api.Chart) { c.Vars = slices.Repeat(c.Vars, 3) },
		"very many transitions": func(c *api.Chart) { c.Trans = slices.Repeat(c.Trans[:1], 1<<16) },
		"no name":               func(c *api.Chart) { c.Name = "" },
		"twice":                 func(c *api.Chart) { c.States[9].Name = "t" },
		"events twice":          func(c *api.Chart) { c.Events[1] = "go" },
		"a tree that isn't":     func(c *api.Chart) { c.States[12].Depth = 3 },
		"a kind that isn't":     func(c *api.Chart) { c.States[12].Kind = 7 },
		"no Initial":            func(c *api.Chart) { c.States[0].Initial = "" },
		"a history's Initial":   func(c *api.Chart) { c.States[9].Initial = "t" },
		"a variable":            func(c *api.Chart) { c.Vars[0].Init.A = 10 },
		"bounds":                func(c *api.Chart) { c.Vars[0].Lo = -1<<40 - 1 },
		"a block":               func(c *api.Chart) { c.States[8].Entry = block },
		"from a history":        func(c *api.Chart) { c.Trans[0].From = 5 },
		"what one waits for":    func(c *api.Chart) { c.Trans[0].Event = "nothing" },
		"a guard":               func(c *api.Chart) { c.Trans[0].Guard = []api.Cell{{Op: api.OInt}} },
		"to no state":           func(c *api.Chart) { c.Trans[0].To = "nothing" },
		"to another region":     func(c *api.Chart) { c.Trans[0].To = "t" },
		"what one does":         func(c *api.Chart) { c.Trans[0].Acts = block },
	} {
		c := parsed(t, full)
		machines := []api.Machine{{}, machine(t, c, "r a s t", ""), machine(t, c, "r q u v l s t", "go done.r")}
		do(&c)
		if valid.Check(c) == api.OK {
			t.Error(what, "should not be valid")
		}
		for _, m := range machines {
			if Right(c, m) {
				t.Error(what, "right")
			}
			for _, event := range []string{"go", "", "nothing"} {
				if n, sent, taken := Step(c, m, event); !reflect.DeepEqual(n, api.Machine{}) || sent != nil || taken != nil {
					t.Error(what, n, sent, taken)
				}
			}
		}
		if m, sent := Start(c); !reflect.DeepEqual(m, api.Machine{}) || sent != nil {
			t.Error(what, m, sent)
		}
	}
}

// P13.3: without transitions a machine stays as it is, but for Done.
func TestStays(t *testing.T) {
	c := parsed(t, full)
	for _, states := range []string{"r a s t", "r q u w l s o"} {
		for status := range 3 {
			m := machine(t, c, states, "up done.u error")
			m.Pasts, m.Status, m.Steps, m.Fuel, m.Lost = pasts(t, c, "h=v,k=w l"), status, 12, 5, 1<<40
			for _, event := range []string{"go", "up", "", "error", "done.u"} {
				n, sent, taken := Step(c, m, event)
				if !reflect.DeepEqual(n, m) || len(sent)+len(taken) > 0 {
					t.Error(shown(c, n), sent, taken)
				}
			}
		}
	}
	c = parsed(t, "chart c/event go/int x 0 9 3/one r f/ basic a/ final f/one s o/ final o")
	for status, then := range []int{api.Done, api.Done, api.Diverged} {
		m := machine(t, c, "r f s o", "go done.s")
		m.Status, m.Steps, m.Fuel, m.Lost = status, 1, 2, 3
		n, _, _ := Step(c, m, "go")
		m.Status = then
		if !reflect.DeepEqual(n, m) {
			t.Error(status, shown(c, n))
		}
	}
}

// P13.2: as many states, transitions and blocks as there may be.
func TestMost(t *testing.T) {
	c := api.Chart{Name: "c", Events: []string{"go"}, Vars: []api.Var{{Name: "x", Kind: api.KInt, Hi: 1 << 40, Init: api.Value{Kind: api.KInt}}}}
	block, _ := acts.Parse("x=x+1;" + strings.Repeat("send:go;", 6) + "send:go")
	for r := range 4 {
		at := len(c.States)
		c.States = append(c.States, api.State{Name: "r" + strconv.Itoa(r), Kind: api.SOne, Initial: "q" + strconv.Itoa(r)})
		c.States = append(c.States, api.State{Name: "q" + strconv.Itoa(r), Kind: api.SBoth, Depth: 1, Entry: block, Exit: block})
		for k := range 4 {
			name := strconv.Itoa(r) + strconv.Itoa(k)
			c.States = append(c.States, api.State{Name: "u" + name, Kind: api.SOne, Depth: 2, Initial: "v" + name, Entry: block, Exit: block})
			c.States = append(c.States, api.State{Name: "v" + name, Kind: api.SBasic, Depth: 3, Entry: block, Exit: block})
			for range 3 {
				c.Trans = append(c.Trans, api.Trans{From: len(c.States) - 1, Event: "go", To: "v" + name, Acts: block})
			}
		}
		if len(c.States) != at+10 {
			t.Fatal("not as told")
		}
	}
	if len(c.States) != api.MaxStates || len(c.Trans) != api.MaxTrans || valid.Check(c) != api.OK {
		t.Fatal("not as told", valid.Check(c))
	}
	m, sent := Start(c)
	if len(m.Conf) != 40 || m.Vals[0].A != 36 || len(sent) != 36*7 || m.Status != api.Running {
		t.Error(shown(c, m), len(sent))
	}
	n, sent, taken := Step(c, m, "go")
	// Of each v the first one; each leaves and enters one.
	if len(taken) != 16 || n.Vals[0].A != 36+48 || len(sent) != 48*7 || !slices.Equal(n.Conf, m.Conf) {
		t.Error(shown(c, n), len(sent), taken)
	}
	for i, k := range taken {
		if k != 3*i {
			t.Error(taken)
		}
	}
	wantSaid(t, c, m, "go")
	// From each region: all of it but the region is left and entered.
	c.Trans = nil
	for r := range 4 {
		c.Trans = append(c.Trans, slices.Repeat([]api.Trans{{From: 10 * r, To: "q" + strconv.Itoa(r), Acts: block}}, 12)...)
	}
	n, sent, taken = Step(c, m, "")
	if !slices.Equal(taken, []int{0, 12, 24, 36}) || n.Vals[0].A != 36+76 || len(sent) != 76*7 || !slices.Equal(n.Conf, m.Conf) {
		t.Error(shown(c, n), len(sent), taken)
	}
	wantSaid(t, c, m, "")
}

// P13.1, P13.2: down to the deepest place there may be.
func TestDeepest(t *testing.T) {
	c := parsed(t, "chart c/event go/int x 0 1000000000000 0/one a l/ both b/  entry x=x*10+2/  exit x=x*10+7/  both d/   entry x=x*10+3/   exit x=x*10+6/   both e/    entry x=x*10+4/    exit x=x*10+5/    one f g/     entry x=x*10+5/     exit x=x*10+4/     on go - l -/     final g/      entry x=x*10+6/ basic l/  on go - b -")
	m := machine(t, c, "a l", "")
	n := wantStep(t, c, m, "go", "a b d e f g; ; 23456; done.f done.e done.d done.b; 0 0 0 0 >  > 1")
	n.Vals[0].A = 0
	wantStep(t, c, n, "go", "a l; ; 4567; done.f done.e done.d done.b; 0 0 0 0 >  > 0")
	if l := conf.Start(c); !slices.Equal(l, m.Conf) {
		t.Error(l)
	}
}

// roomy answers a chart and a right machine of it, each list of which has spare
// room that isn't zero.
func roomy(t *testing.T) (api.Chart, api.Machine) {
	c := parsed(t, "chart c/event go/event up/int x 0 999 0/bool b true/one r q/ both q/  exit x=x+1;send:up/  one u v/   entry x=x+1;raise:up/   basic v/    exit raise:go/    on go b h x=x*2;send:go;raise:go/   final w/   shallow s v/  one y z/   basic z/   basic k/   deep h z/ basic a/one o f/ final f")
	c.States = append(c.States, api.State{Name: "more"})[:len(c.States)]
	c.Trans = append(c.Trans, api.Trans{Event: "up"})[:len(c.Trans)]
	c.Vars = append(c.Vars, api.Var{Name: "y"})[:len(c.Vars)]
	c.Events = append(c.Events, "more")[:len(c.Events)]
	m := machine(t, c, "r q u v y z o f", "up error")
	m.Pasts = append(pasts(t, c, "s=w,h=k"), api.Past{State: -7})[:2]
	for i := range m.Pasts {
		m.Pasts[i].Set = append(m.Pasts[i].Set, -7, 7)[:1]
	}
	m.Conf = append(m.Conf, -7, 7, 1)[:len(m.Conf)]
	m.Vals = append(m.Vals, api.Value{Kind: 7})[:len(m.Vals)]
	m.Queue = append(m.Queue, "more", "yet")[:len(m.Queue)]
	return c, m
}

// whole answers m with all that stands in its lists' spare room.
func whole(m api.Machine) api.Machine {
	m.Conf, m.Vals, m.Queue = m.Conf[:cap(m.Conf)], m.Vals[:cap(m.Vals)], m.Queue[:cap(m.Queue)]
	m.Pasts = slices.Clone(m.Pasts[:cap(m.Pasts)])
	for i, p := range m.Pasts {
		m.Pasts[i].Set = p.Set[:cap(p.Set)]
	}
	return m
}

// P13.1, P13.2: what is handed in stays, its spare room too, and asking again
// answers the same.
func TestNothingIsChanged(t *testing.T) {
	c, m := roomy(t)
	was, before := roomy(t)
	for _, event := range []string{"go", "up", "", "nothing", "go"} {
		for range 2 {
			wantSaid(t, c, m, event)
			wantSaidStart(t, c)
		}
	}
	if n, _, taken := Step(c, m, "go"); !Right(c, n) || len(taken) != 1 {
		t.Error("not as told", shown(c, n))
	}
	if !reflect.DeepEqual(c, was) || !reflect.DeepEqual(c.States[:len(c.States)+1], was.States[:len(c.States)+1]) || !reflect.DeepEqual(c.Trans[:len(c.Trans)+1], was.Trans[:len(c.Trans)+1]) || !reflect.DeepEqual(c.Vars[:len(c.Vars)+1], was.Vars[:len(c.Vars)+1]) || !slices.Equal(c.Events[:len(c.Events)+1], was.Events[:len(c.Events)+1]) {
		t.Error("the chart was changed")
	}
	if !reflect.DeepEqual(m, before) || !reflect.DeepEqual(whole(m), whole(before)) {
		t.Error("the machine was changed", whole(m))
	}
}

// spoil puts something else in all that m's lists hold, spare room included.
func spoil(m api.Machine) {
	m = whole(m)
	for i := range m.Conf {
		m.Conf[i] = -7
	}
	for i := range m.Vals {
		m.Vals[i] = api.Value{Kind: -7}
	}
	for i := range m.Queue {
		m.Queue[i] = "spoilt"
	}
	for _, p := range m.Pasts {
		for i := range p.Set {
			p.Set[i] = -7
		}
	}
}

// P13.1, P13.2: what is answered is new, spare room included, and no two lists
// of one answer share any.
func TestNothingIsShared(t *testing.T) {
	c, m := roomy(t)
	was, before := roomy(t)
	for _, event := range []string{"go", "nothing"} {
		n, sent, taken := Step(c, m, event)
		other, otherSent, otherTaken := Step(c, m, event)
		want, wantSent, wantTaken := Step(was, before, event)
		spoil(n)
		room := n.Pasts[:cap(n.Pasts)]
		for i := range room {
			room[i] = api.Past{State: -7}
		}
		if !slices.Equal(sent, wantSent) || !slices.Equal(taken, wantTaken) {
			t.Error(event, "the machine shares memory with what stands beside it")
		}
		for i := range sent[:cap(sent)] {
			sent[:cap(sent)][i] = "spoilt"
		}
		for i := range taken[:cap(taken)] {
			taken[:cap(taken)][i] = -7
		}
		again, _, _ := Step(c, m, event)
		if !reflect.DeepEqual(other, want) || !slices.Equal(otherSent, wantSent) || !slices.Equal(otherTaken, wantTaken) || !reflect.DeepEqual(again, want) {
			t.Error(event, "answers share memory")
		}
		if !reflect.DeepEqual(m, before) || !reflect.DeepEqual(whole(m), whole(before)) || !reflect.DeepEqual(c, was) {
			t.Error(event, "shares memory with what was handed in")
		}
	}
	// One set at a time, so that what two of them share would be told.
	for i := range 2 {
		n, _, _ := Step(c, m, "go")
		want, _, _ := Step(was, before, "go")
		for k := range n.Pasts[i].Set[:cap(n.Pasts[i].Set)] {
			n.Pasts[i].Set[:cap(n.Pasts[i].Set)][k] = -7
		}
		n.Pasts[i].Set = want.Pasts[i].Set
		if !reflect.DeepEqual(n, want) {
			t.Error("sets share memory")
		}
	}
	first, sent := Start(c)
	want, wantSent := Start(was)
	spoil(first)
	for i := range sent[:cap(sent)] {
		sent[:cap(sent)][i] = "spoilt"
	}
	if again, s := Start(c); !reflect.DeepEqual(again, want) || !slices.Equal(s, wantSent) || !reflect.DeepEqual(c, was) {
		t.Error("Start shares memory")
	}
}
