package run

import (
	"math"
	"reflect"
	"slices"
	"strconv"
	"strings"
	"testing"

	"quintain/acts"
	"quintain/api"
	"quintain/chart"
	"quintain/micro"
	"quintain/plane"
	"quintain/valid"
)

// parsed answers the chart of a text whose lines are parted by /.
func parsed(t *testing.T, s string) api.Chart {
	t.Helper()
	c, n, e := chart.Parse(strings.ReplaceAll(s, "/", "\n"))
	if e != api.OK || valid.Check(c) != api.OK {
		t.Fatalf("%.300q: line %d: %v, %v", s, n, e, valid.Check(c))
	}
	return c
}

// places answers the places of the states with these names, in their order.
func places(t *testing.T, c api.Chart, names string) []int {
	t.Helper()
	var l []int
	for _, name := range strings.Fields(names) {
		i := valid.Place(c, name)
		if i == -1 {
			t.Fatal("there is no state", name)
		}
		l = append(l, i)
	}
	return l
}

// names answers the names of these places.
func names(c api.Chart, l []int) string {
	var w []string
	for _, i := range l {
		w = append(w, c.States[i].Name)
	}
	return strings.Join(w, " ")
}

// held answers the text of a value.
func held(v api.Value) string {
	switch v.Kind {
	case api.KBool:
		return strconv.FormatBool(v.A == 1)
	case api.KPoint:
		p, _ := plane.Made(v.A, v.B)
		s, _ := plane.Show(p)
		return s
	}
	return strconv.FormatInt(v.A, 10)
}

// shown answers a machine as a text, its parts parted by semicolons: states,
// what is remembered, values, the queue, and Steps, Fuel, Status and Lost.
func shown(c api.Chart, m api.Machine) string {
	var p, v []string
	for _, past := range m.Pasts {
		p = append(p, c.States[past.State].Name+"="+names(c, past.Set))
	}
	for _, val := range m.Vals {
		v = append(v, held(val))
	}
	counts := strconv.Itoa(m.Steps) + " " + strconv.Itoa(m.Fuel) + " " + strconv.Itoa(m.Status) + " " + strconv.Itoa(m.Lost)
	return strings.Join([]string{names(c, m.Conf), strings.Join(p, ","), strings.Join(v, " "), strings.Join(m.Queue, " "), counts}, "; ")
}

// machine answers c's, in these states, with these names in its queue, and
// variables that hold their Inits.
func machine(t *testing.T, c api.Chart, states, queue string) api.Machine {
	t.Helper()
	m := api.Machine{Conf: places(t, c, states), Queue: strings.Fields(queue)}
	for _, v := range c.Vars {
		m.Vals = append(m.Vals, v.Init)
	}
	if !micro.Right(c, m) {
		t.Fatal(states, queue, "isn't right")
	}
	return m
}

// outsideOf answers has and event as a text tells them: ~ is that there is none.
func outsideOf(s string) (bool, string) {
	if s == "~" {
		return false, ""
	}
	return true, s
}

// wantNext holds what m is behind its next step against its text, behind > what
// was sent, and whether the event was taken (e) and whether there was a step
// (s); and against what the document says.
func wantNext(t *testing.T, c api.Chart, m api.Machine, fuel int, event, want string) api.Machine {
	t.Helper()
	has, name := outsideOf(event)
	n, sent, taken, stepped := Next(c, m, fuel, has, name)
	got := shown(c, n) + " > " + strings.Join(sent, " ") + " > "
	if taken {
		got += "e"
	}
	if stepped {
		got += "s"
	}
	if got != want {
		t.Errorf("%s: fuel %d, from %s by %q\n%s, not\n%s", told(c), fuel, shown(c, m), event, got, want)
	}
	wantSaidNext(t, c, m, fuel, has, name)
	return n
}

// wantAt holds what c has come to behind k steps against its text, behind > what
// was sent and how many events were taken; and against what the document says.
func wantAt(t *testing.T, c api.Chart, log string, fuel, k int, want string) {
	t.Helper()
	l := strings.Fields(log)
	m, sent, n := At(c, l, fuel, k)
	if got := shown(c, m) + " > " + strings.Join(sent, " ") + " > " + strconv.Itoa(n); got != want {
		t.Errorf("%s: log %q, fuel %d, behind %d\n%s, not\n%s", told(c), log, fuel, k, got, want)
	}
	wantSaidAt(t, c, l, fuel, k)
}

// wantRun holds a run against its text as wantAt does.
func wantRun(t *testing.T, c api.Chart, log string, fuel int, want string) {
	t.Helper()
	wantAt(t, c, log, fuel, math.MaxInt, want)
	m, sent, n := Run(c, strings.Fields(log), fuel)
	if got := shown(c, m) + " > " + strings.Join(sent, " ") + " > " + strconv.Itoa(n); got != want {
		t.Errorf("%s: run, log %q, fuel %d\n%s, not\n%s", told(c), log, fuel, got, want)
	}
}

// endless is a chart that steps without an event, for ever.
const endless = "chart c/event go/one r a/ basic a/  on - - a -"

// P14.1, P14.2: the chapter's example, by all fuels.
func TestExample(t *testing.T) {
	c := parsed(t, endless)
	for _, fuel := range []int{1, 2, 3, 9, 31, 32} {
		f := strconv.Itoa(fuel)
		wantRun(t, c, "go", fuel, "r a; ; ; ; "+strconv.Itoa(fuel+1)+" "+f+" 2 0 >  > 0")
		for k := range fuel + 1 {
			wantAt(t, c, "go", fuel, k, "r a; ; ; ; "+strconv.Itoa(k)+" "+strconv.Itoa(k)+" 0 0 >  > 0")
		}
		wantAt(t, c, "go", fuel, fuel+1, "r a; ; ; ; "+strconv.Itoa(fuel+1)+" "+f+" 2 0 >  > 0")
		wantAt(t, c, "go", fuel, fuel+2, "r a; ; ; ; "+strconv.Itoa(fuel+1)+" "+f+" 2 0 >  > 0")
	}
}

// several is a chart that has a step of each kind: by no event while x is 1, by
// each name; x tells what was done.
const several = "chart c/event go/event up/event on/int x 0 9999 0/one r a" +
	"/ basic a" +
	"/  on - x=1 - x=12;send:on" + // 0
	"/  on go - - x=x*10+3;send:go" + // 1
	"/  on up - b x=x*10+4;raise:go;raise:on" + // 2
	"/  on error - - x=x*10+5" + // 3
	"/  on done.r - f x=x*10+6;send:up" + // 4
	"/ basic b" +
	"/  on - x>90 f -" + // 5
	"/ final f" +
	"/  entry send:on"

// P14.1: why there is a step, and of two reasons the one that is first.
func TestNext(t *testing.T) {
	c := parsed(t, several)
	for _, row := range []struct {
		states, queue string
		x             int64
		event, want   string
	}{
		// Nothing is left.
		{"r a", "", 0, "~", "r a; ; 0; ; 7 2 0 0 >  > "},
		{"r b", "", 90, "~", "r b; ; 90; ; 7 2 0 0 >  > "},
		// By no event.
		{"r a", "", 1, "~", "r a; ; 12; ; 8 3 0 0 > on > s"},
		{"r b", "", 91, "~", "r f; ; 91; done.r; 8 3 1 0 > on > s"},
		// By a name that waits: one that something waits for, and one that nothing
		// waits for.
		{"r a", "go", 0, "~", "r a; ; 3; ; 8 3 0 0 > go > s"},
		{"r a", "on", 0, "~", "r a; ; 0; ; 8 3 0 0 >  > s"},
		{"r a", "error", 0, "~", "r a; ; 5; ; 8 3 0 0 >  > s"},
		{"r a", "done.r", 0, "~", "r f; ; 6; done.r; 8 3 1 0 > up on > s"},
		{"r b", "done.r", 0, "~", "r b; ; 0; ; 8 3 0 0 >  > s"},
		// The first one of several, and none but it.
		{"r a", "go up go", 0, "~", "r a; ; 3; up go; 8 3 0 0 > go > s"},
		{"r a", "on go", 0, "~", "r a; ; 0; go; 8 3 0 0 >  > s"},
		{"r a", "up error go", 0, "~", "r b; ; 4; error go go on; 8 3 0 0 >  > s"},
		{"r a", "error done.r", 0, "~", "r a; ; 5; done.r; 8 3 0 0 >  > s"},
		// By an event from outside, that is taken in any case.
		{"r a", "", 0, "go", "r a; ; 3; ; 8 1 0 0 > go > es"},
		{"r a", "", 0, "up", "r b; ; 4; go on; 8 1 0 0 >  > es"},
		{"r a", "", 0, "on", "r a; ; 0; ; 8 1 0 0 >  > es"},
		{"r b", "", 0, "go", "r b; ; 0; ; 8 1 0 0 >  > es"},
		// No event and a name: no event is first, and the name waits on.
		{"r a", "go", 1, "~", "r a; ; 12; go; 8 3 0 0 > on > s"},
		{"r a", "on go", 1, "~", "r a; ; 12; on go; 8 3 0 0 > on > s"},
		{"r b", "go", 91, "~", "r f; ; 91; go done.r; 8 3 1 0 > on > s"},
		// No event and one from outside: that one isn't taken.
		{"r a", "", 1, "go", "r a; ; 12; ; 8 3 0 0 > on > s"},
		{"r a", "", 1, "on", "r a; ; 12; ; 8 3 0 0 > on > s"},
		// A name and one from outside, of which the name is first.
		{"r a", "go", 0, "up", "r a; ; 3; ; 8 3 0 0 > go > s"},
		{"r a", "on", 0, "go", "r a; ; 0; ; 8 3 0 0 >  > s"},
		{"r a", "up", 0, "go", "r b; ; 4; go on; 8 3 0 0 >  > s"},
		{"r a", "go", 0, "go", "r a; ; 3; ; 8 3 0 0 > go > s"},
		// All of them.
		{"r a", "go", 1, "up", "r a; ; 12; go; 8 3 0 0 > on > s"},
	} {
		m := machine(t, c, row.states, row.queue)
		m.Vals[0].A, m.Steps, m.Fuel = row.x, 7, 2
		wantNext(t, c, m, 9, row.event, row.want)
		// Of what isn't running nothing is asked: it stays.
		for _, status := range []int{api.Done, api.Diverged} {
			m.Status = status
			wantNext(t, c, m, 9, row.event, shown(c, m)+" >  > ")
		}
	}
}

// P14.1: fuel is asked for what comes within, and is new for what comes from
// outside.
func TestFuel(t *testing.T) {
	c := parsed(t, several)
	for _, row := range []struct {
		queue       string
		x           int64
		has, fuel   int
		event, want string
	}{
		// One less, as great, greater.
		{"", 1, 4, 5, "~", "r a; ; 12; ; 8 5 0 0 > on > s"},
		{"", 1, 5, 5, "~", "r a; ; 1; ; 8 5 2 0 >  > s"},
		{"", 1, 6, 5, "~", "r a; ; 1; ; 8 6 2 0 >  > s"},
		{"", 1, 1 << 40, 5, "~", "r a; ; 1; ; 8 1099511627776 2 0 >  > s"},
		{"go on", 0, 4, 5, "~", "r a; ; 3; on; 8 5 0 0 > go > s"},
		{"go on", 0, 5, 5, "~", "r a; ; 0; go on; 8 5 2 0 >  > s"},
		{"go on", 0, 6, 5, "~", "r a; ; 0; go on; 8 6 2 0 >  > s"},
		{"on", 0, 5, 5, "~", "r a; ; 0; on; 8 5 2 0 >  > s"},
		// An event from outside waits, and isn't taken.
		{"", 1, 5, 5, "go", "r a; ; 1; ; 8 5 2 0 >  > s"},
		{"go", 0, 5, 5, "go", "r a; ; 0; go; 8 5 2 0 >  > s"},
		{"go", 1, 6, 5, "up", "r a; ; 1; go; 8 6 2 0 >  > s"},
		// Nothing waits but that one: its fuel is new.
		{"", 0, 4, 5, "go", "r a; ; 3; ; 8 1 0 0 > go > es"},
		{"", 0, 5, 5, "go", "r a; ; 3; ; 8 1 0 0 > go > es"},
		{"", 0, 6, 5, "on", "r a; ; 0; ; 8 1 0 0 >  > es"},
		{"", 0, 1 << 40, 1, "up", "r a; ; 0; ; 8 1 0 0 >  > es"},
		{"", 0, 0, 1, "go", "r a; ; 3; ; 8 1 0 0 > go > es"},
		// Nothing waits at all.
		{"", 0, 5, 5, "~", "r a; ; 0; ; 7 5 0 0 >  > "},
		{"", 0, 6, 5, "~", "r a; ; 0; ; 7 6 0 0 >  > "},
		// The least and the greatest fuel.
		{"", 1, 0, 1, "~", "r a; ; 12; ; 8 1 0 0 > on > s"},
		{"", 1, 1, 1, "~", "r a; ; 1; ; 8 1 2 0 >  > s"},
		{"go", 0, 0, 1, "~", "r a; ; 3; ; 8 1 0 0 > go > s"},
		{"go", 0, 1, 1, "~", "r a; ; 0; go; 8 1 2 0 >  > s"},
		{"", 1, 31, 32, "~", "r a; ; 12; ; 8 32 0 0 > on > s"},
		{"", 1, 32, 32, "~", "r a; ; 1; ; 8 32 2 0 >  > s"},
		{"go", 0, 31, 32, "~", "r a; ; 3; ; 8 32 0 0 > go > s"},
		{"go", 0, 32, 32, "~", "r a; ; 0; go; 8 32 2 0 >  > s"},
	} {
		m := machine(t, c, "r a", row.queue)
		m.Vals[0].A, m.Steps, m.Fuel = row.x, 7, row.has
		if row.event == "up" && strings.HasSuffix(row.want, "es") {
			row.want = "r b; ; 4; go on; 8 1 0 0 >  > es"
		}
		wantNext(t, c, m, row.fuel, row.event, row.want)
	}
}

// nothing asks that a call answered nothing.
func nothing(t *testing.T, what string, m api.Machine, sent []string, rest ...any) {
	t.Helper()
	if !reflect.DeepEqual(m, api.Machine{}) || sent != nil {
		t.Errorf("%s: %v, %v", what, m, sent)
	}
	for _, v := range rest {
		if v != false && v != 0 {
			t.Errorf("%s: %v", what, rest)
		}
	}
}

// wantNone asks that of these arguments there is no next machine.
func wantNone(t *testing.T, what string, c api.Chart, m api.Machine, fuel int, has bool, event string) {
	t.Helper()
	n, sent, taken, stepped := Next(c, m, fuel, has, event)
	nothing(t, what, n, sent, taken, stepped)
	wantSaidNext(t, c, m, fuel, has, event)
}

// wantNoRun asks that of these arguments there is no run, and no part of one.
func wantNoRun(t *testing.T, what string, c api.Chart, log []string, fuel int) {
	t.Helper()
	m, sent, n := Run(c, log, fuel)
	nothing(t, what+", run", m, sent, n)
	for _, k := range []int{0, 1, 7, math.MaxInt, -1} {
		m, sent, n = At(c, log, fuel, k)
		nothing(t, what+", at", m, sent, n)
	}
	wantSaidAt(t, c, log, fuel, 7)
}

// waiting are machines of several: one for each reason to step, and for none.
func waiting(t *testing.T, c api.Chart) []api.Machine {
	l := []api.Machine{machine(t, c, "r a", ""), machine(t, c, "r a", "go"), machine(t, c, "r a", "go"), machine(t, c, "r a", "go up"), machine(t, c, "r a", ""), machine(t, c, "r a", "go")}
	l[2].Vals[0].A, l[3].Fuel, l[4].Vals[0].A, l[5].Status = 1, 32, 1, api.Done
	return l
}

// P14.1, P14.2: fuels that may not be.
func TestFuels(t *testing.T) {
	c := parsed(t, several)
	for _, fuel := range []int{0, -1, 33, 34, 64, -32, 1 << 32, 1<<32 + 1, math.MaxInt, math.MinInt} {
		for _, m := range waiting(t, c) {
			for _, event := range []string{"~", "go"} {
				has, name := outsideOf(event)
				wantNone(t, "fuel "+strconv.Itoa(fuel), c, m, fuel, has, name)
			}
		}
		wantNoRun(t, "fuel "+strconv.Itoa(fuel), c, nil, fuel)
		wantNoRun(t, "fuel "+strconv.Itoa(fuel), c, []string{"go", "up"}, fuel)
	}
	for _, fuel := range []int{1, 2, 31, 32} {
		if _, _, _, stepped := Next(c, machine(t, c, "r a", "go"), fuel, false, ""); !stepped {
			t.Error("no step by fuel", fuel)
		}
		if m, _, n := Run(c, []string{"go", "go"}, fuel); n != 2 || m.Steps != 2 {
			t.Error("no run by fuel", fuel)
		}
	}
}

// P14.1: up to the greatest number of steps.
func TestSteps(t *testing.T) {
	c := parsed(t, several)
	for _, m := range waiting(t, c) {
		for _, event := range []string{"~", "go"} {
			has, name := outsideOf(event)
			m.Steps = 1<<40 - 1
			n, _, _, stepped := Next(c, m, 9, has, name)
			if stepped != (n.Steps == 1<<40) || !stepped && n.Steps != m.Steps || !micro.Right(c, n) {
				t.Error(shown(c, m), event, shown(c, n))
			}
			wantSaidNext(t, c, m, 9, has, name)
			// There isn't one more, and none is asked for, whatever there would be.
			m.Steps++
			wantNone(t, "all steps", c, m, 9, has, name)
			m.Steps++
			wantNone(t, "too many steps", c, m, 9, has, name)
		}
	}
}

// P14.1: events from outside that there aren't; without has none is asked for.
func TestEvents(t *testing.T) {
	c := parsed(t, several)
	for _, event := range []string{"", "error", "done.r", "done.", "-", "r", "a", "x", "c", "nothing", "GO", "go ", " go", "g", "goo", "\x00", strings.Repeat("go", 1<<20)} {
		for _, m := range waiting(t, c) {
			wantNone(t, event[:min(len(event), 9)], c, m, 9, true, event)
			n, sent, taken, stepped := Next(c, m, 9, false, event)
			w, wantSent, wantTaken, wantStepped := Next(c, m, 9, false, "go")
			if !same(n, w) || !slices.Equal(sent, wantSent) || taken || wantTaken || stepped != wantStepped {
				t.Errorf("%.9q is asked for: %s", event, shown(c, n))
			}
			wantSaidNext(t, c, m, 9, false, event)
		}
		for _, log := range [][]string{{event}, {event, "go"}, {"go", event}, {"go", "up", event, "on"}} {
			wantNoRun(t, event[:min(len(event), 9)], c, log, 9)
		}
	}
	// One that is declared may be called error.
	c = parsed(t, "chart c/event error/int x 0 9 0/one r a/ basic a/  on error - - x=x+1;send:error")
	wantNext(t, c, machine(t, c, "r a", ""), 9, "error", "r a; ; 1; ; 1 1 0 0 > error > es")
	wantRun(t, c, "error error", 9, "r a; ; 2; ; 2 1 0 0 > error error > 2")
	// Without any there is a log, which is empty.
	c = parsed(t, "chart c/one r a/ basic a/  on - - b -/ basic b")
	wantRun(t, c, "", 9, "r b; ; ; ; 1 1 0 0 >  > 0")
	wantNoRun(t, "no events", c, []string{"go"}, 9)
	wantNoRun(t, "no events", c, []string{""}, 9)
}

// P14.1: machines that aren't right.
func TestNotRight(t *testing.T) {
	c := parsed(t, several)
	for what, do := range map[string]func(*api.Machine){
		"nothing":          func(m *api.Machine) { *m = api.Machine{} },
		"no states":        func(m *api.Machine) { m.Conf = nil },
		"another state":    func(m *api.Machine) { m.Conf[1] = 9 },
		"a state below":    func(m *api.Machine) { m.Conf[1] = -1 },
		"two states":       func(m *api.Machine) { m.Conf = append(m.Conf, 2) },
		"a past":           func(m *api.Machine) { m.Pasts = []api.Past{{State: 1, Set: []int{1}}} },
		"no value":         func(m *api.Machine) { m.Vals = nil },
		"beyond":           func(m *api.Machine) { m.Vals[0].A = 10000 },
		"of another kind":  func(m *api.Machine) { m.Vals[0].Kind = api.KBool },
		"no such name":     func(m *api.Machine) { m.Queue = []string{"nothing"} },
		"the empty name":   func(m *api.Machine) { m.Queue = []string{""} },
		"a long queue":     func(m *api.Machine) { m.Queue = slices.Repeat([]string{"go"}, 17) },
		"Steps below":      func(m *api.Machine) { m.Steps = -1 },
		"Steps beyond":     func(m *api.Machine) { m.Steps = math.MaxInt },
		"Fuel below":       func(m *api.Machine) { m.Fuel = -1 },
		"Fuel beyond":      func(m *api.Machine) { m.Fuel = 1<<40 + 1 },
		"Lost below":       func(m *api.Machine) { m.Lost = -1 },
		"Lost beyond":      func(m *api.Machine) { m.Lost = 1<<40 + 1 },
		"a status below":   func(m *api.Machine) { m.Status = -1 },
		"a status beyond":  func(m *api.Machine) { m.Status = 3 },
		"Done, not right":  func(m *api.Machine) { m.Status, m.Lost = api.Done, -1 },
		"a far-off status": func(m *api.Machine) { m.Status = math.MinInt },
	} {
		for i := range waiting(t, c) {
			m := waiting(t, c)[i]
			do(&m)
			wantNone(t, what, c, m, 9, false, "")
			wantNone(t, what, c, m, 9, true, "go")
			wantNone(t, what, c, m, 0, true, "go")
		}
	}
	// A right one of another chart.
	other := parsed(t, "chart c/event go/one r a/ basic a")
	for _, m := range waiting(t, c) {
		wantNone(t, "another's", other, m, 9, true, "go")
	}
}

// P14.1, P14.2: charts that aren't valid, with machines that would be right.
func TestNotValid(t *testing.T) {
	block, _ := acts.Parse("raise:nothing")
	for what, do := range map[string]func(*api.Chart){
		"nothing":              func(c *api.Chart) { *c = api.Chart{} },
		"no states":            func(c *api.Chart) { c.States, c.Trans = nil, nil },
		"too many events":      func(c *api.Chart) { c.Events = strings.Fields("go up on d e f g h i j k l m") },
		"no name":              func(c *api.Chart) { c.Name = "" },
		"twice":                func(c *api.Chart) { c.States[3].Name = "a" },
		"events twice":         func(c *api.Chart) { c.Events[1] = "go" },
		"a tree that isn't":    func(c *api.Chart) { c.States[3].Depth = 3 },
		"a kind that isn't":    func(c *api.Chart) { c.States[3].Kind = 7 },
		"no Initial":           func(c *api.Chart) { c.States[0].Initial = "" },
		"a variable":           func(c *api.Chart) { c.Vars[0].Init.A = 10000 },
		"a block":              func(c *api.Chart) { c.States[3].Entry = block },
		"from a final one":     func(c *api.Chart) { c.Trans[5].From = 3 },
		"what one waits for":   func(c *api.Chart) { c.Trans[0].Event = "nothing" },
		"a guard":              func(c *api.Chart) { c.Trans[0].Guard = []api.Cell{{Op: api.OInt}} },
		"to no state":          func(c *api.Chart) { c.Trans[0].To = "nothing" },
		"what one does":        func(c *api.Chart) { c.Trans[5].Acts = block },
		"very many of each":    func(c *api.Chart) { c.Trans = slices.Repeat(c.Trans, 1<<12) },
		"very many of another": func(c *api.Chart) { c.Vars = slices.Repeat(c.Vars, 1<<12) },
	} {
		c := parsed(t, several)
		machines := append(waiting(t, c), api.Machine{})
		do(&c)
		if valid.Check(c) == api.OK {
			t.Error(what, "should not be valid")
		}
		for _, m := range machines {
			wantNone(t, what, c, m, 9, false, "")
			wantNone(t, what, c, m, 9, true, "go")
		}
		wantNoRun(t, what, c, nil, 9)
		wantNoRun(t, what, c, []string{"go"}, 9)
	}
}

// counts is a chart that for each go goes on twice by itself, and for each up
// tells so outside; on ends it, and error is what x beyond 5 comes to.
const counts = "chart c/event go/event up/event on/int x 0 5 0/one r a" +
	"/ entry send:on" +
	"/ basic a" +
	"/  on go - b x=x+1;raise:up" + // 0
	"/  on up - - send:up" + // 1
	"/  on on - f -" + // 2
	"/ basic b" +
	"/  on - - d send:go" + // 3
	"/ basic d" +
	"/  on up - a x=x" + // 4
	"/ final f"

// P14.2: behind no step, one, several, all, and more than all.
func TestAt(t *testing.T) {
	c := parsed(t, counts)
	for log, wants := range map[string][]string{
		"":   {"r a; ; 0; ; 0 0 0 0 > on > 0"},
		"up": {"r a; ; 0; ; 0 0 0 0 > on > 0", "r a; ; 0; ; 1 1 0 0 > on up > 1"},
		"go": {
			"r a; ; 0; ; 0 0 0 0 > on > 0",
			"r b; ; 1; up; 1 1 0 0 > on > 1",
			"r d; ; 1; up; 2 2 0 0 > on go > 1",
			"r a; ; 1; ; 3 3 0 0 > on go > 1",
		},
		"up go up on go up": {
			"r a; ; 0; ; 0 0 0 0 > on > 0",
			"r a; ; 0; ; 1 1 0 0 > on up > 1",
			"r b; ; 1; up; 2 1 0 0 > on up > 2",
			"r d; ; 1; up; 3 2 0 0 > on up go > 2",
			"r a; ; 1; ; 4 3 0 0 > on up go > 2",
			"r a; ; 1; ; 5 1 0 0 > on up go up > 3",
			// Done ahead of the log's end.
			"r f; ; 1; done.r; 6 1 1 0 > on up go up > 4",
		},
		"go go go": {
			"r a; ; 0; ; 0 0 0 0 > on > 0",
			"r b; ; 1; up; 1 1 0 0 > on > 1",
			"r d; ; 1; up; 2 2 0 0 > on go > 1",
			"r a; ; 1; ; 3 3 0 0 > on go > 1",
			"r b; ; 2; up; 4 1 0 0 > on go > 2",
			"r d; ; 2; up; 5 2 0 0 > on go go > 2",
			"r a; ; 2; ; 6 3 0 0 > on go go > 2",
			"r b; ; 3; up; 7 1 0 0 > on go go > 3",
			"r d; ; 3; up; 8 2 0 0 > on go go go > 3",
			"r a; ; 3; ; 9 3 0 0 > on go go go > 3",
		},
	} {
		for k, want := range wants {
			wantAt(t, c, log, 9, k, want)
			// A fuel that is just enough.
			wantAt(t, c, log, 3, k, want)
		}
		last := wants[len(wants)-1]
		for _, k := range []int{len(wants) - 1, len(wants), len(wants) + 1, 99, 7000, 1 << 40, math.MaxInt - 1, math.MaxInt} {
			wantAt(t, c, log, 9, k, last)
		}
		wantRun(t, c, log, 9, last)
		wantRun(t, c, log, 3, last)
		wantRun(t, c, log, 32, last)
		for _, k := range []int{-1, -2, -1 << 32, math.MinInt, math.MinInt + 1} {
			m, sent, n := At(c, strings.Fields(log), 9, k)
			nothing(t, "k "+strconv.Itoa(k), m, sent, n)
			wantSaidAt(t, c, strings.Fields(log), 9, k)
		}
	}
	// A fuel that isn't enough: what is waited for within isn't taken.
	wantRun(t, c, "up go up", 2, "r d; ; 1; up; 4 2 2 0 > on up go > 2")
	wantRun(t, c, "up go up", 1, "r b; ; 1; up; 3 1 2 0 > on up > 2")
	wantAt(t, c, "up go up", 2, 3, "r d; ; 1; up; 3 2 0 0 > on up go > 2")
	wantAt(t, c, "up go up", 2, 4, "r d; ; 1; up; 4 2 2 0 > on up go > 2")
	wantAt(t, c, "up go up", 2, 5, "r d; ; 1; up; 4 2 2 0 > on up go > 2")
	// Beyond 5 each go fails, and what it would raise isn't.
	wantRun(t, c, "go go go go go go up up go", 9, "r d; ; 5; ; 23 3 0 0 > on go go go go go go up go > 9")
}

// P14.2, P14.3: it diverges ahead of the first event, and behind one; it is Done
// at its beginning.
func TestRun(t *testing.T) {
	for _, row := range []struct {
		chart, log string
		fuel       int
		want       string
	}{
		{"one r a/ basic a", "", 1, "r a; ; 0; ; 0 0 0 0 >  > 0"},
		{"one r a/ basic a", "go up go", 1, "r a; ; 0; ; 3 1 0 0 >  > 3"},
		{"one r f/ entry send:up/ final f", "go up go", 9, "r f; ; 0; done.r; 0 0 1 0 > up > 0"},
		{"one r f/ entry send:up/ final f", "", 9, "r f; ; 0; done.r; 0 0 1 0 > up > 0"},
		// By no event, for ever, ahead of the first one; by what is raised, too.
		{"one r a/ basic a/  on - - - x=x+1;send:go", "go up", 3, "r a; ; 3; ; 4 3 2 0 > go go go > 0"},
		{"one r a/ entry raise:up/ basic a/  on up - - x=x+1;raise:up;send:go", "go up", 3, "r a; ; 3; up; 4 3 2 0 > go go go > 0"},
		{"one r a/ entry raise:up/ basic a/  on up - - x=x+1;raise:up;send:go", "", 1, "r a; ; 1; up; 2 1 2 0 > go > 0"},
		{"one r a/ entry raise:go;raise:go/ basic a/  on up - - x=x+1", "up", 1, "r a; ; 0; go; 2 1 2 0 >  > 0"},
		{"one r a/ entry raise:go;raise:go/ basic a/  on up - - x=x+1", "up", 2, "r a; ; 1; ; 3 1 0 0 >  > 1"},
		// Just as many steps as there is fuel.
		{"one r a/ basic a/  on - x<3 - x=x+1", "go", 3, "r a; ; 3; ; 4 1 0 0 >  > 1"},
		{"one r a/ basic a/  on - x<3 - x=x+1", "go", 2, "r a; ; 2; ; 3 2 2 0 >  > 0"},
		{"one r a/ basic a/  on - x<9 - x=x+1", "", 9, "r a; ; 9; ; 9 9 0 0 >  > 0"},
		{"one r a/ basic a/  on - x<9 - x=x+1", "", 8, "r a; ; 8; ; 9 8 2 0 >  > 0"},
		// Behind the first event, and behind the second one.
		{"one r a/ basic a/  on go - b -/ basic b/  on - - b send:up", "go up", 3, "r b; ; 0; ; 4 3 2 0 > up up > 1"},
		{"one r a/ basic a/  on go - b -/ basic b/  on - - b send:up", "up go up", 3, "r b; ; 0; ; 5 3 2 0 > up up > 2"},
		{"one r a/ basic a/  on go - b -/ basic b/  on - - b send:up", "go", 1, "r b; ; 0; ; 2 1 2 0 >  > 1"},
		{"one r a/ basic a/  on go - b -/ basic b/  on - - b send:up", "up up up up", 1, "r a; ; 0; ; 4 1 0 0 >  > 4"},
		// Fuel is new for each event.
		{"one r a/ basic a/  on go - b -/ basic b/  on - - d send:up/ basic d/  on - - a x=x+1", "go go go go", 3, "r a; ; 4; ; 12 3 0 0 > up up up up > 4"},
		{"one r a/ basic a/  on go - b -/ basic b/  on - - d send:up/ basic d/  on - - a x=x+1", "go go go go", 2, "r d; ; 0; ; 3 2 2 0 > up > 1"},
		// Done ahead of its end, at its end; at the last step that the fuel allows.
		{"one r a/ basic a/  on go - f send:up/ final f", "up go go up", 1, "r f; ; 0; done.r; 2 1 1 0 > up > 2"},
		{"one r a/ basic a/  on go - f send:up/ final f", "up go", 1, "r f; ; 0; done.r; 2 1 1 0 > up > 2"},
		{"one r a/ basic a/  on go - b raise:up/ basic b/  on up - f -/ final f", "go up", 2, "r f; ; 0; done.r; 2 2 1 0 >  > 1"},
		{"one r a/ basic a/  on go - b raise:up/ basic b/  on up - f -/ final f", "go up", 1, "r b; ; 0; up; 2 1 2 0 >  > 1"},
		// What waits within, and nothing waits for, is taken all the same.
		{"one r a/ basic a/  on go - - raise:go;raise:up;raise:up/  on up - - x=x+1", "up", 9, "r a; ; 1; ; 1 1 0 0 >  > 1"},
		{"one r a/ basic a/  on go - b raise:go;raise:up;raise:up/ basic b/  on up - a x=x+1", "go", 4, "r a; ; 1; ; 4 4 0 0 >  > 1"},
		{"one r a/ basic a/  on go - b raise:go;raise:up;raise:up/ basic b/  on up - a x=x+1", "go up", 4, "r a; ; 1; ; 5 1 0 0 >  > 2"},
		{"one r a/ basic a/  on go - b raise:go;raise:up;raise:up/ basic b/  on up - a x=x+1", "go up", 3, "r a; ; 1; up; 4 3 2 0 >  > 1"},
		// What is done. and what failed, within.
		{"one r a/ basic a/  on go - b -/  on error - - send:up/ one b f/  on done.b - a x=x-1/  final f", "go", 9, "r a; ; 0; ; 3 3 0 0 > up > 1"},
		// Two regions, histories, what was lost.
		{"one r a/ basic a/  on go - h -/ one k d/  on up - a -/  basic d/   on go - e -/  basic e/  shallow h d/one s t/ basic t/  on up - o send:go/ basic o", "go go up go", 9, "r k e s o; h=e; 0; ; 4 1 0 0 > go > 4"},
		{"one r a/ basic a/  on go - - raise:go;raise:go;raise:go;raise:go;raise:go", "go", 9, "r a; ; 0; " + strings.Repeat("go ", 15) + "go; 10 9 2 21 >  > 1"},
	} {
		wantRun(t, parsed(t, "chart c/event go/event up/int x 0 9999 0/"+row.chart), row.log, row.fuel, row.want)
	}
}

// P14.2: logs as long as there may be, and longer.
func TestLogs(t *testing.T) {
	c := parsed(t, "chart c/event go/event up/int x 0 9999 0/one r a/ basic a/  on go - - x=x+1/  on up - - x=x-1;send:up")
	for _, n := range []int{0, 1, 199, 200} {
		wantRun(t, c, strings.Repeat("go ", n), 1, "r a; ; "+strconv.Itoa(n)+"; ; "+strconv.Itoa(n)+" "+strconv.Itoa(min(n, 1))+" 0 0 >  > "+strconv.Itoa(n))
	}
	wantAt(t, c, strings.Repeat("go ", 200), 9, 199, "r a; ; 199; ; 199 1 0 0 >  > 199")
	wantRun(t, c, strings.Repeat("go ", 199)+"up", 9, "r a; ; 198; ; 200 1 0 0 > up > 200")
	for _, n := range []int{201, 202, 400, 1 << 16} {
		wantNoRun(t, "a log of "+strconv.Itoa(n), c, slices.Repeat([]string{"go"}, n), 9)
	}
	wantNoRun(t, "a name at its end", c, append(slices.Repeat([]string{"go"}, 199), "on"), 9)
	// The longest run: each event takes all of its fuel, and one step more would
	// be another one.
	c = parsed(t, "chart c/event go/int x 0 999999 0/int n 0 31 0/one r a/ basic a/  on - n>0 - n=n-1;x=x+1/  on go - - n=31;x=x+1")
	wantRun(t, c, strings.Repeat("go ", 200), 32, "r a; ; 6400 0; ; 6400 32 0 0 >  > 200")
	wantAt(t, c, strings.Repeat("go ", 200), 32, 6399, "r a; ; 6399 1; ; 6399 31 0 0 >  > 200")
	wantRun(t, c, strings.Repeat("go ", 200), 31, "r a; ; 31 1; ; 32 31 2 0 >  > 1")
	// By what was sent: at each step.
	c = parsed(t, "chart c/event go/one r a/ basic a/  on go - - send:go;send:go;send:go;send:go;send:go;send:go;send:go;send:go")
	if _, sent, n := Run(c, slices.Repeat([]string{"go"}, 200), 1); n != 200 || len(sent) != 1600 {
		t.Error(n, len(sent))
	}
}

// roomy answers a chart, and a right machine of it, each list of which has spare
// room that isn't zero.
func roomy(t *testing.T) (api.Chart, api.Machine) {
	c := parsed(t, "chart c/event go/event up/int x 0 999 0/bool b true/one r q/ entry send:up/ both q/  exit x=x+1;send:up/  on - x=7 a send:go/  one u v/   entry x=x+1;raise:up/   basic v/    exit raise:go/    on go b h x=x*2;send:go;raise:go/   final w/   shallow s v/  one y z/   basic z/   basic k/   deep h z/ basic a/one o f/ final f")
	c.States = append(c.States, api.State{Name: "more"})[:len(c.States)]
	c.Trans = append(c.Trans, api.Trans{Event: "up"})[:len(c.Trans)]
	c.Vars = append(c.Vars, api.Var{Name: "y"})[:len(c.Vars)]
	c.Events = append(c.Events, "more")[:len(c.Events)]
	m := machine(t, c, "r q u v y z o f", "")
	m.Pasts = []api.Past{{State: valid.Place(c, "s"), Set: places(t, c, "w")}, {State: valid.Place(c, "h"), Set: places(t, c, "k")}}
	m.Pasts = append(m.Pasts, api.Past{State: -7})[:2]
	for i := range m.Pasts {
		m.Pasts[i].Set = append(m.Pasts[i].Set, -7, 7)[:1]
	}
	m.Conf = append(m.Conf, -7, 7, 1)[:len(m.Conf)]
	m.Vals = append(m.Vals, api.Value{Kind: 7})[:len(m.Vals)]
	m.Queue = append(m.Queue, "more", "yet")[:0]
	return c, m
}

// ways are what is done to roomy's machine so that each kind of next step comes
// about: none, for nothing waits, and for it is done; one that diverges; by no
// event, by a name, by an event from outside.
var ways = []func(m *api.Machine) (fuel int, event string){
	func(m *api.Machine) (int, string) { return 9, "~" },
	func(m *api.Machine) (int, string) { m.Status = api.Done; return 9, "go" },
	func(m *api.Machine) (int, string) { m.Fuel, m.Queue = 9, append(m.Queue, "go", "up"); return 9, "go" },
	func(m *api.Machine) (int, string) {
		m.Vals[0].A, m.Queue = 7, append(m.Queue, "go", "up")
		return 9, "go"
	},
	func(m *api.Machine) (int, string) { m.Queue = append(m.Queue, "go", "up"); return 9, "go" },
	func(m *api.Machine) (int, string) { return 9, "go" },
}

// whole answers m with all that stands in its lists' spare room.
func whole(m api.Machine) api.Machine {
	m.Conf, m.Vals, m.Queue = m.Conf[:cap(m.Conf)], m.Vals[:cap(m.Vals)], m.Queue[:cap(m.Queue)]
	m.Pasts = slices.Clone(m.Pasts[:cap(m.Pasts)])
	for i, p := range m.Pasts {
		m.Pasts[i].Set = p.Set[:cap(p.Set)]
	}
	return m
}

// spoil puts something else in all that m's lists and sent hold, spare room
// included.
func spoil(m api.Machine, sent []string) {
	room := m.Pasts[:cap(m.Pasts)]
	m = whole(m)
	for i := range m.Conf {
		m.Conf[i] = -7
	}
	for i := range m.Vals {
		m.Vals[i] = api.Value{Kind: -7}
	}
	for i := range m.Queue {
		m.Queue[i] = "spoilt"
	}
	for i, p := range m.Pasts {
		for k := range p.Set {
			p.Set[k] = -7
		}
		room[i].State = -7
	}
	for i := range sent[:cap(sent)] {
		sent[:cap(sent)][i] = "spoilt"
	}
}

// P14.1, P14.2: what is handed in stays, its spare room too, and what is
// answered is new.
func TestNothingIsChangedOrShared(t *testing.T) {
	for n, way := range ways {
		c, m := roomy(t)
		was, before := roomy(t)
		fuel, event := way(&m)
		way(&before)
		has, name := outsideOf(event)
		first, sent, taken, stepped := Next(c, m, fuel, has, name)
		if !micro.Right(c, first) || taken != (n == 5) || stepped != (n > 1) || (first.Status == api.Diverged) != (n == 2) {
			t.Error(n, "isn't as it was meant", shown(c, first))
		}
		second, otherSent, _, _ := Next(c, m, fuel, has, name)
		want, wantSent, _, _ := Next(was, before, fuel, has, name)
		wantSaidNext(t, c, m, fuel, has, name)
		if len(first.Pasts) < 2 {
			t.Error(n, "remembers too little")
		}
		// One set alone first, so that what two lists share would be told.
		for k := range first.Pasts[0].Set[:cap(first.Pasts[0].Set)] {
			first.Pasts[0].Set[:cap(first.Pasts[0].Set)][k] = -7
		}
		if first.Pasts[0].Set = slices.Clone(want.Pasts[0].Set); !same(first, want) {
			t.Error(n, "sets share memory")
		}
		spoil(first, nil)
		if !slices.Equal(sent, wantSent) {
			t.Error(n, "what was sent shares memory with the machine")
		}
		spoil(api.Machine{}, sent)
		third, thirdSent, _, _ := Next(c, m, fuel, has, name)
		if !same(second, want) || !slices.Equal(otherSent, wantSent) || !same(third, want) || !slices.Equal(thirdSent, wantSent) {
			t.Error(n, "answers share memory")
		}
		if !reflect.DeepEqual(m, before) || !reflect.DeepEqual(whole(m), whole(before)) {
			t.Error(n, "the machine was changed", whole(m))
		}
		if !sameChart(c, was) {
			t.Error(n, "the chart was changed")
		}
	}
}

// sameChart tells whether two of roomy's charts are the same, spare room too.
func sameChart(c, d api.Chart) bool {
	return reflect.DeepEqual(c, d) && reflect.DeepEqual(c.States[:len(c.States)+1], d.States[:len(c.States)+1]) && reflect.DeepEqual(c.Trans[:len(c.Trans)+1], d.Trans[:len(c.Trans)+1]) &&
		reflect.DeepEqual(c.Vars[:len(c.Vars)+1], d.Vars[:len(c.Vars)+1]) && slices.Equal(c.Events[:len(c.Events)+1], d.Events[:len(c.Events)+1])
}

// P14.2: a chart and a log that are handed in stay, and a run is new.
func TestRunIsNew(t *testing.T) {
	c, _ := roomy(t)
	was, _ := roomy(t)
	room := []string{"go", "up", "go", "more", "yet"}
	log := room[:3]
	for _, k := range []int{0, 1, 4, 99} {
		at := func() (api.Machine, []string, int) { return At(c, log, 9, k) }
		if k == 99 {
			at = func() (api.Machine, []string, int) { return Run(c, log, 9) }
		}
		first, sent, _ := at()
		second, otherSent, _ := at()
		want, wantSent, n := At(was, slices.Clone(log), 9, k)
		if len(wantSent) == 0 || k > 1 && n == 0 {
			t.Error("nothing was done")
		}
		wantSaidAt(t, c, log, 9, k)
		spoil(first, nil)
		if !slices.Equal(sent, wantSent) {
			t.Error(k, "what was sent shares memory with the machine")
		}
		spoil(api.Machine{}, sent)
		third, thirdSent, _ := at()
		if !same(second, want) || !slices.Equal(otherSent, wantSent) || !same(third, want) || !slices.Equal(thirdSent, wantSent) {
			t.Error(k, "answers share memory")
		}
	}
	if !sameChart(c, was) || !slices.Equal(room, []string{"go", "up", "go", "more", "yet"}) {
		t.Error("what was handed in was changed")
	}
}
