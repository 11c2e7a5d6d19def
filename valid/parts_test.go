package valid

import (
	"math"
	"slices"
	"strings"
	"testing"

	"quintain/api"
)

// cell makes one of an expression.
func cell(op int, a int64, name string) api.Cell { return api.Cell{Op: op, A: a, Name: name} }

// named asks what a variable holds.
func named(s string) api.Cell { return cell(api.OVar, 0, s) }

// set makes a variable what an expression comes to.
func set(name string, l ...api.Cell) api.Action {
	return api.Action{Kind: api.ASet, Name: name, Expr: l}
}

// notRight are lists of cells that aren't right expressions.
var notRight = [][]api.Cell{
	{{}},
	{named("x"), named("x")},
	{cell(api.OAdd, 0, "")},
	{cell(24, 0, "")},
	{cell(api.OInt, -1, "")},
	{cell(api.OInt, 1<<40+1, "")},
	{cell(api.OVar, 0, "in")},
	{cell(api.OTrue, 1, "")},
	append([]api.Cell{cell(api.OTrue, 0, "")}, slices.Repeat([]api.Cell{cell(api.ONot, 0, "")}, 32)...),
	slices.Repeat([]api.Cell{named("x")}, 1<<16),
}

// row is a block, and the error that it has in whole.
type row struct {
	l    []api.Action
	want api.Errno
}

// manyBlocks answers blocks that may stand in whole, and others.
func manyBlocks() map[string]row {
	rows := map[string]row{
		"none":               {nil, api.OK},
		"empty":              {[]api.Action{}, api.OK},
		"a kind that is not": {[]api.Action{{Kind: 4, Name: "go"}}, api.ErrForm},
		"no kind":            {[]api.Action{{}}, api.ErrForm},
		"no expression":      {[]api.Action{set("x")}, api.ErrForm},
		"no name":            {[]api.Action{set("in", cell(api.OInt, 1, ""))}, api.ErrForm},
		"no event's name":    {[]api.Action{{Kind: api.ARaise, Name: ""}}, api.ErrForm},
		"an expression":      {[]api.Action{{Kind: api.ASend, Name: "go", Expr: []api.Cell{named("x")}}}, api.ErrForm},
		"in":                 {[]api.Action{set("b", cell(api.OIn, 0, "a"))}, api.ErrForm},
		"in a part":          {[]api.Action{set("b", cell(api.OTrue, 0, ""), cell(api.OIn, 0, "a"), cell(api.OAnd, 0, ""))}, api.ErrForm},
		"eight":              {slices.Repeat(blockOf("raise:go"), 8), api.OK},
		"nine":               {slices.Repeat(blockOf("raise:go"), 9), api.ErrForm},
		"very many":          {slices.Repeat(blockOf("raise:go"), 1<<16), api.ErrForm},
		// Form is asked of the whole block ahead of all else.
		"the last is wrong": {append(blockOf("y=1;raise:nothing;x=true"), api.Action{}), api.ErrForm},
		"the last asks in":  {append(blockOf("raise:nothing"), set("b", cell(api.OIn, 0, "a"))), api.ErrForm},
		"nine others":       {slices.Repeat(blockOf("raise:nothing"), 9), api.ErrForm},
	}
	for _, l := range notRight {
		rows["not right "+string(rune('a'+len(rows)))] = row{[]api.Action{set("x", l...)}, api.ErrForm}
	}
	for text, want := range map[string]api.Errno{
		"x=1": api.OK, "x=x": api.OK, "x=re(p)": api.OK, "b=x<1": api.OK, "b=b=!b": api.OK, "p=p*p": api.OK, "p=1i": api.OK, "x=1099511627776": api.OK, "x=1/0": api.OK,
		"raise:go": api.OK, "send:up": api.OK, "x=1;b=true;p=1i;raise:up;send:go": api.OK,
		// There is no such variable: asked ahead of what the expression is.
		"y=1": api.ErrName, "go=1": api.ErrName, "a=1": api.ErrName, "whole=1": api.ErrName, "y=y": api.ErrName, "y=x+b": api.ErrName, "error=1": api.ErrName,
		// What layer 4 says.
		"x=y": api.ErrName, "x=a": api.ErrName, "x=go": api.ErrName, "x=x+y": api.ErrName, "x=b+y": api.ErrName, "x=b+x": api.ErrKind, "x=x+b": api.ErrKind, "x=1+1i": api.ErrKind, "x=!x": api.ErrKind, "x=-b": api.ErrKind, "x=b+x+y": api.ErrKind,
		// Of another kind.
		"x=b": api.ErrKind, "x=p": api.ErrKind, "x=1i": api.ErrKind, "x=true": api.ErrKind, "b=x": api.ErrKind, "b=p": api.ErrKind, "b=1": api.ErrKind, "b=0": api.ErrKind, "p=x": api.ErrKind, "p=b": api.ErrKind, "p=1": api.ErrKind, "p=re(p)": api.ErrKind, "b=x+1": api.ErrKind, "x=x<1": api.ErrKind,
		// None of Events, those among them that a transition may wait for.
		"raise:nothing": api.ErrName, "send:nothing": api.ErrName, "raise:error": api.ErrName, "send:error": api.ErrName, "raise:done.q": api.ErrName, "send:done.r": api.ErrName, "raise:done.go": api.ErrName, "raise:x": api.ErrName, "send:a": api.ErrName, "raise:whole": api.ErrName,
		// The first action that is wrong counts.
		"x=1;y=1": api.ErrName, "x=true;y=1": api.ErrKind, "y=1;x=true": api.ErrName, "raise:go;x=true": api.ErrKind, "raise:nothing;x=true": api.ErrName, "x=true;raise:nothing": api.ErrKind, "send:up;send:nothing": api.ErrName, "b=1;x=y": api.ErrKind, "x=y;b=1": api.ErrName,
		"x=1;x=1;x=1;x=1;x=1;x=1;x=1;y=1": api.ErrName, "x=1;x=1;x=1;x=1;x=1;x=1;x=1;x=b": api.ErrKind,
	} {
		rows[text] = row{blockOf(text), want}
	}
	return rows
}

// P9.2, the seventh point and the eighth: blocks that may be and others,
// wherever one may stand.
func TestBlocks(t *testing.T) {
	for what, row := range manyBlocks() {
		for i, s := range fresh().States {
			if isHistory(s) {
				continue
			}
			wantChanges(t, row.want, []change{{"Entry: " + what, func(c *api.Chart) { c.States[i].Entry = row.l }}})
			if s.Kind != api.SFinal {
				wantChanges(t, row.want, []change{{"Exit: " + what, func(c *api.Chart) { c.States[i].Exit = row.l }}})
			}
		}
		for i := range fresh().Trans {
			wantChanges(t, row.want, []change{{"Acts: " + what, func(c *api.Chart) { c.Trans[i].Acts = row.l }}})
		}
	}
}

// P9.2, the seventh point: blocks where none may be, whatever they are, but
// those of nothing.
func TestBlocksThatMayNotBe(t *testing.T) {
	for what, row := range manyBlocks() {
		want := api.ErrForm
		if len(row.l) == 0 {
			want = api.OK
		}
		for _, i := range []int{2, 3, 9} {
			wantChanges(t, want, []change{
				{"a history's Entry: " + what, func(c *api.Chart) { c.States[i].Entry = row.l }},
				{"a history's Exit: " + what, func(c *api.Chart) { c.States[i].Exit = row.l }},
				{"both of a history: " + what, func(c *api.Chart) { c.States[i].Entry, c.States[i].Exit = row.l, row.l }},
			})
		}
		for _, i := range []int{4, 8} {
			wantChanges(t, want, []change{
				{"a final state's Exit: " + what, func(c *api.Chart) { c.States[i].Exit = row.l }},
				{"ahead of its Entry: " + what, func(c *api.Chart) {
					c.States[i].Exit = row.l
					if len(row.l) > 0 {
						c.States[i].Entry = blockOf("raise:nothing")
					}
				}},
			})
		}
	}
}

// P9.2, the seventh point: Entry is asked ahead of Exit, and a state ahead of
// those behind it.
func TestOrderOfBlocks(t *testing.T) {
	name, kind := blockOf("raise:nothing"), blockOf("x=true")
	for i, s := range fresh().States {
		if isHistory(s) || s.Kind == api.SFinal {
			continue
		}
		wantChanges(t, api.ErrName, []change{{"Entry", func(c *api.Chart) { c.States[i].Entry, c.States[i].Exit = name, kind }}})
		wantChanges(t, api.ErrKind, []change{{"Entry", func(c *api.Chart) { c.States[i].Entry, c.States[i].Exit = kind, name }}})
		for k := range i {
			if o := fresh().States[k]; isHistory(o) || o.Kind == api.SFinal {
				continue
			}
			wantChanges(t, api.ErrName, []change{{"a state ahead", func(c *api.Chart) { c.States[k].Exit, c.States[i].Entry = name, kind }}})
			wantChanges(t, api.ErrKind, []change{{"a state ahead", func(c *api.Chart) { c.States[k].Exit, c.States[i].Entry = kind, name }}})
		}
	}
	wantChanges(t, api.ErrName, []change{
		{"a history behind", func(c *api.Chart) { c.States[1].Exit, c.States[2].Entry = name, name }},
		{"a final state behind", func(c *api.Chart) { c.States[1].Exit, c.States[4].Exit = name, name }},
	})
	wantChanges(t, api.ErrForm, []change{
		{"a history ahead", func(c *api.Chart) { c.States[2].Exit, c.States[5].Entry = name, name }},
		{"a final state ahead", func(c *api.Chart) { c.States[4].Exit, c.States[5].Entry = name, name }},
	})
}

// P9.2, the eighth point: from where.
func TestFrom(t *testing.T) {
	for i := range fresh().Trans {
		for _, n := range []int{-1, 13, 14, 40, math.MinInt, math.MaxInt} {
			wantChanges(t, api.ErrForm, []change{{"no place", func(c *api.Chart) { c.Trans[i].From = n }}})
		}
	}
	for i, s := range fresh().States {
		want := api.ErrForm
		if s.Kind == api.SBasic || s.Kind == api.SOne || s.Kind == api.SBoth {
			want = api.OK
		}
		wantChanges(t, want, []change{
			{"from " + s.Name, func(c *api.Chart) { c.Trans = []api.Trans{{From: i}} }},
			{"twice from " + s.Name, func(c *api.Chart) { c.Trans = []api.Trans{{From: i}, {From: i}} }},
			{"behind others " + s.Name, func(c *api.Chart) { c.Trans = []api.Trans{{From: 0}, {From: i}, {From: 12}} }},
		})
	}
	// At, above and below that of the one ahead.
	places := []int{0, 1, 5, 6, 7, 10, 11, 12}
	for _, i := range places {
		for _, k := range places {
			want := api.OK
			if k < i {
				want = api.ErrForm
			}
			wantChanges(t, want, []change{
				{"two", func(c *api.Chart) { c.Trans = []api.Trans{{From: i}, {From: k}} }},
				{"three", func(c *api.Chart) { c.Trans = []api.Trans{{From: 0}, {From: i}, {From: k}} }},
				{"with one between", func(c *api.Chart) { c.Trans = []api.Trans{{From: i}, {From: max(i, k)}, {From: k}} }},
			})
		}
	}
	wantChanges(t, api.ErrForm, []change{{"falling", func(c *api.Chart) { slices.Reverse(c.Trans) }}})
}

// P9.2, the eighth point: which events, from wherever.
func TestEvents(t *testing.T) {
	wants := map[string]api.Errno{
		"": api.OK, "go": api.OK, "up": api.OK, "error": api.OK,
		// Of each kind, and of what isn't there.
		"done.r": api.OK, "done.s": api.OK, "done.u": api.OK, "done.q": api.OK,
		"done.a": api.ErrName, "done.z": api.ErrName, "done.f": api.ErrName, "done.w": api.ErrName, "done.h": api.ErrName, "done.k": api.ErrName, "done.g": api.ErrName,
		"done.nothing": api.ErrName, "done.x": api.ErrName, "done.go": api.ErrName, "done.error": api.ErrName, "done.whole": api.ErrName, "done.": api.ErrName, "done": api.ErrName, "done.done.q": api.ErrName, "done.r ": api.ErrName, " done.r": api.ErrName, "Done.r": api.ErrName, "donexr": api.ErrName,
		"nothing": api.ErrName, "x": api.ErrName, "a": api.ErrName, "r": api.ErrName, "whole": api.ErrName, "error.": api.ErrName, "error.r": api.ErrName, "erro": api.ErrName, "errors": api.ErrName, "-": api.ErrName, " ": api.ErrName, "go ": api.ErrName, "g": api.ErrName, "goo": api.ErrName,
		strings.Repeat("done.", 1<<16): api.ErrName,
	}
	for i := range fresh().Trans {
		for event, want := range wants {
			wantChanges(t, want, []change{{"event " + event, func(c *api.Chart) { c.Trans[i].Event = event }}})
		}
	}
	// A chart's own event done is none that is told of a state.
	wantChanges(t, api.OK, []change{{"done", func(c *api.Chart) { c.Events[1] = "done"; c.Trans = []api.Trans{{Event: "done"}}; bareStates(c) }}})
	wantChanges(t, api.ErrName, []change{{"up is no more", func(c *api.Chart) { c.Events[1] = "done"; c.Trans = []api.Trans{{Event: "up"}}; bareStates(c) }}})
}

// bareStates takes all blocks from c's states.
func bareStates(c *api.Chart) {
	for i := range c.States {
		c.States[i].Entry, c.States[i].Exit = nil, nil
	}
}

// P9.2, the eighth point: guards.
func TestGuards(t *testing.T) {
	wants := map[string]api.Errno{
		"true": api.OK, "b": api.OK, "x<1": api.OK, "re(p)=im(p)": api.OK, "p=1i": api.OK, "b=true&!b|x!=x": api.OK, "1/0=0": api.OK,
		"in(r)": api.OK, "in(a)": api.OK, "in(f)": api.OK, "in(q)": api.OK, "in(u)": api.OK, "in(w)": api.OK, "in(z)": api.OK, "in(a)&in(b)": api.ErrName,
		// Histories, and what is no state.
		"in(h)": api.ErrName, "in(k)": api.ErrName, "in(g)": api.ErrName, "in(nothing)": api.ErrName, "in(x)": api.ErrName, "in(go)": api.ErrName, "in(whole)": api.ErrName, "in(a)|in(h)": api.ErrName,
		// What layer 4 says, at the first cell that is wrong.
		"y": api.ErrName, "a": api.ErrName, "go": api.ErrName, "y<1": api.ErrName, "x+y": api.ErrName, "x+b": api.ErrKind, "x&b": api.ErrKind, "!x": api.ErrKind, "p<p": api.ErrKind, "x=b": api.ErrKind, "x+b<y": api.ErrKind, "y<x+b": api.ErrName, "x+b=0|in(h)": api.ErrKind, "in(h)|x+b=0": api.ErrName,
		// Of another kind.
		"x": api.ErrKind, "p": api.ErrKind, "1": api.ErrKind, "0": api.ErrKind, "1i": api.ErrKind, "x+1": api.ErrKind, "re(p)": api.ErrKind, "-p": api.ErrKind,
	}
	for i := range fresh().Trans {
		for text, want := range wants {
			wantChanges(t, want, []change{{"guard " + text, func(c *api.Chart) { c.Trans[i].Guard = guardOf(text) }}})
		}
		for _, l := range notRight {
			wantChanges(t, api.ErrForm, []change{{"a guard that isn't right", func(c *api.Chart) { c.Trans[i].Guard = l }}})
		}
		wantChanges(t, api.OK, []change{{"none", func(c *api.Chart) { c.Trans[i].Guard = nil }}, {"an empty one", func(c *api.Chart) { c.Trans[i].Guard = []api.Cell{} }}})
	}
}

// targets are, of places of whole, the states to which a transition may lead
// from there.
var targets = map[int]string{
	0:  "a h k f q u v w g y",
	1:  "a h k f q u v w g y",
	5:  "a h k f q u v w g y",
	6:  "a h k f q u v w g y",
	7:  "a h k f q u v w g y",
	10: "a h k f q u v w g y",
	11: "z",
	12: "z",
}

// P9.2, the eighth point: to where.
func TestTargets(t *testing.T) {
	for from, may := range targets {
		for _, s := range fresh().States {
			want := api.ErrOrder
			if slices.Contains(strings.Fields(may), s.Name) {
				want = api.OK
			}
			wantChanges(t, want, []change{{"to " + s.Name, func(c *api.Chart) { c.Trans = []api.Trans{{From: from, To: s.Name}} }}})
		}
		for _, w := range []string{"nothing", "go", "x", "whole", "-", " ", "a ", "in", "done.q", strings.Repeat("a", 1<<20)} {
			wantChanges(t, api.ErrName, []change{{"to " + w, func(c *api.Chart) { c.Trans = []api.Trans{{From: from, To: w}} }}})
		}
		wantChanges(t, api.OK, []change{{"to nothing", func(c *api.Chart) { c.Trans = []api.Trans{{From: from}} }}})
	}
	// From one part of an SBoth that stands in another one's SOne to the other.
	s := lines("chart c", "one r q", " both q", "  one u v", "   both v", "    basic i", "    basic j", "  one x y", "   basic y")
	for _, way := range []struct {
		from int
		to   string
		want api.Errno
	}{{4, "j", api.OK}, {4, "v", api.OK}, {4, "y", api.OK}, {4, "u", api.OK}, {4, "q", api.OK}, {4, "r", api.ErrOrder}, {0, "r", api.ErrOrder}, {0, "i", api.OK}, {7, "i", api.OK}} {
		c := parsed(t, s)
		c.Trans = []api.Trans{{From: way.from, To: way.to}}
		wantCheck(t, way.to, c, way.want)
	}
}
