package tree

import (
	"math"
	"reflect"
	"slices"
	"strings"
	"testing"

	"quintain/api"
)

// letters are the kinds from 0 to 7 in the texts of trees: o is SOne, p is
// SBoth, ? and ! are kinds that there aren't.
const letters = "?bopfsd!"

// made answers the states of a text: of each its kind's letter and its Depth.
func made(text string) []api.State {
	var l []api.State
	for _, word := range strings.Fields(text) {
		l = append(l, api.State{Kind: strings.IndexByte(letters, word[0]), Depth: int(word[1]) - '0'})
	}
	return l
}

// told answers the text of states.
func told(l []api.State) string {
	var words []string
	for _, s := range l {
		if s.Kind < 0 || s.Kind >= len(letters) || s.Depth < 0 || s.Depth > 9 {
			words = append(words, "..")
			continue
		}
		words = append(words, letters[s.Kind:s.Kind+1]+string(rune('0'+s.Depth)))
	}
	return strings.Join(words, " ")
}

// repeated answers a text n times.
func repeated(text string, n int) string { return strings.Repeat(text+" ", n) }

// wantRight holds what Right answers for l against want.
func wantRight(t *testing.T, l []api.State, want bool) {
	t.Helper()
	if got := Right(l); got != want {
		t.Errorf("%s: %v, wanted %v", told(l), got, want)
	}
	if !want {
		wantNothing(t, l, 0, 0)
		wantNothing(t, l, len(l)-1, 0)
	}
}

// wantNothing holds what all but Right answer against what they do of a place
// that isn't there, or of a tree that isn't right.
func wantNothing(t *testing.T, l []api.State, i, j int) {
	t.Helper()
	if k := Parent(l, i); k != -1 {
		t.Errorf("%s: Parent of %d is %d", told(l), i, k)
	}
	if k := End(l, i); k != -1 {
		t.Errorf("%s: End of %d is %d", told(l), i, k)
	}
	if k := Kids(l, i); k != nil {
		t.Errorf("%s: Kids of %d are %v", told(l), i, k)
	}
	if k := Region(l, i); k != -1 {
		t.Errorf("%s: Region of %d is %d", told(l), i, k)
	}
	wantNoPair(t, l, i, j)
	wantNoPair(t, l, j, i)
}

// wantNoPair holds what Within and Domain answer against what they do of a
// place that isn't there, or of a tree that isn't right.
func wantNoPair(t *testing.T, l []api.State, i, j int) {
	t.Helper()
	if Within(l, i, j) {
		t.Errorf("%s: %d is within %d", told(l), j, i)
	}
	if k := Domain(l, i, j); k != -1 {
		t.Errorf("%s: Domain of %d, %d is %d", told(l), i, j, k)
	}
}

// What follows says again what the document says, word by word: a place's
// parent is looked for, and all else stands on that.

func saidParent(l []api.State, i int) int {
	for k := i - 1; k >= 0; k-- {
		if l[k].Depth == l[i].Depth-1 {
			return k
		}
	}
	return -1
}

func saidKids(l []api.State, i int) []int {
	var places []int
	for k := range l {
		if saidParent(l, k) == i {
			places = append(places, k)
		}
	}
	return places
}

func saidWithin(l []api.State, i, j int) bool {
	for _, k := range saidKids(l, i) {
		if k == j || saidWithin(l, k, j) {
			return true
		}
	}
	return false
}

func saidEnd(l []api.State, i int) int {
	for k := i + 1; k < len(l); k++ {
		if !saidWithin(l, i, k) {
			return k
		}
	}
	return len(l)
}

func saidRegion(l []api.State, i int) int {
	for k, s := range l {
		if s.Depth == 0 && (k == i || saidWithin(l, k, i)) {
			return k
		}
	}
	return -1
}

func saidDomain(l []api.State, from, to int) int {
	if from == -1 {
		return -1
	}
	if l[from].Kind == api.SOne && saidWithin(l, from, to) {
		return from
	}
	return saidDomain(l, saidParent(l, from), to)
}

func saidRight(l []api.State) bool {
	if len(l) == 0 || len(l) > 40 || l[0].Depth != 0 {
		return false
	}
	regions := 0
	for i, s := range l {
		if s.Depth < 0 || s.Depth > 5 || i > 0 && s.Depth-l[i-1].Depth > 1 {
			return false
		}
		if s.Depth == 0 {
			regions++
		}
		if s.Depth == 0 && s.Kind != api.SOne {
			return false
		}
	}
	for i := range l {
		if !saidKind(l, i) {
			return false
		}
	}
	return regions <= 4
}

func saidKind(l []api.State, i int) bool {
	var kinds []int
	for _, k := range saidKids(l, i) {
		kinds = append(kinds, l[k].Kind)
	}
	among := func(list ...int) func(int) bool {
		return func(kind int) bool { return slices.Contains(list, kind) }
	}
	switch l[i].Kind {
	case 1, 4, 5, 6:
		return len(kinds) == 0
	case 2:
		return slices.ContainsFunc(kinds, among(1, 2, 3, 4))
	case 3:
		return len(kinds) > 0 && !slices.ContainsFunc(kinds, among(0, 4, 5, 6, 7))
	}
	return false
}

// wantSaid holds what all but Right answer of a right tree, at all places and
// beside them, against what the document says.
func wantSaid(t *testing.T, l []api.State) {
	t.Helper()
	for i := range l {
		got := []int{Parent(l, i), End(l, i), Region(l, i)}
		want := []int{saidParent(l, i), saidEnd(l, i), saidRegion(l, i)}
		if !slices.Equal(got, want) {
			t.Errorf("%s: parent, end, region of %d are %v, wanted %v", told(l), i, got, want)
		}
		if got, want := Kids(l, i), saidKids(l, i); !slices.Equal(got, want) {
			t.Errorf("%s: Kids of %d are %v, wanted %v", told(l), i, got, want)
		}
		for j := range l {
			if got, want := Within(l, i, j), saidWithin(l, i, j); got != want {
				t.Errorf("%s: is %d within %d: %v, wanted %v", told(l), j, i, got, want)
			}
			if got, want := Domain(l, i, j), saidDomain(l, i, j); got != want {
				t.Errorf("%s: Domain of %d, %d is %d, wanted %d", told(l), i, j, got, want)
			}
		}
	}
	for _, i := range []int{-1, len(l)} {
		for j := range l {
			wantNothing(t, l, i, j)
		}
		wantNothing(t, l, i, i)
	}
}

// P7.1
func TestRight(t *testing.T) {
	for _, text := range []string{
		"o0 b1", "o0 f1", "o0 o1 b2", "o0 p1 b2",
		// The chapter's.
		"o0 b1 p1 b2",
		// Regions.
		"o0 b1 o0 b1", "o0 b1 o0 f1 o0 o1 b2", repeated("o0 b1", 4), repeated("o0 o1 p2 o3 p4 b5", 4),
		// Depths, down by one and up by any.
		"o0 o1 o2 o3 o4 b5", "o0 o1 o2 o3 o4 f5", "o0 p1 p2 p3 p4 b5", "o0 o1 o2 o3 o4 b5 b5 b4 b3 b2 b1 o0 b1", "o0 o1 o2 o3 o4 b5 b1 o1 b2", "o0 o1 o2 o3 o4 b5 o0 o1 o2 o3 o4 b5",
		// Children of SBoth.
		"o0 p1 b2 b2", "o0 p1 o2 b3", "o0 p1 p2 b3", "o0 p1 b2 o2 f3 p2 b3", "o0 p1 o2 s3 f3",
		// Children of SOne.
		"o0 b1 s1", "o0 s1 b1", "o0 d1 f1", "o0 f1 d1", "o0 s1 d1 s1 d1 f1", "o0 s1 p1 b2", "o0 d1 o1 b2", "o0 b1 b1 f1 f1 o1 b2 p1 b2 s1 d1",
		// As many as there may be.
		"o0 " + repeated("b1", 39), "o0 " + repeated("s1", 38) + "b1", "o0 p1 " + repeated("o2 f3", 19), repeated("o0 p1 p2 p3 p4 b5 b5 b4 b3 b2", 4), "o0 " + repeated("b1", 38), "o0 p1 " + repeated("b2", 38),
	} {
		wantRight(t, made(text), true)
	}
}

// P7.1
func TestNotRight(t *testing.T) {
	for _, text := range []string{
		"", "o0", "b0", "p0", "f0", "s0", "d0",
		// One too many of states, of regions, of Depth.
		"o0 " + repeated("b1", 40), "o0 p1 " + repeated("b2", 39), repeated("o0 p1 p2 p3 p4 b5 b5 b4 b3 b2", 4) + "b1", repeated("o0 b1", 5), repeated("o0 b1", 21), "o0 o1 o2 o3 o4 o5 b6", "o0 p1 p2 p3 p4 p5 b6", "o0 o1 o2 o3 o4 b5 b6",
		// A first state of another Depth, one deeper by two or more.
		"b1", "o1 b2", "b1 o0 b1", "o5 b5", "o1 b1", "o0 b2", "o0 o2 b3", "o0 o1 b3", "o0 p1 b3", "o0 b1 b3", "o0 b1 o0 b2", "o0 b5", "o0 o1 b2 b4", "o0 o1 o2 b5",
		// Kinds.
		"?0 b1", "!0 b1", "o0 ?1", "o0 !1", "o0 b1 ?1", "o0 b1 !1", "o0 ?1 b1", "o0 !1 b1", "o0 ?1 b2", "o0 !1 b2", "o0 p1 ?2", "o0 p1 !2", "o0 p1 b2 !2", "o0 p1 ?2 b2", "o0 o1 ?2", "o0 o1 !2", "o0 b1 ?0", "o0 b1 !0",
		// Regions that aren't SOne.
		"b0 b1", "p0 b1", "f0 b1", "s0 b1", "d0 b1", "p0 b1 b1", "p0 o1 b2", "o0 b1 p0 b1", "o0 b1 b0", "o0 b1 f0", "o0 b1 s0", "o0 b1 d0", "o0 b1 o0 b1 o0 b1 p0 b1", "p0 b1 o0 b1", "b0 o0 b1",
		// Parents that may not be.
		"o0 b1 b2", "o0 f1 b2", "o0 b1 s1 b2", "o0 b1 d1 b2", "o0 s1 b2", "o0 d1 b2", "o0 b1 b2 b1", "o0 b1 f2", "o0 b1 s2", "o0 p1 b2 b3", "o0 p1 b2 o3 b4", "o0 f1 f2", "o0 b1 f1 s2", "o0 o1 o2 o3 b4 b5", "o0 b1 o0 b1 b2",
		// Children of SBoth that may not be, wherever they stand.
		"o0 p1 f2", "o0 p1 s2", "o0 p1 d2", "o0 p1 b2 f2", "o0 p1 b2 s2", "o0 p1 b2 d2", "o0 p1 f2 b2", "o0 p1 s2 b2", "o0 p1 d2 b2", "o0 p1 o2 b3 f2", "o0 p1 o2 b3 s2 b2", "o0 p1 p2 b3 d2", "o0 p1 p2 f3", "o0 p1 o2 p3 s4", "o0 o1 o2 o3 p4 b5 f5",
		// None.
		"o0 p1", "o0 p1 b1", "o0 b1 p1", "o0 p1 p1 b2", "o0 p1 p2", "o0 o1 o2 o3 o4 p5", "o0 p1 o0 b1", "o0 b1 p1 o0 b1",
		"o0 o1", "o0 o1 b1", "o0 b1 o1", "o0 o0 b1", "o0 b1 o0", "o0 p1 o2", "o0 o1 o2 o3 o4 o5", "o0 o1 o1 b2", "o0 p1 o2 b2",
		// None but histories.
		"o0 s1", "o0 d1", "o0 s1 d1", "o0 d1 s1 s1", "o0 o1 s2", "o0 b1 o1 d2", "o0 o1 s2 b1", "o0 p1 o2 d3", "o0 s1 o0 b1", "o0 b1 o0 s1", "o0 o1 d2 s2 f1",
	} {
		wantRight(t, made(text), false)
	}
}

// P7.1: numbers far away, each by itself in a tree that is right but for it.
func TestNumbersFarAway(t *testing.T) {
	l := made("o0 b1 p1 o2 f3 b2 o0 b1")
	wantRight(t, l, true)
	for i := range l {
		for _, n := range []int{-1, 6, 7, 1 << 31, 1<<32 + l[i].Depth, 1<<63 - 1, math.MinInt, math.MinInt + 1, math.MinInt + l[i].Depth} {
			if n == l[i].Depth {
				continue
			}
			m := slices.Clone(l)
			m[i].Depth = n
			wantRight(t, m, false)
		}
		for _, n := range []int{-1, 0, 7, 8, 1<<32 + l[i].Kind, math.MaxInt, math.MinInt, -l[i].Kind} {
			m := slices.Clone(l)
			m[i].Kind = n
			wantRight(t, m, false)
		}
	}
	// The Depth that comes behind the greatest is the least.
	for _, depths := range [][]int{{math.MaxInt, math.MinInt}, {math.MinInt, 0, 1}, {0, math.MaxInt, math.MinInt}, {0, -1, 0, 1}, {-1, 0, 1}, {0, 1, -1}, {0, 1, math.MinInt}} {
		var m []api.State
		for _, n := range depths {
			m = append(m, api.State{Kind: api.SOne, Depth: n})
		}
		wantRight(t, m, false)
	}
	wantRight(t, slices.Repeat(made("o0 b1"), 1<<16), false)
	wantRight(t, append(made("o0"), slices.Repeat(made("b1"), 1<<16)...), false)
}

// P7.1: names, first children and blocks don't matter.
func TestOnlyKindsAndDepthsMatter(t *testing.T) {
	for _, text := range []string{"o0 b1 p1 b2", "o0 s1 f1 o0 b1"} {
		l := made(text)
		for i := range l {
			l[i].Name, l[i].Initial = "q", "not a name"
			l[i].Entry, l[i].Exit = []api.Action{{Kind: 9}}, make([]api.Action, 20)
		}
		wantRight(t, l, true)
		wantSaid(t, l)
	}
}

// P7.1, P7.2, P7.3: all short lists of kinds, and of Depths near nought.
func TestShortLists(t *testing.T) {
	right, wrong := 0, 0
	var longer func(l []api.State, most int)
	longer = func(l []api.State, most int) {
		if got, want := Right(l), saidRight(l); got != want {
			t.Errorf("%s: %v, wanted %v", told(l), got, want)
		} else if want {
			right++
			wantSaid(t, l)
		} else {
			wrong++
		}
		if len(l) == most {
			return
		}
		for kind := range 8 {
			for depth := -1; depth <= 3; depth++ {
				longer(append(slices.Clip(l), api.State{Kind: kind, Depth: depth}), most)
			}
		}
	}
	longer(nil, 3)
	for _, text := range []string{"o0 p1", "o0 o1", "o0 s1", "o0 b1", "o0 b1 o0", "o0 p1 o2 b3", "o0 b1 p1 b2"} {
		l := made(text)
		longer(l, len(l)+2)
	}
	if right < 200 || wrong < 10000 {
		t.Error("too few", right, wrong)
	}
}

// P7.1, P7.2, P7.3: all trees of a few states whose Depths are nested.
func TestFewStates(t *testing.T) {
	right, wrong := 0, 0
	var longer func(l []api.State)
	longer = func(l []api.State) {
		if saidRight(l) {
			right++
			wantRight(t, l, true)
			wantSaid(t, l)
		} else {
			wrong++
			wantRight(t, l, false)
		}
		if len(l) == 6 {
			return
		}
		for depth := range l[len(l)-1].Depth + 2 {
			for kind := api.SBasic; kind <= api.SDeep; kind++ {
				if depth > 0 || kind == api.SOne {
					longer(append(slices.Clip(l), api.State{Kind: kind, Depth: depth}))
				}
			}
		}
	}
	longer(made("o0"))
	if right < 5000 || wrong < 5000 {
		t.Error("too few", right, wrong)
	}
}

// grown answers a right tree of up to so many states, made by a rule that
// next drives.
func grown(next func(int) int, most int) []api.State {
	l := made("o0 b1")
	for len(l) < most {
		ahead := l[len(l)-1]
		longer := append(slices.Clone(l), api.State{Kind: 1 + next(6), Depth: next(ahead.Depth + 2)})
		// What has no child yet gets one.
		for last := longer[len(longer)-1]; last.Kind == api.SOne || last.Kind == api.SBoth; {
			last = api.State{Kind: 1 + next(3), Depth: last.Depth + 1}
			longer = append(longer, last)
		}
		if saidRight(longer) {
			l = longer
		} else if next(60) == 0 {
			break
		}
	}
	return l
}

// P7.1, P7.2, P7.3: trees of as many states as there may be, and what is left
// of them if one state is changed.
func TestGreatTrees(t *testing.T) {
	seed := uint32(7)
	next := func(n int) int {
		seed = seed*1664525 + 1013904223
		return int(seed>>8) % n
	}
	full, deep, regions, wrong := 0, 0, 0, 0
	for range 150 {
		l := grown(next, 40)
		wantRight(t, l, true)
		wantSaid(t, l)
		if len(l) == 40 {
			full++
		}
		if slices.ContainsFunc(l, func(s api.State) bool { return s.Depth == 5 }) {
			deep++
		}
		if saidEnd(l, 0) < len(l) {
			regions++
		}
		for range 100 {
			m := slices.Clone(l)
			m[next(len(m))] = api.State{Kind: next(8), Depth: next(8) - 1}
			wantRight(t, m, saidRight(m))
			if !saidRight(m) {
				wrong++
				wantNothing(t, m, next(len(m)), next(len(m)))
			}
		}
	}
	if full < 20 || deep < 20 || regions < 20 || wrong < 1000 {
		t.Error("too few", full, deep, regions, wrong)
	}
}

// P7.2: the chapter's example, and one with several regions.
func TestPlaces(t *testing.T) {
	for _, c := range []struct {
		text                 string
		parents, ends, among []int
		kids                 [][]int
	}{
		{"o0 b1 p1 b2", []int{-1, 0, 0, 2}, []int{4, 2, 4, 4}, []int{0, 0, 0, 0}, [][]int{{1, 2}, nil, {3}, nil}},
		{"o0 f1 o0 o1 b2 s2 b1 o0 d1 b1", []int{-1, 0, -1, 2, 3, 3, 2, -1, 7, 7}, []int{2, 2, 7, 6, 5, 6, 7, 10, 9, 10}, []int{0, 0, 2, 2, 2, 2, 2, 7, 7, 7}, [][]int{{1}, nil, {3, 6}, {4, 5}, nil, nil, nil, {8, 9}, nil, nil}},
		{"o0 p1 o2 p3 o4 b5 b1 o0 b1", []int{-1, 0, 1, 2, 3, 4, 0, -1, 7}, []int{7, 6, 6, 6, 6, 6, 7, 9, 9}, []int{0, 0, 0, 0, 0, 0, 0, 7, 7}, [][]int{{1, 6}, {2}, {3}, {4}, {5}, nil, nil, {8}, nil}},
	} {
		l := made(c.text)
		for i := range l {
			if got := Parent(l, i); got != c.parents[i] {
				t.Errorf("%s: Parent of %d is %d", c.text, i, got)
			}
			if got := End(l, i); got != c.ends[i] {
				t.Errorf("%s: End of %d is %d", c.text, i, got)
			}
			if got := Region(l, i); got != c.among[i] {
				t.Errorf("%s: Region of %d is %d", c.text, i, got)
			}
			if got := Kids(l, i); !slices.Equal(got, c.kids[i]) {
				t.Errorf("%s: Kids of %d are %v", c.text, i, got)
			}
			if Within(l, i, i) {
				t.Errorf("%s: %d is within itself", c.text, i)
			}
		}
	}
	all := made("o0 " + repeated("b1", 39))
	for i, k := range Kids(all, 0) {
		if k != i+1 || !Within(all, 0, k) || Within(all, k, 0) || End(all, k) != k+1 {
			t.Error("a child of many", i, k)
		}
	}
	if n := len(Kids(all, 0)); n != 39 {
		t.Error("children", n)
	}
}

// P7.3: domains that are from itself, a region, a few states up, none.
func TestDomain(t *testing.T) {
	for _, c := range []struct {
		text     string
		from, to int
		want     int
	}{
		{"o0 b1 p1 b2", 1, 3, 0}, {"o0 b1 p1 b2", 3, 3, 0}, {"o0 b1 p1 b2", 2, 3, 0}, {"o0 b1 p1 b2", 0, 3, 0}, {"o0 b1 p1 b2", 3, 1, 0},
		// to is from, is within it, is its parent.
		{"o0 b1", 0, 0, -1}, {"o0 b1", 1, 1, 0}, {"o0 b1", 0, 1, 0}, {"o0 b1", 1, 0, -1}, {"o0 o1 b2", 1, 1, 0}, {"o0 o1 b2", 2, 2, 1}, {"o0 o1 b2", 1, 2, 1}, {"o0 o1 b2", 2, 1, 0}, {"o0 o1 b2", 0, 2, 0}, {"o0 o1 b2", 2, 0, -1}, {"o0 o1 b2", 1, 0, -1},
		// SBoth is none.
		{"o0 p1 b2 b2", 2, 3, 0}, {"o0 p1 p2 p3 p4 b5 b5", 5, 6, 0}, {"o0 p1 p2 p3 p4 b5 b5", 5, 1, 0}, {"o0 p1 o2 b3 o2 b3", 3, 5, 0}, {"o0 p1 o2 b3 o2 b3", 2, 4, 0}, {"o0 o1 p2 b3 b3", 3, 4, 1}, {"o0 o1 p2 b3 b3", 2, 2, 1},
		// One up, a few up.
		{"o0 o1 o2 o3 o4 b5 b5", 5, 6, 4}, {"o0 o1 o2 o3 o4 b5 b4", 5, 6, 3}, {"o0 o1 o2 o3 o4 b5 b3", 5, 6, 2}, {"o0 o1 o2 o3 o4 b5 b2", 5, 6, 1}, {"o0 o1 o2 o3 o4 b5 b1", 5, 6, 0}, {"o0 o1 o2 o3 o4 b5 s5", 5, 6, 4}, {"o0 o1 o2 o3 o4 b5 d1", 5, 6, 0}, {"o0 b1 o1 o2 o3 o4 b5", 1, 6, 0},
		// Another region is never reached, nor is a region itself.
		{"o0 b1 o0 b1", 1, 3, -1}, {"o0 b1 o0 b1", 3, 1, -1}, {"o0 b1 o0 b1", 1, 2, -1}, {"o0 b1 o0 b1", 0, 2, -1}, {"o0 b1 o0 b1", 2, 0, -1}, {"o0 b1 o0 b1", 3, 3, 2}, {"o0 b1 o0 o1 b2 b1", 4, 5, 2}, {"o0 b1 o0 o1 b2 b1", 4, 1, -1},
	} {
		if got := Domain(made(c.text), c.from, c.to); got != c.want {
			t.Errorf("%s: Domain of %d, %d is %d, wanted %d", c.text, c.from, c.to, got, c.want)
		}
	}
}

// P7.1: places that there aren't, each by itself and all of them.
func TestPlacesThatAreNot(t *testing.T) {
	for _, text := range []string{"o0 b1", "o0 b1 p1 b2", repeated("o0 o1 b2", 4), "o0 " + repeated("b1", 39)} {
		l := made(text)
		// Behind the length there is room, of which nothing is told.
		for _, m := range [][]api.State{l, append(slices.Clip(l), made("o0 b1")...)[:len(l)]} {
			away := []int{-1, -2, len(l), len(l) + 1, 40, 1 << 32, math.MaxInt, math.MaxInt - 1, math.MinInt, math.MinInt + 1}
			for _, i := range away {
				for j := range m {
					wantNothing(t, m, i, j)
				}
				for _, j := range away {
					wantNothing(t, m, i, j)
				}
			}
		}
	}
}

// P7.1: of trees that aren't right nothing is told at any place.
func TestTreesThatAreNot(t *testing.T) {
	for _, text := range []string{"", "o0", "p0 b1 b1", "o0 b1 b2", "o0 b2", "o0 s1", "o0 p1 f2", "o0 b1 ?1", "o0 b1 o1", "o1 b2", repeated("o0 b1", 5), "o0 " + repeated("b1", 40), "o0 o1 o2 o3 o4 o5 b6"} {
		l := made(text)
		for i := -1; i <= len(l); i++ {
			for j := -1; j <= len(l); j++ {
				wantNothing(t, l, i, j)
			}
		}
		for _, i := range []int{math.MinInt, math.MaxInt} {
			wantNothing(t, l, i, 0)
			wantNothing(t, l, i, i)
		}
	}
	wantNothing(t, []api.State{}, 0, 0)
}

// P7.1, P7.2, P7.3: what is handed in stays, its spare room too, asking again
// answers the same, and what is answered is new.
func TestNothingIsChangedOrShared(t *testing.T) {
	for _, text := range []string{"o0 b1 p1 b2", "o0 b1 b1 b1 b1 b1", "o0 o1 b2 s2 d2 o0 f1", "o0 p1 f2"} {
		room := made(text + " o0 b1")
		for i := range room {
			room[i].Name, room[i].Entry = "q", []api.Action{{Kind: api.ARaise, Name: "go"}}
		}
		was := make([]api.State, len(room))
		for i, s := range room {
			s.Entry = slices.Clone(s.Entry)
			was[i] = s
		}
		l := room[:len(room)-2]
		for i := range l {
			first, again := Kids(l, i), Kids(l, i)
			want := slices.Clone(again)
			first = first[:cap(first)]
			for k := range first {
				first[k] = -7
			}
			if !slices.Equal(again, want) || !slices.Equal(Kids(l, i), want) {
				t.Error(text, i, "Kids share memory")
			}
			for j := range l {
				if Within(l, i, j) != Within(l, i, j) || Domain(l, i, j) != Domain(l, i, j) {
					t.Error(text, i, j, "another answer")
				}
			}
			if Parent(l, i) != Parent(l, i) || End(l, i) != End(l, i) || Region(l, i) != Region(l, i) || Right(l) != Right(l) {
				t.Error(text, i, "another answer")
			}
		}
		if !reflect.DeepEqual(room, was) {
			t.Error(text, "was changed")
		}
	}
}

// P7.2: children are handed out one by one, and none behind the one at which
// it was enough.
func TestChildrenOneByOne(t *testing.T) {
	l := made("o0 b1 o1 b2 b2 p1 b2 b1")
	for enough := range 5 {
		var places []int
		for k := range children(l, 0) {
			places = append(places, k)
			if len(places) > enough {
				break
			}
		}
		if want := []int{1, 2, 5, 7}; !slices.Equal(places, want[:min(enough+1, 4)]) {
			t.Error(enough, places)
		}
	}
}
