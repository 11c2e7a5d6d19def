package bag

import (
	"math"
	"slices"
	"strconv"
	"strings"
	"testing"
	"unsafe"

	"quintain/api"
)

// filled is a bag of such datagrams.
func filled(list ...string) *Bag {
	b := New()
	for _, s := range list {
		b.Put(s)
	}
	return b
}

// numbered are n texts, of which no two are alike.
func numbered(n int) []string {
	var list []string
	for i := range n {
		list = append(list, "d"+strconv.Itoa(i))
	}
	return list
}

func wantAll(t *testing.T, b *Bag, want ...string) {
	t.Helper()
	if l := b.All(); !slices.Equal(l, want) || b.Len() != len(want) {
		t.Errorf("%d in %q, wanted %q", b.Len(), l, want)
	}
}

func wantErrno(t *testing.T, what string, e, want api.Errno) {
	t.Helper()
	if e != want {
		t.Errorf("%s: %v, wanted %v", what, e, want)
	}
}

// wantRefused wants that a call answers an error and changes nothing.
func wantRefused(t *testing.T, b *Bag, what string, want api.Errno, call func() api.Errno) {
	t.Helper()
	was, list := *b, b.All()
	wantErrno(t, what, call(), want)
	if *b != was {
		t.Errorf("%s: changed by an error", what)
	}
	wantAll(t, b, list...)
}

func wantTake(t *testing.T, b *Bag, i int, want string) {
	t.Helper()
	if s, e := b.Take(i); s != want || e != api.OK {
		t.Errorf("take %d: %q %v, wanted %q", i, s, e, want)
	}
}

// wantNoTake wants that the i-th one is neither taken nor dropped.
func wantNoTake(t *testing.T, b *Bag, i int) {
	t.Helper()
	wantRefused(t, b, "take "+strconv.Itoa(i), api.ErrRange, func() api.Errno {
		s, e := b.Take(i)
		if s != "" {
			t.Errorf("take %d: beside an error %q", i, s)
		}
		return e
	})
	wantRefused(t, b, "drop "+strconv.Itoa(i), api.ErrRange, func() api.Errno { return b.Drop(i) })
}

// beyond are places that there aren't among n.
func beyond(n int) []int {
	return []int{-1, -2, -16, math.MinInt, n, n + 1, n + 16, 17, 255, 256, math.MaxInt}
}

// The chapter's example, step by step.
func TestExample(t *testing.T) {
	b := New()
	wantAll(t, b)
	if !b.Put("a") {
		t.Error("no room for a")
	}
	wantAll(t, b, "a")
	if !b.Put("b") {
		t.Error("no room for b")
	}
	wantAll(t, b, "a", "b")
	wantErrno(t, "twice", b.Twice(0), api.OK)
	wantAll(t, b, "a", "b", "a")
	wantTake(t, b, 1, "b")
	wantAll(t, b, "a", "a")
	wantErrno(t, "turn", b.Turn(0, 9), api.OK)
	wantAll(t, b, "c", "a")
	wantRefused(t, b, "turn again", api.ErrTwice, func() api.Errno { return b.Turn(0, 0) })
	wantAll(t, b, "c", "a")
}

// P17.1: one to sixteen, and the seventeenth is lost.
func TestPut(t *testing.T) {
	b := New()
	wantAll(t, b)
	list := numbered(16)
	for i, s := range list {
		if !b.Put(s) {
			t.Errorf("no room for %d", i)
		}
		wantAll(t, b, list[:i+1]...)
	}
	for range 3 {
		was := *b
		if b.Put("more") || b.Put("") || b.Put("d0") || *b != was {
			t.Error("more than there is room for")
		}
		wantAll(t, b, list...)
	}
	wantTake(t, b, 0, "d0")
	if !b.Put("next") || b.Put("more") {
		t.Error("no room where one was taken out, or too much")
	}
	wantAll(t, b, append(list[1:], "next")...)
}

// P17.1: texts of any bytes, empty ones, alike ones, long ones.
func TestPutAnyText(t *testing.T) {
	long := strings.Repeat("\x00\xff", 1<<19)
	list := []string{"", "\x00", "a", "a", "", "\xff\xfe no runes \x80", "\n", long}
	b := filled(list...)
	wantAll(t, b, list...)
	for _, s := range list {
		wantTake(t, b, 0, s)
	}
	wantAll(t, b)
}

// P17.2: each one of one to sixteen, by Take and by Drop; the others keep their
// order.
func TestTakeAndDrop(t *testing.T) {
	for n := 1; n <= 16; n++ {
		list := numbered(n)
		for i, s := range list {
			others := slices.Delete(slices.Clone(list), i, i+1)
			b := filled(list...)
			wantTake(t, b, i, s)
			wantAll(t, b, others...)
			b.Put("behind")
			wantAll(t, b, append(slices.Clone(others), "behind")...)
			b = filled(list...)
			wantErrno(t, "drop", b.Drop(i), api.OK)
			wantAll(t, b, others...)
			b.Put("behind")
			wantAll(t, b, append(slices.Clone(others), "behind")...)
		}
	}
}

// P17.2: till nothing is left, from the first one on, from the last one, and from
// the middle.
func TestTakeAll(t *testing.T) {
	for _, which := range []func(n int) int{
		func(n int) int { return 0 },
		func(n int) int { return n - 1 },
		func(n int) int { return n / 2 },
	} {
		list := numbered(16)
		b, c := filled(list...), filled(list...)
		for len(list) > 0 {
			i := which(len(list))
			wantTake(t, b, i, list[i])
			wantErrno(t, "drop", c.Drop(i), api.OK)
			list = slices.Delete(list, i, i+1)
			wantAll(t, b, list...)
			wantAll(t, c, list...)
		}
		wantNoTake(t, b, 0)
		b.Put("again")
		wantAll(t, b, "again")
	}
}

// P17.2 to P17.4: places that there aren't, in bags of none to sixteen.
func TestNoSuchPlace(t *testing.T) {
	for n := range 17 {
		b := filled(numbered(n)...)
		for _, i := range beyond(n) {
			if i >= 0 && i < n {
				continue
			}
			what := strconv.Itoa(i) + " of " + strconv.Itoa(n)
			wantNoTake(t, b, i)
			wantRefused(t, b, "twice "+what, api.ErrRange, func() api.Errno { return b.Twice(i) })
			for _, bit := range []int{0, 1, 7, 8, -1, math.MaxInt, math.MinInt} {
				wantRefused(t, b, "turn "+what, api.ErrRange, func() api.Errno { return b.Turn(i, bit) })
			}
		}
	}
}

// P17.2: where one was taken out of the place there is none any more.
func TestNoPlaceAnyMore(t *testing.T) {
	b := filled("a", "b")
	b.Twice(1)
	wantTake(t, b, 1, "b")
	wantNoTake(t, b, 2)
	wantErrno(t, "drop", b.Drop(1), api.OK)
	wantNoTake(t, b, 1)
	wantRefused(t, b, "twice", api.ErrRange, func() api.Errno { return b.Twice(1) })
	wantRefused(t, b, "turn", api.ErrRange, func() api.Errno { return b.Turn(1, 0) })
	wantAll(t, b, "a")
}

// P17.3: another one like each of one to fifteen, behind all others.
func TestTwice(t *testing.T) {
	for n := 1; n < 16; n++ {
		list := numbered(n)
		for i, s := range list {
			b := filled(list...)
			wantErrno(t, "twice", b.Twice(i), api.OK)
			wantAll(t, b, append(slices.Clone(list), s)...)
			wantTake(t, b, i, s)
			wantTake(t, b, n-1, s)
			wantAll(t, b, slices.Delete(slices.Clone(list), i, i+1)...)
		}
	}
}

// P17.3: there is no room for another one in a full bag, of whichever it is.
func TestTwiceFull(t *testing.T) {
	list := numbered(15)
	b := filled(list...)
	wantErrno(t, "the sixteenth", b.Twice(3), api.OK)
	list = append(list, "d3")
	wantAll(t, b, list...)
	for i := range 16 {
		wantRefused(t, b, "the seventeenth", api.ErrFull, func() api.Errno { return b.Twice(i) })
	}
	for _, i := range beyond(16) {
		wantRefused(t, b, "no such one, and full", api.ErrRange, func() api.Errno { return b.Twice(i) })
	}
	wantErrno(t, "drop", b.Drop(0), api.OK)
	wantErrno(t, "twice", b.Twice(0), api.OK)
	wantAll(t, b, append(list[1:], "d1")...)
}

// P17.3: each bit by itself, and that a byte's first bit is its lowest.
func TestTurnEachBit(t *testing.T) {
	for _, c := range []struct {
		text string
		bit  int
		want string
	}{
		{"\x00", 0, "\x01"},
		{"\x00", 1, "\x02"},
		{"\x00", 7, "\x80"},
		{"\xff", 0, "\xfe"},
		{"\xff", 7, "\x7f"},
		{"\xff", 3, "\xf7"},
		{"abc", 0, "`bc"},
		{"abc", 7, "\xe1bc"},
		{"abc", 8, "acc"},
		{"abc", 9, "a`c"},
		{"abc", 15, "a\xe2c"},
		{"abc", 16, "abb"},
		{"abc", 23, "ab\xe3"},
	} {
		b := filled(c.text)
		wantErrno(t, c.text, b.Turn(0, c.bit), api.OK)
		wantAll(t, b, c.want)
	}
	for _, s := range []string{"\x00", "\x00\x00\x00\x00\x00", "\xff\xff\xff", "123456789", "\u20ac\x80\x01"} {
		for bit := range 8 * len(s) {
			b := filled("ahead", s, "behind")
			wantErrno(t, s, b.Turn(1, bit), api.OK)
			wantAll(t, b, "ahead", withBit(s, bit), "behind")
		}
	}
}

// P17.3: numbers beyond all bits begin anew.
func TestTurnBeyond(t *testing.T) {
	for _, c := range []struct {
		text string
		bit  int
		want string
	}{
		{"a", 8, "`"},
		{"a", 9, "c"},
		{"a", 15, "\xe1"},
		{"a", 16, "`"},
		{"ab", 16, "`b"},
		{"ab", 25, "a`"},
		{"ab", 31, "a\xe2"},
		{"ab", 32, "`b"},
		{"abc", 24, "`bc"},
		{"abc", 47, "ab\xe3"},
		{"abc", 48, "`bc"},
		{"abc", 1 << 24, "abb"},              // 16
		{"a", math.MaxInt, "\xe1"},           // 7
		{"a", math.MaxInt - 7, "`"},          // 0
		{"ab", math.MaxInt, "a\xe2"},         // 15
		{"abc", 1 << 62, "abb"},              // 16
		{"abc", 1<<62 + 1<<24, "acc"},        // 8
		{"abcde", 40 * 12345678901, "`bcde"}, // 0
		{"abcde", 40*12345678901 + 39, "abcd\xe5"},
	} {
		b := filled(c.text)
		wantErrno(t, c.text, b.Turn(0, c.bit), api.OK)
		wantAll(t, b, c.want)
	}
	for _, s := range []string{"x", "xy", "xyz", "123456789", strings.Repeat("\xff", 813)} {
		n := 8 * len(s)
		for _, bit := range []int{n - 1, n, n + 1, 2*n - 1, 2 * n, 3*n + 5, 1 << 31, 1<<32 - 1, 1 << 32, 1<<32 + 1, 1 << 62, math.MaxInt - 1, math.MaxInt} {
			b := filled(s)
			wantErrno(t, s, b.Turn(0, bit), api.OK)
			wantAll(t, b, withBit(s, bit))
		}
	}
}

// P17.3: of the first, of the last and of each one between only that one is
// another then.
func TestTurnEachPlace(t *testing.T) {
	for n := 1; n <= 16; n++ {
		for i := range n {
			list := numbered(n)
			b := filled(list...)
			wantErrno(t, "turn", b.Turn(i, 1), api.OK)
			list[i] = withBit(list[i], 1)
			wantAll(t, b, list...)
			for j := range n {
				want := api.OK
				if j == i {
					want = api.ErrTwice
				}
				wantErrno(t, "turn another", b.Turn(j, 0), want)
			}
		}
	}
}

// P17.3: a bit below 0, a text without a byte, one that was turned, and several
// of these at once.
func TestTurnErrors(t *testing.T) {
	b := filled("a", "", "b", "")
	wantErrno(t, "turn", b.Turn(2, 0), api.OK)
	for _, c := range []struct {
		what   string
		i, bit int
		want   api.Errno
	}{
		{"a bit below 0", 0, -1, api.ErrRange},
		{"a bit far below 0", 0, math.MinInt, api.ErrRange},
		{"no byte", 1, 0, api.ErrForm},
		{"no byte, a great bit", 1, math.MaxInt, api.ErrForm},
		{"no byte, the last one", 3, 1, api.ErrForm},
		{"no byte, a bit below 0", 1, -1, api.ErrRange},
		{"turned", 2, 0, api.ErrTwice},
		{"turned, another bit", 2, 7, api.ErrTwice},
		{"turned, the same bit by a greater number", 2, 8, api.ErrTwice},
		{"turned, the greatest bit", 2, math.MaxInt, api.ErrTwice},
		{"turned, a bit below 0", 2, -1, api.ErrRange},
		{"turned, a bit far below 0", 2, math.MinInt, api.ErrRange},
		{"no such one", 4, 0, api.ErrRange},
		{"no such one, a bit below 0", 4, -1, api.ErrRange},
		{"no such one below 0, a bit below 0", -1, -1, api.ErrRange},
		{"no such one below 0, a bit", -1, 3, api.ErrRange},
	} {
		for range 2 {
			wantRefused(t, b, c.what, c.want, func() api.Errno { return b.Turn(c.i, c.bit) })
		}
	}
	wantErrno(t, "turn behind errors", b.Turn(0, 0), api.OK)
	wantAll(t, b, "`", "", "c", "")
}

// P17.1 to P17.3: a text without a byte is a datagram like others, but for Turn.
func TestNoByte(t *testing.T) {
	b := filled("", "a", "")
	wantErrno(t, "turn", b.Turn(0, 0), api.ErrForm)
	wantErrno(t, "twice", b.Twice(0), api.OK)
	wantAll(t, b, "", "a", "", "")
	wantErrno(t, "turn again", b.Turn(0, 0), api.ErrForm)
	wantErrno(t, "turn one like it", b.Turn(3, 0), api.ErrForm)
	wantErrno(t, "drop", b.Drop(0), api.OK)
	wantAll(t, b, "a", "", "")
	wantErrno(t, "turn what stands there now", b.Turn(0, 0), api.OK)
	wantTake(t, b, 1, "")
	wantTake(t, b, 1, "")
	wantAll(t, b, "`")
}

// P17.3: one made like another behind its Turn isn't turned any more, whichever
// of them is gone; nor is one that was made like that.
func TestTurnThenTwice(t *testing.T) {
	b := filled("a", "z")
	wantErrno(t, "turn", b.Turn(0, 0), api.OK)
	wantErrno(t, "twice", b.Twice(0), api.OK)
	wantErrno(t, "twice of twice", b.Twice(2), api.OK)
	wantErrno(t, "twice of twice of twice", b.Twice(3), api.OK)
	wantAll(t, b, "`", "z", "`", "`", "`")
	for _, i := range []int{0, 2, 3, 4} {
		wantRefused(t, b, "turn", api.ErrTwice, func() api.Errno { return b.Turn(i, 5) })
	}
	b.Drop(2)
	b.Drop(0)
	wantAll(t, b, "z", "`", "`")
	for _, i := range []int{1, 2} {
		wantRefused(t, b, "turn where the one that was turned is gone", api.ErrTwice, func() api.Errno { return b.Turn(i, 5) })
	}
	wantErrno(t, "turn another", b.Turn(0, 0), api.OK)
}

// P17.3: one made like another ahead of its Turn is turned for itself, and that
// one for itself.
func TestTwiceThenTurn(t *testing.T) {
	b := filled("a")
	wantErrno(t, "twice", b.Twice(0), api.OK)
	wantErrno(t, "twice of twice", b.Twice(1), api.OK)
	wantErrno(t, "turn", b.Turn(0, 0), api.OK)
	wantAll(t, b, "`", "a", "a")
	wantErrno(t, "turn one made ahead of that", b.Turn(1, 1), api.OK)
	wantAll(t, b, "`", "c", "a")
	wantErrno(t, "turn one made of that ahead of that", b.Turn(2, 2), api.OK)
	wantAll(t, b, "`", "c", "e")
	b = filled("a")
	b.Twice(0)
	wantErrno(t, "turn the one that was made", b.Turn(1, 0), api.OK)
	wantErrno(t, "turn the one that it was made like", b.Turn(0, 0), api.OK)
	wantAll(t, b, "`", "`")
	wantErrno(t, "turn again", b.Turn(0, 0), api.ErrTwice)
	wantErrno(t, "turn again", b.Turn(1, 0), api.ErrTwice)
}

// P17.3: one made like one that was made ahead of a Turn, behind that Turn.
func TestTwiceTurnTwice(t *testing.T) {
	b := filled("a")
	b.Twice(0)
	wantErrno(t, "turn", b.Turn(0, 0), api.OK)
	wantErrno(t, "twice of what wasn't turned", b.Twice(1), api.OK)
	wantErrno(t, "twice of what was", b.Twice(0), api.OK)
	wantAll(t, b, "`", "a", "a", "`")
	wantErrno(t, "turn", b.Turn(2, 1), api.OK)
	wantErrno(t, "turn", b.Turn(3, 1), api.ErrTwice)
	wantErrno(t, "turn", b.Turn(1, 1), api.OK)
	wantAll(t, b, "`", "c", "c", "`")
}

// P17.3: what counts is the datagram, not its place, nor its bytes.
func TestTurnedPlace(t *testing.T) {
	b := filled("a", "b", "c")
	wantErrno(t, "turn", b.Turn(1, 0), api.OK)
	wantErrno(t, "drop", b.Drop(1), api.OK)
	wantErrno(t, "turn what stands there now", b.Turn(1, 0), api.OK)
	wantAll(t, b, "a", "b")
	wantErrno(t, "drop the last one", b.Drop(1), api.OK)
	b.Put("b")
	wantErrno(t, "turn what was put there, alike", b.Turn(1, 0), api.OK)
	wantTake(t, b, 1, "c")
	wantErrno(t, "twice of what wasn't turned", b.Twice(0), api.OK)
	wantErrno(t, "turn what was made there", b.Turn(1, 0), api.OK)
	b = filled("a", "b", "c")
	wantErrno(t, "turn the last one", b.Turn(2, 0), api.OK)
	wantErrno(t, "drop the first one", b.Drop(0), api.OK)
	wantErrno(t, "turn it where it stands now", b.Turn(1, 0), api.ErrTwice)
	wantErrno(t, "turn the one ahead of it", b.Turn(0, 0), api.OK)
	wantTake(t, b, 0, "c")
	b.Put("b")
	wantErrno(t, "turn what was put where it stood", b.Turn(1, 0), api.OK)
	wantErrno(t, "turn it once more", b.Turn(0, 0), api.ErrTwice)
	wantAll(t, b, "b", "c")
}

// P17.3: one of a full bag that was turned, when each one is taken out.
func TestTurnedMovesUp(t *testing.T) {
	for turned := range 16 {
		for out := range 16 {
			b := filled(numbered(16)...)
			b.Turn(turned, 0)
			b.Drop(out)
			b.Put("new")
			for i := range 16 {
				want := api.OK
				if out != turned && (i == turned && i < out || i == turned-1 && i >= out) {
					want = api.ErrTwice
				}
				wantErrno(t, "turn", b.Turn(i, 1), want)
			}
		}
	}
}

// P17.4: a nil bag, whatever is asked of it.
func TestNil(t *testing.T) {
	var b *Bag
	for _, s := range []string{"", "a"} {
		if b.Put(s) {
			t.Errorf("put %q", s)
		}
	}
	if n := b.Len(); n != 0 {
		t.Errorf("%d in it", n)
	}
	if l := b.All(); len(l) != 0 {
		t.Errorf("%q in it", l)
	}
	for _, i := range []int{0, 1, 15, 16, -1, math.MinInt, math.MaxInt} {
		if s, e := b.Take(i); s != "" || e != api.ErrNil {
			t.Errorf("take: %q %v", s, e)
		}
		wantErrno(t, "drop", b.Drop(i), api.ErrNil)
		wantErrno(t, "twice", b.Twice(i), api.ErrNil)
		for _, bit := range []int{0, 9, -1, math.MinInt, math.MaxInt} {
			wantErrno(t, "turn", b.Turn(i, bit), api.ErrNil)
		}
	}
}

// R5: two bags are each their own.
func TestTwoBags(t *testing.T) {
	b, c := New(), New()
	if b == nil || b == c {
		t.Fatal("one bag for two")
	}
	b.Put("a")
	wantAll(t, c)
	c.Put("x")
	c.Put("y")
	wantAll(t, b, "a")
	wantErrno(t, "turn", b.Turn(0, 0), api.OK)
	wantErrno(t, "turn the other's", c.Turn(0, 0), api.OK)
	wantErrno(t, "drop", c.Drop(0), api.OK)
	wantErrno(t, "twice", c.Twice(0), api.OK)
	wantAll(t, b, "`")
	wantAll(t, c, "y", "y")
	for b.Put("b") {
	}
	wantAll(t, c, "y", "y")
	if !c.Put("z") {
		t.Error("full by the other one")
	}
	wantErrno(t, "what the other one hasn't", c.Drop(3), api.ErrRange)
	wantAll(t, New())
}

// R4: neither is changed by a change of the other: of the bag, and of what All
// answered.
func TestAllIsNew(t *testing.T) {
	b := filled("a", "b", "c")
	first, second := b.All(), b.All()
	first[0], first[2] = "x", "y"
	first = append(first[:1], "z")
	_ = append(second[:len(second):cap(second)], "more")
	wantAll(t, b, "a", "b", "c")
	if !slices.Equal(second, []string{"a", "b", "c"}) {
		t.Errorf("%q", second)
	}
	b.Turn(0, 0)
	b.Twice(1)
	b.Drop(1)
	b.Put("d")
	wantAll(t, b, "`", "c", "b", "d")
	if !slices.Equal(second, []string{"a", "b", "c"}) || !slices.Equal(first, []string{"x", "z"}) {
		t.Errorf("%q %q", first, second)
	}
	for range 3 {
		b.Drop(0)
	}
	empty := New().All()
	_ = append(empty, "e")
	wantAll(t, b, "d")
	wantAll(t, New())
}

// shared tells whether two texts have a byte in common in memory.
func shared(s, u string) bool {
	if s == "" || u == "" {
		return false
	}
	a, b := uintptr(unsafe.Pointer(unsafe.StringData(s))), uintptr(unsafe.Pointer(unsafe.StringData(u)))
	return a < b+uintptr(len(u)) && b < a+uintptr(len(s))
}

// R4: what is handed in isn't kept as it is, and what is answered is new memory.
func TestNewMemory(t *testing.T) {
	handed := []byte("handed in")
	s := unsafe.String(unsafe.SliceData(handed), len(handed))
	b := New()
	b.Put(s)
	handed[0] = 'H'
	wantAll(t, b, "handed in")
	b.Twice(0)
	b.Put("other")
	b.Turn(2, 0)
	b.Twice(2)
	texts := []string{s}
	texts = append(texts, b.All()...)
	texts = append(texts, b.All()...)
	for b.Len() > 0 {
		u, _ := b.Take(0)
		texts = append(texts, u)
	}
	for i, u := range texts {
		for _, v := range texts[:i] {
			if shared(u, v) {
				t.Errorf("%q and %q share memory", u, v)
			}
		}
	}
}

// That the last place holds nothing of what was taken out.
func TestLastPlaceIsCleared(t *testing.T) {
	for n := 1; n <= 16; n++ {
		for i := range n {
			b := filled(numbered(n)...)
			b.Turn(n-1, 0)
			b.Drop(i)
			for at := n - 1; at < 16; at++ {
				if b.places[at] != (datagram{}) {
					t.Errorf("%d of %d taken out: %v at %d", i, n, b.places[at], at)
				}
			}
		}
	}
}
