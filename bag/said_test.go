package bag

import (
	"math"
	"math/big"
	"slices"
	"strconv"
	"testing"

	"quintain/api"
)

// What follows says again what the document says, with no mark on a datagram but
// all that it has been through, and when.

type said struct {
	text  string
	turns []int // when bits of it were turned
	like  *said // which one it was made like by Twice
	made  int   // when that was
}

// turnedAhead tells whether a bit of d was turned ahead of that time, or one of
// what it was made like, ahead of that.
func (d *said) turnedAhead(when int) bool {
	if slices.ContainsFunc(d.turns, func(turn int) bool { return turn < when }) {
		return true
	}
	return d.like != nil && d.like.turnedAhead(d.made)
}

// withBit is s with the bit turned of which the number is told.
func withBit(s string, bit int) string {
	eight := new(big.Int).Mul(big.NewInt(8), big.NewInt(int64(len(s))))
	n := int(new(big.Int).Mod(big.NewInt(int64(bit)), eight).Int64())
	l := []byte(s)
	counts := 1
	for range n % 8 {
		counts *= 2
	}
	if int(l[n/8])/counts%2 == 1 {
		l[n/8] -= byte(counts)
	} else {
		l[n/8] += byte(counts)
	}
	return string(l)
}

type saidBag struct {
	list []*said
	now  int
}

func (b *saidBag) has(i int) bool {
	return 0 <= i && i < len(b.list)
}

func (b *saidBag) put(s string) bool {
	if len(b.list) == 16 {
		return false
	}
	b.list = append(b.list, &said{text: s})
	return true
}

func (b *saidBag) take(i int) (string, api.Errno) {
	if !b.has(i) {
		return "", 5
	}
	s := b.list[i].text
	var others []*said
	for at, d := range b.list {
		if at != i {
			others = append(others, d)
		}
	}
	b.list = others
	return s, 0
}

func (b *saidBag) twice(i int) api.Errno {
	if !b.has(i) {
		return 5
	}
	if len(b.list) == 16 {
		return 10
	}
	b.list = append(b.list, &said{text: b.list[i].text, like: b.list[i], made: b.now})
	return 0
}

func (b *saidBag) turn(i, bit int) api.Errno {
	if !b.has(i) || bit < 0 {
		return 5
	}
	d := b.list[i]
	if len(d.text) == 0 {
		return 1
	}
	if d.turnedAhead(b.now) {
		return 3
	}
	d.text = withBit(d.text, bit)
	d.turns = append(d.turns, b.now)
	return 0
}

func (b *saidBag) all() []string {
	var list []string
	for _, d := range b.list {
		list = append(list, d.text)
	}
	return list
}

// deed is a call of a bag.
type deed struct {
	call string
	i    int
	bit  int
	text string
}

func (d deed) String() string {
	return d.call + " " + strconv.Itoa(d.i) + " " + strconv.Itoa(d.bit) + " " + strconv.Quote(d.text)
}

// pair is a bag and what is said of it.
type pair struct {
	bag  *Bag
	said saidBag
	done []deed
}

// do does a deed with both, and wants that they answer the same, hold the same
// then, and that an error has changed nothing.
func (p *pair) do(t *testing.T, d deed) api.Errno {
	t.Helper()
	p.said.now++
	p.done = append(p.done, d)
	was := *p.bag
	var got, want api.Errno
	var s, u string
	var ok, may bool
	switch d.call {
	case "put":
		ok, may = p.bag.Put(d.text), p.said.put(d.text)
	case "take":
		s, got = p.bag.Take(d.i)
		u, want = p.said.take(d.i)
	case "drop":
		got = p.bag.Drop(d.i)
		_, want = p.said.take(d.i)
	case "twice":
		got, want = p.bag.Twice(d.i), p.said.twice(d.i)
	case "turn":
		got, want = p.bag.Turn(d.i, d.bit), p.said.turn(d.i, d.bit)
	}
	if s != u || got != want || ok != may {
		t.Fatalf("%v: %q %v %v, wanted %q %v %v", p.done, s, got, ok, u, want, may)
	}
	if l := p.said.all(); !slices.Equal(p.bag.All(), l) || p.bag.Len() != len(l) {
		t.Fatalf("%v: %d in %q, wanted %q", p.done, p.bag.Len(), p.bag.All(), l)
	}
	if got != api.OK && *p.bag != was {
		t.Fatalf("%v: changed by an error", p.done)
	}
	return got
}

// turnAll turns a bit of each, to see of which one was.
func (p *pair) turnAll(t *testing.T) {
	t.Helper()
	for i := range p.bag.Len() {
		p.do(t, deed{call: "turn", i: i, bit: 3})
	}
}

// chance is a row of numbers that look as if by chance, the same in each run.
type chance uint64

func (c *chance) below(n int) int {
	*c = *c*6364136223846793005 + 1442695040888963407
	return int(uint64(*c>>33) % uint64(n))
}

func (c *chance) text(n int) string {
	list := make([]byte, n)
	for i := range list {
		list[i] = byte(c.below(256))
	}
	return string(list)
}

// place is one that there is mostly, or one just beyond, or far from it.
func (c *chance) place(n int) int {
	switch c.below(12) {
	case 0:
		return []int{-1, n, n + 1, 16, math.MinInt, math.MaxInt}[c.below(6)]
	case 1:
		return 0
	case 2:
		return n - 1
	}
	return c.below(n + 1)
}

func (c *chance) bit() int {
	switch c.below(8) {
	case 0:
		return []int{-1, 0, 7, 8, math.MinInt, math.MaxInt, math.MaxInt - 1}[c.below(7)]
	case 1:
		return c.below(1<<30)<<33 | c.below(1<<30)
	}
	return c.below(100)
}

// deed is one of some kind, of a bag of n; puts and twices come the oftener the
// greater more is.
func (c *chance) deed(n, more int) deed {
	d := deed{i: c.place(n), bit: c.bit()}
	switch k := c.below(5 + more); k {
	case 0:
		d.call = "take"
	case 1:
		d.call = "drop"
	case 2, 3:
		d.call = "turn"
	default:
		d.call = []string{"put", "twice"}[k%2]
		d.text = c.text([]int{0, 1, 2, 5, 1 + c.below(30)}[c.below(5)])
	}
	return d
}

// P17.1 to P17.4: many deeds in a row, in bags that are about empty, about full,
// and between.
func TestManyDeeds(t *testing.T) {
	c := chance(1)
	seen := map[api.Errno]int{}
	for round := range 3000 {
		p := pair{bag: New()}
		for range 60 {
			seen[p.do(t, c.deed(p.bag.Len(), round%6))]++
		}
		p.turnAll(t)
	}
	for _, e := range []api.Errno{api.OK, api.ErrRange, api.ErrForm, api.ErrTwice, api.ErrFull} {
		if seen[e] < 1000 {
			t.Error("the deeds aren't as they were meant", seen)
		}
	}
	if len(seen) != 5 {
		t.Error("another error", seen)
	}
}

// P17.1 to P17.4: all rows of five deeds of some, in bags of none, of three and of
// fifteen.
func TestAllShortRows(t *testing.T) {
	deeds := []deed{
		{call: "put", text: "ab"}, {call: "put"},
		{call: "take", i: 1}, {call: "drop"},
		{call: "twice"}, {call: "twice", i: 2},
		{call: "turn", bit: 9}, {call: "turn", i: 1}, {call: "turn", i: 2, bit: 8}, {call: "turn", i: 15},
	}
	for _, first := range [][]string{nil, {"x", "yz", ""}, {"x", "yz", "", "3", "4", "5", "6", "7", "8", "9", "10", "11", "12", "13", "14"}} {
		for row := range 10 * 10 * 10 * 10 * 10 {
			p := pair{bag: New()}
			for _, s := range first {
				p.bag.Put(s)
				p.said.put(s)
			}
			for range 5 {
				p.do(t, deeds[row%10])
				row /= 10
			}
			if p.bag.Len() < 5 {
				p.turnAll(t)
			}
		}
	}
}
