package wire

import (
	"hash/crc32"
	"reflect"
	"slices"
	"testing"

	"quintain/api"
)

// What follows says again what the document says, word by word: of a message, one
// number behind the other, of how many bytes each is and how great it may be.

type said struct {
	number      uint64
	bytes       int
	least, most int
}

func saidByte(n, least, most int) said { return said{uint64(n), 1, least, most} }
func saidEight(n uint64) said          { return said{n, 8, 0, 0} }

func (n said) beyond() bool {
	return n.bytes == 1 && (int(n.number) < n.least || int(n.number) > n.most)
}

func saidPlaces(l []int) []said {
	list := []said{saidByte(len(l), 0, 48)}
	for _, p := range l {
		list = append(list, saidByte(p, 0, 63))
	}
	return list
}

func saidMessage(m api.Msg) []said {
	list := []said{saidByte(m.Kind, 1, 9), saidEight(m.Step), saidByte(len(m.Event), 0, 20)}
	for _, b := range []byte(m.Event) {
		list = append(list, saidByte(int(b), 0, 255))
	}
	for _, l := range [][]int{m.Trans, m.States, m.Enter, m.Vars} {
		list = append(list, saidPlaces(l)...)
	}
	list = append(list, saidByte(len(m.Sets), 0, 8))
	for _, s := range m.Sets {
		list = append(list, saidByte(s.Var, 0, 63), saidByte(s.Val.Kind, 1, 3), saidEight(uint64(s.Val.A)), saidEight(uint64(s.Val.B)))
	}
	list = append(list, saidByte(len(m.Pasts), 0, 40))
	for _, p := range m.Pasts {
		list = append(append(list, saidByte(p.State, 0, 63)), saidPlaces(p.Set)...)
	}
	return list
}

func saidEncode(m api.Msg) (string, api.Errno) {
	list := saidMessage(m)
	if slices.ContainsFunc(list, said.beyond) {
		return "", 1
	}
	var bytes []byte
	for _, n := range list {
		for range n.bytes {
			bytes = append(bytes, byte(n.number%256))
			n.number /= 256
		}
	}
	if len(bytes) > 800 {
		return "", 4
	}
	return string(bytes), 0
}

// guess is the only message that may have the bytes of s, of which noughts are
// thought to stand behind.
type guess []byte

func (g *guess) byte() int {
	if len(*g) == 0 {
		return 0
	}
	b := (*g)[0]
	*g = (*g)[1:]
	return int(b)
}

func (g *guess) eight() uint64 {
	n, by := uint64(0), uint64(1)
	for range 8 {
		n += uint64(g.byte()) * by
		by *= 256
	}
	return n
}

func (g *guess) places() []int {
	var l []int
	for n := g.byte(); n > 0; n-- {
		l = append(l, g.byte())
	}
	return l
}

func (g *guess) message() api.Msg {
	m := api.Msg{Kind: g.byte()}
	m.Step = g.eight()
	for n := g.byte(); n > 0; n-- {
		m.Event += string([]byte{byte(g.byte())})
	}
	for _, l := range []*[]int{&m.Trans, &m.States, &m.Enter, &m.Vars} {
		*l = g.places()
	}
	for n := g.byte(); n > 0; n-- {
		s := api.Set{Var: g.byte()}
		s.Val.Kind = g.byte()
		s.Val.A = int64(g.eight())
		s.Val.B = int64(g.eight())
		m.Sets = append(m.Sets, s)
	}
	for n := g.byte(); n > 0; n-- {
		p := api.Past{State: g.byte()}
		p.Set = g.places()
		m.Pasts = append(m.Pasts, p)
	}
	return m
}

func saidDecode(s string) (api.Msg, api.Errno) {
	if len(s) > 800 {
		return api.Msg{}, 4
	}
	g := guess(s)
	m := g.message()
	if bytes, e := saidEncode(m); e != 0 || bytes != s {
		return api.Msg{}, 1
	}
	return m, 0
}

// sealed is s with its sum behind it.
func sealed(s string) string {
	n := crc32.ChecksumIEEE([]byte(s))
	return s + string([]byte{byte(n), byte(n >> 8), byte(n >> 16), byte(n >> 24)})
}

func saidPack(kind int, number uint64, load string) (string, api.Errno) {
	if kind != 1 && kind != 2 || kind == 2 && load != "" {
		return "", 1
	}
	if len(load) > 800 {
		return "", 4
	}
	s := string([]byte{byte(kind)})
	for range 8 {
		s += string([]byte{byte(number % 256)})
		number /= 256
	}
	return sealed(s + load), 0
}

func saidUnpack(s string) (int, uint64, string, api.Errno) {
	if len(s) < 4 {
		return 0, 0, "", 1
	}
	inner := s[:len(s)-4]
	if sealed(inner) != s {
		return 0, 0, "", 13
	}
	if len(inner) < 9 || inner[0] != 1 && inner[0] != 2 || inner[0] == 2 && len(inner) > 9 {
		return 0, 0, "", 1
	}
	if len(inner) > 809 {
		return 0, 0, "", 4
	}
	g := guess(inner[1:9])
	return int(inner[0]), g.eight(), inner[9:], 0
}

// same tells whether two messages are, where nil and empty lists are one.
func same(m, n api.Msg) bool {
	sets := slices.EqualFunc(m.Pasts, n.Pasts, func(p, q api.Past) bool { return p.State == q.State && slices.Equal(p.Set, q.Set) })
	return m.Kind == n.Kind && m.Step == n.Step && m.Event == n.Event && slices.Equal(m.Trans, n.Trans) && slices.Equal(m.States, n.States) &&
		slices.Equal(m.Enter, n.Enter) && slices.Equal(m.Vars, n.Vars) && slices.Equal(m.Sets, n.Sets) && sets
}

// chance is a row of numbers that look as if by chance, the same in each run.
type chance uint64

func (c *chance) below(n int) int {
	*c = *c*6364136223846793005 + 1442695040888963407
	return int(uint64(*c>>33) % uint64(n))
}

func (c *chance) text(n int) string {
	list := make([]byte, n)
	for i := range list {
		list[i] = byte(c.below(256))
	}
	return string(list)
}

// eight is a number of 64 bits, at its bounds now and then.
func (c *chance) eight() uint64 {
	switch c.below(6) {
	case 0:
		return []uint64{0, 1, 255, 256, 1<<63 - 1, 1 << 63, 1<<64 - 1}[c.below(7)]
	case 1:
		return uint64(c.below(300))
	case 2:
		return -uint64(c.below(300))
	}
	return uint64(c.below(1<<31))<<33 ^ uint64(c.below(1<<31))<<11 ^ uint64(c.below(1<<11))
}

// long is how long a list of most is: none and just most now and then.
func (c *chance) long(most int) int {
	switch c.below(12) {
	case 0:
		return most
	case 1, 2, 3:
		return 0
	}
	return c.below(min(most, 5) + 1)
}

func (c *chance) places() []int {
	var l []int
	for range c.long(48) {
		l = append(l, c.below(64))
	}
	return l
}

// message is one of which nothing is beyond; now and then it is about as long as
// one may be, or longer.
func (c *chance) message() api.Msg {
	m := api.Msg{Kind: 1 + c.below(9), Step: c.eight(), Event: c.text(c.long(20))}
	m.Trans, m.States, m.Enter, m.Vars = c.places(), c.places(), c.places(), c.places()
	for range c.long(8) {
		m.Sets = append(m.Sets, api.Set{Var: c.below(64), Val: api.Value{Kind: 1 + c.below(3), A: int64(c.eight()), B: int64(c.eight())}})
	}
	for range c.long(40) {
		m.Pasts = append(m.Pasts, api.Past{State: c.below(64), Set: c.places()})
	}
	if c.below(6) == 0 {
		return c.filled(m, 796+c.below(10))
	}
	return m
}

// filled is m with as many pasts, if there is room for them, that it has n bytes.
func (c *chance) filled(m api.Msg, n int) api.Msg {
	for _, p := range saidMessage(m) {
		n -= p.bytes
	}
	for n > 1 && len(m.Pasts) < 40 {
		p := api.Past{State: c.below(64)}
		for range min(n-2, 30+c.below(19)) {
			p.Set = append(p.Set, c.below(64))
		}
		n -= 2 + len(p.Set)
		m.Pasts = append(m.Pasts, p)
	}
	return m
}

// put puts a number that is beyond, or just not, into some place of l.
func (c *chance) put(l []int, bad int) []int {
	if len(l) == 0 || c.below(5) == 0 {
		return append(slices.Clone(l), make([]int, 47+c.below(4)-min(len(l), 47))...)
	}
	l = slices.Clone(l)
	l[c.below(len(l))] = bad
	return l
}

// turn puts something into m that is at a bound or beyond one.
func (c *chance) turn(m api.Msg) api.Msg {
	bad := []int{-1, 0, 1, 3, 4, 9, 10, 63, 64, 255, 256, 257, 1 << 20, -1 << 63, 1<<63 - 1}[c.below(15)]
	switch c.below(11) {
	case 0:
		m.Kind = bad
	case 1:
		m.Event = c.text(19 + c.below(4))
	case 2:
		m.Trans = c.put(m.Trans, bad)
	case 3:
		m.States = c.put(m.States, bad)
	case 4:
		m.Enter = c.put(m.Enter, bad)
	case 5:
		m.Vars = c.put(m.Vars, bad)
	case 6:
		m.Sets = append(slices.Clone(m.Sets), api.Set{Var: bad, Val: api.Value{Kind: 1}})
	case 7:
		m.Sets = append(slices.Clone(m.Sets), api.Set{Val: api.Value{Kind: bad}})
	case 8:
		m.Pasts = append(slices.Clone(m.Pasts), api.Past{State: bad})
	case 9:
		m.Pasts = append(slices.Clone(m.Pasts), api.Past{Set: c.put(c.places(), bad)})
	case 10:
		m.Pasts = append(slices.Clone(m.Pasts), make([]api.Past, c.below(42))...)
	}
	return m
}

func wantSaidEncode(t *testing.T, m api.Msg) {
	t.Helper()
	s, e := Encode(m)
	if u, f := saidEncode(m); s != u || e != f {
		t.Fatalf("%v: %q %v, wanted %q %v", m, s, e, u, f)
	}
}

func wantSaidDecode(t *testing.T, s string) {
	t.Helper()
	m, e := Decode(s)
	n, f := saidDecode(s)
	if !same(m, n) || e != f {
		t.Fatalf("%q: %v %v, wanted %v %v", s, m, e, n, f)
	}
	if e != api.OK && !reflect.DeepEqual(m, api.Msg{}) {
		t.Fatalf("%q: beside an error %v", s, m)
	}
}

func wantSaidPack(t *testing.T, kind int, number uint64, load string) {
	t.Helper()
	s, e := Pack(kind, number, load)
	if u, f := saidPack(kind, number, load); s != u || e != f {
		t.Fatalf("%d %d %q: %q %v, wanted %q %v", kind, number, load, s, e, u, f)
	}
}

func wantSaidUnpack(t *testing.T, s string) {
	t.Helper()
	kind, number, load, e := Unpack(s)
	if k, n, l, f := saidUnpack(s); kind != k || number != n || load != l || e != f {
		t.Fatalf("%q: %d %d %q %v, wanted %d %d %q %v", s, kind, number, load, e, k, n, l, f)
	}
}

// P16.1 and P16.3 for many messages: told, read, and told again.
func TestManyMessages(t *testing.T) {
	c := chance(1)
	seen := map[api.Errno]int{}
	for range 12000 {
		m := c.message()
		wantSaidEncode(t, m)
		s, e := Encode(m)
		seen[e]++
		if e != api.OK {
			continue
		}
		wantSaidDecode(t, s)
		n, _ := Decode(s)
		if u, _ := Encode(n); !same(m, n) || u != s {
			t.Fatalf("%v: read as %v", m, n)
		}
	}
	if seen[api.OK] < 5000 || seen[api.ErrLong] < 500 || len(seen) != 2 {
		t.Error("the messages aren't as they were meant", seen)
	}
}

// P16.1 for messages with something in them that is at a bound or beyond.
func TestManyMessagesBeyond(t *testing.T) {
	c := chance(2)
	seen := map[api.Errno]int{}
	for range 20000 {
		m := c.message()
		for range 1 + c.below(3) {
			m = c.turn(m)
		}
		wantSaidEncode(t, m)
		_, e := Encode(m)
		seen[e]++
	}
	if seen[api.OK] < 2000 || seen[api.ErrForm] < 5000 || seen[api.ErrLong] < 200 {
		t.Error("the messages aren't as they were meant", seen)
	}
}

// P16.1 and P16.3 for what is made of messages' bytes: some bytes are others, some
// are taken out or put in, some are put behind.
func TestManyTexts(t *testing.T) {
	c := chance(3)
	seen := map[api.Errno]int{}
	for range 20000 {
		s, e := Encode(c.message())
		if e != api.OK {
			continue
		}
		l := []byte(s)
		for range c.below(3) {
			at := c.below(len(l))
			switch c.below(4) {
			case 0:
				l[at] = byte(c.below(256))
			case 1:
				l[at] = byte(c.below(5))
			case 2:
				l = append(l[:at], l[at+1:]...)
			case 3:
				l = append(l[:at], append([]byte{byte(c.below(70))}, l[at:]...)...)
			}
		}
		s = string(l)
		wantSaidDecode(t, s)
		m, e := Decode(s)
		seen[e]++
		if u, f := Encode(m); e == api.OK && (u != s || f != api.OK) {
			t.Fatalf("%q: told again as %q %v", s, u, f)
		}
	}
	if seen[api.OK] < 5000 || seen[api.ErrForm] < 5000 || seen[api.ErrLong] < 20 {
		t.Error("the texts aren't as they were meant", seen)
	}
}

// P16.1: each byte of small messages is each other one.
func TestEachByte(t *testing.T) {
	for _, m := range []api.Msg{
		{Kind: 1},
		{Kind: 9, Step: 258, Event: "go", Trans: []int{1, 2}, States: []int{3}, Enter: []int{4}, Vars: []int{5}},
		{Kind: 5, Sets: []api.Set{{Var: 3, Val: api.Value{Kind: 1, A: -1, B: 7}}, {Val: api.Value{Kind: 3}}}, Pasts: []api.Past{{State: 4, Set: []int{5, 6}}, {}}},
	} {
		s, _ := Encode(m)
		for at := range len(s) {
			for b := range 256 {
				wantSaidDecode(t, s[:at]+string([]byte{byte(b)})+s[at+1:])
				wantSaidDecode(t, s[:at]+string([]byte{byte(b)})+s[at:])
			}
		}
	}
}

// P16.1: all texts of up to two bytes, and many that nobody told.
func TestAnyText(t *testing.T) {
	wantSaidDecode(t, "")
	for a := range 256 {
		wantSaidDecode(t, string([]byte{byte(a)}))
		for b := range 256 {
			wantSaidDecode(t, string([]byte{byte(a), byte(b)}))
		}
	}
	c := chance(4)
	for range 20000 {
		l := []byte(c.text(c.below(60)))
		for i := range l {
			if c.below(4) > 0 {
				l[i] = byte(c.below(3))
			}
		}
		wantSaidDecode(t, string(l))
	}
	for _, n := range []int{799, 800, 801, 802, 5000} {
		wantSaidDecode(t, c.text(n))
	}
}

// P16.2 and P16.3 for many datagrams.
func TestManyDatagrams(t *testing.T) {
	c := chance(5)
	for range 20000 {
		kind, number, load := c.below(4), c.eight(), c.text(c.long(40))
		if c.below(50) == 0 {
			load = c.text(799 + c.below(4))
		}
		wantSaidPack(t, kind, number, load)
		s, e := Pack(kind, number, load)
		if e == api.OK {
			wantSaidUnpack(t, s)
			k, n, l, f := Unpack(s)
			if k != kind || n != number || l != load || f != api.OK {
				t.Fatalf("%d %d %q: read as %d %d %q %v", kind, number, load, k, n, l, f)
			}
		}
	}
}

// P16.2: texts with a right sum and with a wrong one, that are datagrams or aren't.
func TestManySealed(t *testing.T) {
	c := chance(6)
	seen := map[api.Errno]int{}
	for range 20000 {
		l := []byte(c.text(c.below(25)))
		if c.below(30) == 0 {
			l = []byte(c.text(805 + c.below(8)))
		}
		if len(l) > 0 && c.below(8) > 0 {
			l[0] = byte(c.below(4))
		}
		s := sealed(string(l))
		wantSaidUnpack(t, s)
		k, n, load, e := Unpack(s)
		seen[e]++
		if u, f := Pack(k, n, load); e == api.OK && (u != s || f != api.OK) {
			t.Fatalf("%q: told again as %q %v", s, u, f)
		}
		wantSaidUnpack(t, s[:c.below(len(s)+1)])
		wantSaidUnpack(t, s+c.text(1+c.below(2)))
		wantSaidUnpack(t, string(l))
	}
	if seen[api.OK] < 2000 || seen[api.ErrForm] < 3000 || seen[api.ErrLong] < 30 || len(seen) != 3 {
		t.Error("the texts aren't as they were meant", seen)
	}
}
