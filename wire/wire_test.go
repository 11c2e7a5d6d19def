package wire

import (
	"math"
	"math/bits"
	"reflect"
	"slices"
	"strings"
	"testing"
	"unsafe"

	"quintain/api"
	"quintain/sum"
)

var noughts = strings.Repeat("\x00", 8)

// full is a message of a kind with several in each list.
func full(kind int) api.Msg {
	return api.Msg{
		Kind: kind, Step: 1<<56 + 2, Event: "done.a", Trans: []int{1, 2, 1}, States: []int{0, 63}, Enter: []int{9, 8}, Vars: []int{3, 0, 4},
		Sets:  []api.Set{{Var: 7, Val: api.Value{Kind: 1, A: -5}}, {Val: api.Value{Kind: 2, A: 1}}, {Var: 1, Val: api.Value{Kind: 3, A: 4, B: -1 << 63}}},
		Pasts: []api.Past{{State: 4, Set: []int{5, 6, 7}}, {State: 40}, {Set: []int{0}}},
	}
}

// P16.1: the very bytes.
func TestEncode(t *testing.T) {
	for _, c := range []struct {
		m    api.Msg
		want string
	}{
		{api.Msg{Kind: 1}, "\x01" + noughts + "\x00" + "\x00\x00\x00\x00" + "\x00" + "\x00"},
		{api.Msg{Kind: 9, Step: 1<<64 - 1}, "\x09" + strings.Repeat("\xff", 8) + "\x00\x00\x00\x00\x00\x00\x00"},
		{api.Msg{Kind: 2, Step: 0x0807060504030201}, "\x02\x01\x02\x03\x04\x05\x06\x07\x08\x00\x00\x00\x00\x00\x00\x00"},
		{api.Msg{Kind: 3, Event: "go"}, "\x03" + noughts + "\x02go\x00\x00\x00\x00\x00\x00"},
		{api.Msg{Kind: 3, Event: "\x00\xff "}, "\x03" + noughts + "\x03\x00\xff \x00\x00\x00\x00\x00\x00"},
		{api.Msg{Kind: 4, Trans: []int{10}, States: []int{20, 21}, Enter: []int{30, 31, 32}, Vars: []int{63, 0, 63, 0}},
			"\x04" + noughts + "\x00" + "\x01\x0a" + "\x02\x14\x15" + "\x03\x1e\x1f\x20" + "\x04\x3f\x00\x3f\x00" + "\x00\x00"},
		{api.Msg{Kind: 5, Sets: []api.Set{{Var: 3, Val: api.Value{Kind: 3, A: 0x1234, B: -2}}, {Val: api.Value{Kind: 2, A: 1}}}},
			"\x05" + noughts + "\x00\x00\x00\x00\x00" + "\x02" +
				"\x03\x03\x34\x12\x00\x00\x00\x00\x00\x00\xfe\xff\xff\xff\xff\xff\xff\xff" +
				"\x00\x02\x01\x00\x00\x00\x00\x00\x00\x00" + noughts + "\x00"},
		{api.Msg{Kind: 6, Pasts: []api.Past{{State: 39, Set: []int{4, 2}}, {State: 1}, {Set: []int{0}}}},
			"\x06" + noughts + "\x00\x00\x00\x00\x00\x00" + "\x03" + "\x27\x02\x04\x02" + "\x01\x00" + "\x00\x01\x00"},
		{api.Msg{Kind: 7, Step: 5, Event: "up", Trans: []int{}, States: []int{}, Enter: []int{}, Vars: []int{}, Sets: []api.Set{}, Pasts: []api.Past{{Set: []int{}}}},
			"\x07\x05\x00\x00\x00\x00\x00\x00\x00\x02up\x00\x00\x00\x00\x00\x01\x00\x00"},
		{full(8), "\x08\x02\x00\x00\x00\x00\x00\x00\x01" + "\x06done.a" + "\x03\x01\x02\x01" + "\x02\x00\x3f" + "\x02\x09\x08" + "\x03\x03\x00\x04" +
			"\x03" + "\x07\x01\xfb\xff\xff\xff\xff\xff\xff\xff" + noughts + "\x00\x02\x01\x00\x00\x00\x00\x00\x00\x00" + noughts +
			"\x01\x03\x04\x00\x00\x00\x00\x00\x00\x00\x00\x00\x00\x00\x00\x00\x00\x80" +
			"\x03" + "\x04\x03\x05\x06\x07" + "\x28\x00" + "\x00\x01\x00"},
	} {
		if s, e := Encode(c.m); s != c.want || e != api.OK {
			t.Errorf("%v: %q %v, wanted %q", c.m, s, e, c.want)
		}
		if m, e := Decode(c.want); !same(m, c.m) || e != api.OK {
			t.Errorf("%q: %v %v, wanted %v", c.want, m, e, c.m)
		}
	}
}

// P16.1 and P16.3: a message of each kind, with every list empty and with several
// in each.
func TestEachKind(t *testing.T) {
	for kind := 1; kind <= 9; kind++ {
		for _, m := range []api.Msg{{Kind: kind}, full(kind)} {
			wantSaidEncode(t, m)
			s, _ := Encode(m)
			n, e := Decode(s)
			if !reflect.DeepEqual(m, n) || e != api.OK {
				t.Errorf("%v: read as %v %v", m, n, e)
			}
			if u, e := Encode(n); u != s || e != api.OK {
				t.Errorf("%q: told again as %q %v", s, u, e)
			}
		}
	}
}

// listed is n times the place p.
func listed(n, p int) []int {
	l := make([]int, n)
	for i := range l {
		l[i] = p
	}
	return l
}

// edge is something at a bound, or beyond.
type edge struct {
	put func(m *api.Msg)
	e   api.Errno
}

// wrong is e for what lies outside of least to most.
func wrong(n, least, most int, e api.Errno) api.Errno {
	if n < least || n > most {
		return e
	}
	return api.OK
}

// far are numbers at the bounds that the document names, and far beyond.
var far = []int{0, 1, 2, 3, 4, 8, 9, 10, 62, 63, 64, 65, 127, 128, 255, 256, 257, 319, 1 << 16, 1<<32 + 1, math.MaxInt, -1, -2, -63, -64, -128, -255, -256, -1 << 32, math.MinInt}

// edges are all of which the bounds are told.
func edges() []edge {
	var l []edge
	add := func(e api.Errno, put func(m *api.Msg)) { l = append(l, edge{put, e}) }
	for _, n := range far {
		place := wrong(n, 0, 63, api.ErrForm)
		add(wrong(n, 1, 9, api.ErrForm), func(m *api.Msg) { m.Kind = n })
		add(wrong(n, 1, 3, api.ErrForm), func(m *api.Msg) { m.Sets = []api.Set{{Val: api.Value{Kind: n}}} })
		add(wrong(n, 1, 3, api.ErrForm), func(m *api.Msg) { m.Sets = []api.Set{{Val: api.Value{Kind: 1}}, {Val: api.Value{Kind: n}}} })
		add(place, func(m *api.Msg) { m.Trans = []int{n} })
		add(place, func(m *api.Msg) { m.Trans = []int{1, n, 2} })
		add(place, func(m *api.Msg) { m.States = []int{n} })
		add(place, func(m *api.Msg) { m.States = []int{1, 2, n} })
		add(place, func(m *api.Msg) { m.Enter = []int{n} })
		add(place, func(m *api.Msg) { m.Enter = []int{n, 1, 2} })
		add(place, func(m *api.Msg) { m.Vars = []int{n} })
		add(place, func(m *api.Msg) { m.Vars = []int{63, n} })
		add(place, func(m *api.Msg) { m.Sets = []api.Set{{Var: n, Val: api.Value{Kind: 1}}} })
		add(place, func(m *api.Msg) { m.Sets = []api.Set{{Val: api.Value{Kind: 1}}, {Var: n, Val: api.Value{Kind: 1}}} })
		add(place, func(m *api.Msg) { m.Pasts = []api.Past{{State: n}} })
		add(place, func(m *api.Msg) { m.Pasts = []api.Past{{State: 1}, {State: n, Set: []int{1}}} })
		add(place, func(m *api.Msg) { m.Pasts = []api.Past{{Set: []int{n}}} })
		add(place, func(m *api.Msg) { m.Pasts = []api.Past{{}, {State: 1, Set: []int{0, 63, n}}, {}} })
	}
	for _, n := range []int{0, 1, 7, 8, 9, 19, 20, 21, 39, 40, 41, 47, 48, 49, 63, 64, 255, 256, 257, 276, 304, 1000, 1 << 16} {
		list := wrong(n, 0, 48, api.ErrForm)
		add(wrong(n, 0, 20, api.ErrForm), func(m *api.Msg) { m.Event = strings.Repeat("e", n) })
		add(list, func(m *api.Msg) { m.Trans = listed(n, 63) })
		add(list, func(m *api.Msg) { m.States = listed(n, 0) })
		add(list, func(m *api.Msg) { m.Enter = listed(n, 1) })
		add(list, func(m *api.Msg) { m.Vars = listed(n, 62) })
		add(list, func(m *api.Msg) { m.Pasts = []api.Past{{State: 63, Set: listed(n, 63)}} })
		add(list, func(m *api.Msg) { m.Pasts = []api.Past{{}, {Set: listed(n, 0)}, {}} })
		add(wrong(n, 0, 40, api.ErrForm), func(m *api.Msg) { m.Pasts = make([]api.Past, n) })
		add(wrong(n, 0, 8, api.ErrForm), func(m *api.Msg) {
			for range n {
				m.Sets = append(m.Sets, api.Set{Var: 63, Val: api.Value{Kind: 3}})
			}
		})
	}
	for _, n := range []int64{0, 1, -1, 255, 256, -256, math.MaxInt64, math.MinInt64, math.MinInt64 + 1, 1 << 32, 0x0102030405060708} {
		add(api.OK, func(m *api.Msg) { m.Sets = []api.Set{{Val: api.Value{Kind: 1, A: n}}} })
		add(api.OK, func(m *api.Msg) { m.Sets = []api.Set{{Val: api.Value{Kind: 3, B: n}}} })
		add(api.OK, func(m *api.Msg) { m.Sets = []api.Set{{Val: api.Value{Kind: 2, A: n, B: ^n}}} })
		add(api.OK, func(m *api.Msg) { m.Step = uint64(n) })
	}
	return l
}

// P16.1: each bound, and beyond it.
func TestEdges(t *testing.T) {
	for i, c := range edges() {
		m := api.Msg{Kind: 5}
		c.put(&m)
		s, e := Encode(m)
		if e != c.e {
			t.Fatalf("%d: %v: %v, wanted %v", i, m, e, c.e)
		}
		wantSaidEncode(t, m)
		if e != api.OK {
			continue
		}
		if n, e := Decode(s); !same(n, m) || e != api.OK {
			t.Errorf("%d: %v: read as %v %v", i, m, n, e)
		}
	}
}

// P16.1: one thing beyond, ahead of and behind another; and too long with it.
func TestSeveralWrong(t *testing.T) {
	long := func(m *api.Msg) {
		for range 40 {
			m.Pasts = append(m.Pasts, api.Past{Set: listed(48, 1)})
		}
	}
	m := api.Msg{Kind: 1}
	long(&m)
	if s, e := Encode(m); s != "" || e != api.ErrLong {
		t.Errorf("too long: %q %v", s, e)
	}
	l := edges()
	for i, c := range l {
		m := api.Msg{Kind: 1}
		c.put(&m)
		if m.Pasts != nil {
			continue
		}
		long(&m)
		want := c.e
		if want == api.OK {
			want = api.ErrLong
		}
		if s, e := Encode(m); s != "" || e != want {
			t.Errorf("%d, and too long: %q %v, wanted %v", i, s, e, want)
		}
	}
	for i := range l {
		m := api.Msg{Kind: 1}
		l[i].put(&m)
		l[(i*7+3)%len(l)].put(&m)
		wantSaidEncode(t, m)
	}
}

// sized is a message of n bytes, 784 of them at most by what it remembers.
func sized(t *testing.T, n int) api.Msg {
	t.Helper()
	m := api.Msg{Kind: 5, Step: 1}
	for n -= 16; n > 0; {
		p := api.Past{State: n % 64, Set: listed(min(48, n-2), n%64)}
		if n -= 2 + len(p.Set); n == 1 {
			p.Set = p.Set[1:]
			n = 2
		}
		m.Pasts = append(m.Pasts, p)
	}
	return m
}

// P16.1: of just as many bytes as there may be, and of one more.
func TestLong(t *testing.T) {
	for _, n := range []int{18, 50, 100, 780, 798, 799, 800, 801, 802, 803, 1000, 1800} {
		m := sized(t, n)
		want := wrong(n, 0, 800, api.ErrLong)
		s, e := Encode(m)
		if e != want || e == api.OK && len(s) != n {
			t.Errorf("%d bytes: %v, and %d", n, e, len(s))
		}
		if e != api.OK && s != "" {
			t.Errorf("%d bytes: %q beside an error", n, s)
		}
		wantSaidEncode(t, m)
		wantSaidDecode(t, s)
	}
	// The 801st byte is what is told, wherever it stands.
	for _, put := range []func(m *api.Msg){
		func(m *api.Msg) { m.Event = "e" },
		func(m *api.Msg) { m.Trans = []int{1} },
		func(m *api.Msg) { m.States = []int{1} },
		func(m *api.Msg) { m.Enter = []int{1} },
		func(m *api.Msg) { m.Vars = []int{1} },
		func(m *api.Msg) { m.Pasts[len(m.Pasts)-1].Set = append(m.Pasts[len(m.Pasts)-1].Set, 1) },
	} {
		m := sized(t, 799)
		put(&m)
		if s, e := Encode(m); len(s) != 800 || e != api.OK {
			t.Errorf("%v: %d bytes, %v", m, len(s), e)
		}
		m = sized(t, 800)
		put(&m)
		if s, e := Encode(m); s != "" || e != api.ErrLong {
			t.Errorf("%v: %q %v", m, s, e)
		}
	}
}

// P16.1: the longest message that may be told is read, and with a byte behind it
// is too long.
func TestDecodeLong(t *testing.T) {
	m := sized(t, 800)
	s, _ := Encode(m)
	if n, e := Decode(s); !same(m, n) || e != api.OK {
		t.Errorf("800 bytes: %v %v", n, e)
	}
	wantDecode(t, s[:799], api.ErrForm)
	wantDecode(t, s[1:], api.ErrForm)
	wantDecode(t, s+"\x00", api.ErrLong)
	wantDecode(t, "\x00"+s, api.ErrLong)
	// What would be a message, were it not too long.
	m = sized(t, 801)
	long := ""
	for _, n := range saidMessage(m) {
		for range n.bytes {
			long += string([]byte{byte(n.number)})
			n.number >>= 8
		}
	}
	if len(long) != 801 {
		t.Error(len(long), "bytes")
	}
	wantDecode(t, long, api.ErrLong)
	wantDecode(t, long[:800], api.ErrForm)
	for _, b := range []string{"\x00", "\x01", "a", "\xff"} {
		wantDecode(t, strings.Repeat(b, 800), api.ErrForm)
		wantDecode(t, strings.Repeat(b, 801), api.ErrLong)
		wantDecode(t, strings.Repeat(b, 1<<20), api.ErrLong)
	}
}

func wantDecode(t *testing.T, s string, want api.Errno) {
	t.Helper()
	if m, e := Decode(s); e != want || !reflect.DeepEqual(m, api.Msg{}) {
		t.Errorf("%q: %v %v, wanted %v", s, m, e, want)
	}
}

// P16.1: what is left of a message's bytes when they are cut off is none, and what
// has a byte more is none.
func TestDecodeCut(t *testing.T) {
	for _, m := range []api.Msg{{Kind: 1}, {Kind: 9, Event: "go"}, full(5), sized(t, 300), sized(t, 799)} {
		s, _ := Encode(m)
		for n := range len(s) {
			wantDecode(t, s[:n], api.ErrForm)
		}
		for b := range 256 {
			wantDecode(t, s+string([]byte{byte(b)}), api.ErrForm)
		}
		if len(s) < 400 {
			wantDecode(t, s+s, api.ErrForm)
		}
	}
	wantDecode(t, "", api.ErrForm)
}

// P16.1: bytes that say more than may be there, even though it is there, and those
// that say more than there is.
func TestDecodeBeyond(t *testing.T) {
	head := "\x01" + noughts
	for _, c := range []struct {
		s string
		e api.Errno
	}{
		{"\x00" + noughts + "\x00\x00\x00\x00\x00\x00\x00", api.ErrForm},
		{"\x0a" + noughts + "\x00\x00\x00\x00\x00\x00\x00", api.ErrForm},
		{"\xff" + noughts + "\x00\x00\x00\x00\x00\x00\x00", api.ErrForm},
		{head + "\x14" + strings.Repeat("e", 20) + "\x00\x00\x00\x00\x00\x00", api.OK},
		{head + "\x15" + strings.Repeat("e", 21) + "\x00\x00\x00\x00\x00\x00", api.ErrForm},
		{head + "\x15" + strings.Repeat("e", 20) + "\x00\x00\x00\x00\x00\x00", api.ErrForm},
		{head + "\xff" + strings.Repeat("e", 255) + "\x00\x00\x00\x00\x00\x00", api.ErrForm},
		{head + "\x00\x30" + strings.Repeat("\x3f", 48) + "\x00\x00\x00\x00\x00", api.OK},
		{head + "\x00\x31" + strings.Repeat("\x3f", 49) + "\x00\x00\x00\x00\x00", api.ErrForm},
		{head + "\x00\x00\x30" + strings.Repeat("\x00", 48) + "\x00\x00\x00\x00", api.OK},
		{head + "\x00\x00\x31" + strings.Repeat("\x00", 49) + "\x00\x00\x00\x00", api.ErrForm},
		{head + "\x00\x00\x00\x30" + strings.Repeat("\x01", 48) + "\x00\x00\x00", api.OK},
		{head + "\x00\x00\x00\x31" + strings.Repeat("\x01", 49) + "\x00\x00\x00", api.ErrForm},
		{head + "\x00\x00\x00\x00\x30" + strings.Repeat("\x3f", 48) + "\x00\x00", api.OK},
		{head + "\x00\x00\x00\x00\x31" + strings.Repeat("\x3f", 49) + "\x00\x00", api.ErrForm},
		{head + "\x00\x01\x3f\x00\x00\x00\x00\x00", api.OK},
		{head + "\x00\x01\x40\x00\x00\x00\x00\x00", api.ErrForm},
		{head + "\x00\x00\x01\x40\x00\x00\x00\x00", api.ErrForm},
		{head + "\x00\x00\x00\x01\x40\x00\x00\x00", api.ErrForm},
		{head + "\x00\x00\x00\x00\x01\x40\x00\x00", api.ErrForm},
		{head + "\x00\x00\x00\x00\x00\x08" + strings.Repeat("\x3f\x01"+noughts+noughts, 8) + "\x00", api.OK},
		{head + "\x00\x00\x00\x00\x00\x09" + strings.Repeat("\x3f\x01"+noughts+noughts, 9) + "\x00", api.ErrForm},
		{head + "\x00\x00\x00\x00\x00\x01\x40\x01" + noughts + noughts + "\x00", api.ErrForm},
		{head + "\x00\x00\x00\x00\x00\x01\x3f\x00" + noughts + noughts + "\x00", api.ErrForm},
		{head + "\x00\x00\x00\x00\x00\x01\x3f\x03" + noughts + noughts + "\x00", api.OK},
		{head + "\x00\x00\x00\x00\x00\x01\x3f\x04" + noughts + noughts + "\x00", api.ErrForm},
		{head + "\x00\x00\x00\x00\x00\x00\x28" + strings.Repeat("\x3f\x00", 40), api.OK},
		{head + "\x00\x00\x00\x00\x00\x00\x29" + strings.Repeat("\x3f\x00", 41), api.ErrForm},
		{head + "\x00\x00\x00\x00\x00\x00\x01\x40\x00", api.ErrForm},
		{head + "\x00\x00\x00\x00\x00\x00\x01\x3f\x30" + strings.Repeat("\x3f", 48), api.OK},
		{head + "\x00\x00\x00\x00\x00\x00\x01\x3f\x31" + strings.Repeat("\x3f", 49), api.ErrForm},
		{head + "\x00\x00\x00\x00\x00\x00\x01\x3f\x01\x40", api.ErrForm},
		{head + "\x00\x00\x00\x00\x00\x00\x01\x3f\x01\xff", api.ErrForm},
		{head + "\x00\x00\x00\x00\x00\x00\x01\x3f\xff", api.ErrForm},
		{head + "\x00\x00\x00\x00\x00\x00\xff", api.ErrForm},
		{head + "\x00\x00\x00\x00\x00\xff\x00", api.ErrForm},
	} {
		m, e := Decode(c.s)
		if e != c.e {
			t.Errorf("%q: %v, wanted %v", c.s, e, c.e)
		}
		if u, f := Encode(m); e == api.OK && (u != c.s || f != api.OK) {
			t.Errorf("%q: told again as %q %v", c.s, u, f)
		}
		wantSaidDecode(t, c.s)
	}
}

// P16.2: the chapter's example, and the very bytes.
func TestPack(t *testing.T) {
	for _, c := range []struct {
		kind   int
		number uint64
		load   string
		want   string
	}{
		{2, 5, "", "\x02\x05\x00\x00\x00\x00\x00\x00\x00" + "\x4c\x32\x1f\x80"},
		{1, 0, "", "\x01\x00\x00\x00\x00\x00\x00\x00\x00" + "\xed\x00\x72\xf1"},
		{1, 7, "abc", "\x01\x07\x00\x00\x00\x00\x00\x00\x00abc" + "\x53\x07\x2e\x03"},
		{1, 0x0807060504030201, "\x00\xff", "\x01\x01\x02\x03\x04\x05\x06\x07\x08\x00\xff" + "\xfb\xec\xb6\x70"},
		{2, 1<<64 - 1, "", "\x02\xff\xff\xff\xff\xff\xff\xff\xff" + "\x5d\x3c\x99\x8c"},
	} {
		s, e := Pack(c.kind, c.number, c.load)
		if s != c.want || e != api.OK {
			t.Errorf("%d %d %q: %q %v, wanted %q", c.kind, c.number, c.load, s, e, c.want)
		}
		wantUnpack(t, c.want, c.kind, c.number, c.load, api.OK)
		wantSaidPack(t, c.kind, c.number, c.load)
	}
	if s, _ := Pack(2, 5, ""); len(s) != 13 {
		t.Errorf("%q has %d bytes", s, len(s))
	}
}

func wantUnpack(t *testing.T, s string, kind int, number uint64, load string, e api.Errno) {
	t.Helper()
	if k, n, l, f := Unpack(s); k != kind || n != number || l != load || f != e {
		t.Errorf("%q: %d %d %q %v, wanted %d %d %q %v", s, k, n, l, f, kind, number, load, e)
	}
}

// P16.2: which error is told, of several too.
func TestPackErrors(t *testing.T) {
	long := strings.Repeat("a", 801)
	for _, c := range []struct {
		kind int
		load string
		e    api.Errno
	}{
		{1, "", api.OK},
		{1, "a", api.OK},
		{1, long[:799], api.OK},
		{1, long[:800], api.OK},
		{1, long, api.ErrLong},
		{1, strings.Repeat("a", 1<<20), api.ErrLong},
		{2, "", api.OK},
		{2, "a", api.ErrForm},
		{2, "\x00", api.ErrForm},
		{2, long[:800], api.ErrForm},
		{2, long, api.ErrForm},
		{0, "", api.ErrForm},
		{0, "a", api.ErrForm},
		{0, long, api.ErrForm},
		{3, "", api.ErrForm},
		{3, "a", api.ErrForm},
		{3, long, api.ErrForm},
		{-1, "", api.ErrForm},
		{257, "", api.ErrForm},
		{258, "", api.ErrForm},
		{1<<32 + 1, "", api.ErrForm},
		{math.MaxInt, "", api.ErrForm},
		{math.MinInt, "", api.ErrForm},
		{math.MinInt + 1, "a", api.ErrForm},
		{-255, "a", api.ErrForm},
	} {
		for _, number := range []uint64{0, 1, 5, 1 << 63, 1<<64 - 1} {
			s, e := Pack(c.kind, number, c.load)
			if e != c.e {
				t.Errorf("%d and a load of %d bytes: %v, wanted %v", c.kind, len(c.load), e, c.e)
			}
			wantSaidPack(t, c.kind, number, c.load)
			if e != api.OK {
				continue
			}
			if len(s) != 13+len(c.load) {
				t.Errorf("%q has %d bytes", s, len(s))
			}
			wantUnpack(t, s, c.kind, number, c.load, api.OK)
		}
	}
}

// P16.2: texts of none to four bytes, wrong sums, and right ones over what is no
// datagram's.
func TestUnpack(t *testing.T) {
	long := strings.Repeat("a", 802)
	none := []struct {
		s string
		e api.Errno
	}{
		{"", api.ErrForm},
		{"\x01", api.ErrForm},
		{"\x00\x00", api.ErrForm},
		{"\x01\x00\x00", api.ErrForm},
		{"\x00\x00\x00\x00", api.ErrForm}, // the sum of nothing
		{"\x01\x00\x00\x00", api.ErrSum},
		{"abcd", api.ErrSum},
		{"abcde", api.ErrSum},
		{sealed(""), api.ErrForm},
		{sealed("\x01"), api.ErrForm},
		{sealed("\x02"), api.ErrForm},
		{sealed("\x01" + noughts[:7]), api.ErrForm},
		{sealed("\x02" + noughts[:7]), api.ErrForm},
		{sealed("\x01") + "\x00", api.ErrSum},
		{sealed("\x00" + noughts), api.ErrForm},
		{sealed("\x03" + noughts), api.ErrForm},
		{sealed("\x00" + noughts + "a"), api.ErrForm},
		{sealed("\x03" + noughts + "a"), api.ErrForm},
		{sealed("\xff" + noughts + "a"), api.ErrForm},
		{sealed("\x02" + noughts + "a"), api.ErrForm},
		{sealed("\x02" + noughts + "\x00"), api.ErrForm},
		{sealed("\x02" + noughts + long[:800]), api.ErrForm},
		{sealed("\x02" + noughts + long[:801]), api.ErrForm},
		{sealed("\x00" + noughts + long[:801]), api.ErrForm},
		{sealed("\x03" + noughts + long[:801]), api.ErrForm},
		{sealed("\x01" + noughts + long[:801]), api.ErrLong},
		{sealed("\x01" + noughts + long[:802]), api.ErrLong},
		{sealed("\x01" + noughts + strings.Repeat("a", 1<<20)), api.ErrLong},
		{"\x01" + noughts + long[:801] + "abcd", api.ErrSum},
		{"\x02" + noughts + "a" + "abcd", api.ErrSum},
		{"\x00" + noughts + "abcd", api.ErrSum},
		{"\x01" + noughts + "\x00\x00\x00\x00", api.ErrSum},
		{"\x01" + noughts, api.ErrSum},
	}
	for _, c := range none {
		wantUnpack(t, c.s, 0, 0, "", c.e)
		wantSaidUnpack(t, c.s)
	}
	wantUnpack(t, sealed("\x01"+noughts), 1, 0, "", api.OK)
	wantUnpack(t, sealed("\x02"+noughts), 2, 0, "", api.OK)
	wantUnpack(t, sealed("\x01"+noughts+long[:800]), 1, 0, long[:800], api.OK)
	wantUnpack(t, sealed("\x02\x00\x00\x00\x00\x00\x00\x00\x80"), 2, 1<<63, "", api.OK)
	for a := range 256 {
		one := string([]byte{byte(a)})
		for _, s := range []string{one, one + one, sealed(one), sealed(one + noughts), sealed(one + noughts + one), one + sealed(""), one + "\x00\x00\x00"} {
			wantSaidUnpack(t, s)
		}
	}
}

// P16.2: a datagram that is cut off, or longer.
func TestUnpackCut(t *testing.T) {
	for _, load := range []string{"", "abc", strings.Repeat("\x00", 30)} {
		s, _ := Pack(1, 3, load)
		for n := range len(s) {
			wantSaidUnpack(t, s[:n])
			if _, _, _, e := Unpack(s[:n]); e == api.OK {
				t.Errorf("%q is a datagram", s[:n])
			}
		}
		for b := range 256 {
			wantUnpack(t, s+string([]byte{byte(b)}), 0, 0, "", api.ErrSum)
		}
	}
}

// P16.3: a message within a datagram, and out of it again.
func TestMessageInDatagram(t *testing.T) {
	for _, m := range []api.Msg{{Kind: 1}, full(5), sized(t, 800)} {
		s, _ := Encode(m)
		d, e := Pack(1, 9, s)
		if e != api.OK {
			t.Fatal(e)
		}
		kind, number, load, e := Unpack(d)
		if n, f := Decode(load); kind != 1 || number != 9 || e != api.OK || f != api.OK || !same(m, n) {
			t.Errorf("%v: %d %d %v %v %v", m, kind, number, e, f, n)
		}
	}
}

// datagrams are some to be spoilt.
func datagrams(t *testing.T) []string {
	t.Helper()
	message, _ := Encode(full(5))
	var l []string
	for _, load := range []string{"", "\x00", "abc", "\x00\x00\x00\x00", "\xff\xff\xff\xff\xff", message} {
		for _, number := range []uint64{0, 5, 1<<64 - 1} {
			s, e := Pack(1, number, load)
			if e != api.OK {
				t.Fatal(e)
			}
			l = append(l, s)
		}
	}
	s, _ := Pack(2, 5, "")
	u, _ := Pack(2, 1<<64-1, "")
	return append(l, s, u)
}

// turned is s with the bits turned that are ones in mask, whose lowest byte is at
// place at.
func turned(s string, at int, mask uint32) string {
	l := []byte(s)
	for i := range 4 {
		l[at+i] ^= byte(mask >> (8 * i))
	}
	return string(l)
}

func wantTold(t *testing.T, s string, at int, mask uint32) {
	t.Helper()
	if k, n, l, e := Unpack(turned(s, at, mask)); k != 0 || n != 0 || l != "" || e != api.ErrSum {
		t.Fatalf("%q, at %d turned %x: %d %d %q %v", s, at, mask, k, n, l, e)
	}
}

// P16.3: bits turned within four bytes, at each place: one and two, all but those,
// all that stand in a row, and others.
func TestBitsTurned(t *testing.T) {
	c := chance(7)
	for _, s := range datagrams(t) {
		for at := 0; at+4 <= len(s); at++ {
			for i := range 32 {
				for j := range i + 1 {
					wantTold(t, s, at, 1<<i|1<<j)
					wantTold(t, s, at, ^(1<<i | 1<<j))
					wantTold(t, s, at, (1<<(i-j+1)-1)<<j)
				}
			}
			for range 100 {
				wantTold(t, s, at, uint32(c.below(1<<16)<<16|c.below(1<<16))|1<<c.below(32))
			}
		}
	}
}

// P16.3: at each place of the longest datagram.
func TestBitsTurnedOfLongest(t *testing.T) {
	c := chance(8)
	s, _ := Pack(1, 6, c.text(800))
	for at := 0; at+4 <= len(s); at++ {
		wantTold(t, s, at, 1<<32-1)
		for i := range 8 {
			wantTold(t, s, at, 1<<i)
			wantTold(t, s, at, 1<<31|1<<i)
		}
		for range 5 {
			wantTold(t, s, at, uint32(c.below(1<<16)<<16|c.below(1<<16))|1<<c.below(32))
		}
	}
}

// P16.3, all of it for a length: what bits do to the sum and to what stands where
// it must they do each for itself, so that if of 32 bits none does what some others
// do together, no choice of them goes untold.
func TestBitsTurnedAreIndependent(t *testing.T) {
	unlike := func(s string) uint32 {
		end := len(s) - 4
		behind := uint32(s[end]) | uint32(s[end+1])<<8 | uint32(s[end+2])<<16 | uint32(s[end+3])<<24
		return sum.Of(s[:end]) ^ behind
	}
	for _, s := range datagrams(t) {
		for at := 0; at+4 <= len(s); at++ {
			var rows [32]uint32 // by their highest bit
			for i := range 32 {
				row := unlike(turned(s, at, 1<<i))
				for row != 0 && rows[bits.Len32(row)-1] != 0 {
					row ^= rows[bits.Len32(row)-1]
				}
				if row == 0 {
					t.Fatalf("%q: at %d bit %d does what others do", s, at, i)
				}
				rows[bits.Len32(row)-1] = row
			}
		}
	}
}

// shared tells whether two texts have a byte in common in memory.
func shared(s, u string) bool {
	if s == "" || u == "" {
		return false
	}
	a, b := uintptr(unsafe.Pointer(unsafe.StringData(s))), uintptr(unsafe.Pointer(unsafe.StringData(u)))
	return a < b+uintptr(len(u)) && b < a+uintptr(len(s))
}

// R4: texts that are answered are new memory, and what is handed in stays.
func TestTextsAreNew(t *testing.T) {
	m := full(4)
	s, _ := Encode(m)
	u, _ := Encode(m)
	if shared(s, u) || shared(s, m.Event) {
		t.Error("encoded")
	}
	was := strings.Clone(s)
	n, _ := Decode(s)
	o, _ := Decode(s)
	if shared(n.Event, s) || shared(n.Event, o.Event) || s != was {
		t.Error("decoded")
	}
	load := strings.Clone("a load")
	d, _ := Pack(1, 2, load)
	f, _ := Pack(1, 2, load)
	if shared(d, f) || shared(d, load) || load != "a load" {
		t.Error("packed")
	}
	was = strings.Clone(d)
	_, _, k, _ := Unpack(d)
	_, _, l, _ := Unpack(d)
	if shared(k, d) || shared(l, d) || shared(k, l) || d != was {
		t.Error("unpacked")
	}
}

// roomy is a message each list of which has spare room that isn't zero.
func roomy() api.Msg {
	m := full(5)
	for _, l := range []*[]int{&m.Trans, &m.States, &m.Enter, &m.Vars} {
		*l = append(*l, -7, 64, 1)[:len(*l)]
	}
	m.Sets = append(m.Sets, api.Set{Var: -7})[:len(m.Sets)]
	m.Pasts = append(m.Pasts, api.Past{State: -7})[:len(m.Pasts)]
	for i := range m.Pasts {
		p := &m.Pasts[i]
		p.Set = append(p.Set, -7, 64)[:len(p.Set)]
	}
	return m
}

// lists are all lists of numbers in m, with their spare room.
func lists(m api.Msg) [][]int {
	l := [][]int{m.Trans, m.States, m.Enter, m.Vars}
	for _, p := range m.Pasts {
		l = append(l, p.Set)
	}
	for i := range l {
		l[i] = l[i][:cap(l[i])]
	}
	return l
}

// R4: a message that is told stays, its spare room too.
func TestMessageStays(t *testing.T) {
	m, was := roomy(), roomy()
	for _, kind := range []int{5, 10} {
		m.Kind, was.Kind = kind, kind
		Encode(m)
		if !reflect.DeepEqual(m, was) || !reflect.DeepEqual(lists(m), lists(was)) {
			t.Error("changed", m)
		}
		if !reflect.DeepEqual(m.Sets[:4], was.Sets[:4]) || !reflect.DeepEqual(m.Pasts[:4], was.Pasts[:4]) {
			t.Error("spare room changed", m)
		}
	}
	full := full(5)
	m.Kind = 5
	if s, _ := Encode(m); !strings.HasPrefix(s, "\x05") {
		t.Error(s)
	} else if u, _ := Encode(full); u != s {
		t.Errorf("%q, wanted %q", s, u)
	}
}

// R4: no two lists of one message share memory, nor two messages that were read.
func TestListsAreNew(t *testing.T) {
	s, _ := Encode(full(5))
	first, _ := Decode(s)
	second, _ := Decode(s)
	all := append(lists(first), lists(second)...)
	for i, l := range all {
		for k := range l {
			l[k] = -1 - i
		}
	}
	for i, l := range all {
		if slices.ContainsFunc(l, func(n int) bool { return n != -1-i }) {
			t.Error("list", i, "is shared")
		}
	}
	for i := range first.Sets[:cap(first.Sets)] {
		first.Sets[:cap(first.Sets)][i] = api.Set{Var: -7}
	}
	for i := range first.Pasts[:cap(first.Pasts)] {
		first.Pasts[:cap(first.Pasts)][i] = api.Past{State: -7}
	}
	if !slices.Equal(second.Sets, full(5).Sets) || second.Pasts[0].State != 4 || second.Pasts[1].State != 40 || second.Pasts[2].State != 0 {
		t.Error("two messages share memory", second)
	}
	third, e := Decode(s)
	if !same(third, full(5)) || e != api.OK {
		t.Error(third, e)
	}
}
