package sum

import (
	"hash/crc32"
	"math/bits"
	"strings"
	"sync"
	"testing"
	"unsafe"

	"quintain/api"
)

// samples are texts to be sealed: of none, one, a few and many bytes.
func samples() []string {
	c := chance(3)
	return []string{
		"", "\x00", "\xff", "a", "ab", "abc", "\x00\x00\x00\x00", "\xff\xff\xff\xff",
		"123456789", "\u20ac \xff\xfe no runes \x80", strings.Repeat("\x00", 40), strings.Repeat("\xff", 40),
		c.text(33), c.text(64),
	}
}

// P15.1: the chapter's examples, and sums that are known from elsewhere.
func TestOf(t *testing.T) {
	for _, c := range []struct {
		s    string
		want uint32
	}{
		{"", 0},
		{"123456789", 0xcbf43926},
		{"a", 0xe8b7be43},
		{"abc", 0x352441c2},
		{"\x00", 0xd202ef8d},
		{"\xff", 0xff000000},
		{"\x00\x00\x00\x00", 0x2144df1c},
		{"\xff\xff\xff\xff", 0xffffffff},
		{strings.Repeat("\x00", 32), 0x190a55ad},
		{strings.Repeat("\xff", 32), 0xff6cab0b},
		{"The quick brown fox jumps over the lazy dog", 0x414fa339},
	} {
		if n := Of(c.s); n != c.want {
			t.Errorf("%q: %x, wanted %x", c.s, n, c.want)
		}
	}
}

// P15.1: each byte by itself, and behind and ahead of others.
func TestOfBytes(t *testing.T) {
	for b := range 256 {
		one := string([]byte{byte(b)})
		for _, s := range []string{one, one + one, "a" + one, one + "a", "\x00" + one, one + "\xff", strings.Repeat(one, 100)} {
			if n, want := Of(s), saidOf(s); n != want {
				t.Errorf("%q: %x, wanted %x", s, n, want)
			}
		}
	}
}

// P15.1: long texts.
func TestOfLong(t *testing.T) {
	c := chance(4)
	for _, n := range []int{255, 256, 257, 1023, 4096, 65535, 65536, 65537, 1 << 20} {
		for _, s := range []string{c.text(n), c.plain(n), strings.Repeat("\x00", n), strings.Repeat("\xff", n)} {
			if got, want := Of(s), crc32.ChecksumIEEE([]byte(s)); got != want {
				t.Errorf("%d bytes: %x, wanted %x", n, got, want)
			}
		}
	}
}

// P15.1: the text stands ahead, and its sum's lowest byte is the first behind it.
func TestSeal(t *testing.T) {
	for _, c := range []struct{ s, want string }{
		{"", "\x00\x00\x00\x00"},
		{"a", "a\x43\xbe\xb7\xe8"},
		{"\x00", "\x00\x8d\xef\x02\xd2"},
		{"\xff", "\xff\x00\x00\x00\xff"},
		{"123456789", "123456789\x26\x39\xf4\xcb"},
		{"\x00\x00\x00\x00", "\x00\x00\x00\x00\x1c\xdf\x44\x21"},
		{"\xff\xff\xff\xff", "\xff\xff\xff\xff\xff\xff\xff\xff"},
	} {
		if s := Seal(c.s); s != c.want {
			t.Errorf("%q: %q, wanted %q", c.s, s, c.want)
		}
	}
	c := chance(5)
	for _, n := range []int{2, 3, 5, 100, 255, 256, 1000, 65536, 1 << 20} {
		if s := c.text(n); Seal(s) != saidSeal(s) {
			t.Errorf("%d bytes: %q", n, Seal(s)[n:])
		}
	}
}

func wantOpen(t *testing.T, s, want string, e api.Errno) {
	t.Helper()
	if u, f := Open(s); u != want || f != e {
		t.Errorf("%q: %q %v, wanted %q %v", s, u, f, want, e)
	}
}

// P15.2: fewer than four bytes, just four, and more.
func TestOpen(t *testing.T) {
	for _, c := range []struct {
		s, want string
		e       api.Errno
	}{
		{"", "", api.ErrForm},
		{"a", "", api.ErrForm},
		{"\x00", "", api.ErrForm},
		{"\xff", "", api.ErrForm},
		{"\x00\x00", "", api.ErrForm},
		{"abc", "", api.ErrForm},
		{"\x00\x00\x00", "", api.ErrForm},
		{"\xff\xff\xff", "", api.ErrForm},
		{"\x00\x00\x00\x00", "", api.OK},
		{"\x01\x00\x00\x00", "", api.ErrSum},
		{"\x00\x01\x00\x00", "", api.ErrSum},
		{"\x00\x00\x01\x00", "", api.ErrSum},
		{"\x00\x00\x00\x01", "", api.ErrSum},
		{"\x00\x00\x00\x80", "", api.ErrSum},
		{"\xff\xff\xff\xff", "", api.ErrSum},
		{"abcd", "", api.ErrSum},
		{"\x00\x00\x00\x00\x00", "", api.ErrSum},
		{"\xff\xff\xff\xff\xff", "", api.ErrSum},
		{"abcde", "", api.ErrSum},
		{"\x00\x8d\xef\x02\xd2", "\x00", api.OK},
		{"\x00\xd2\x02\xef\x8d", "", api.ErrSum},
		{"\xff\x00\x00\x00\xff", "\xff", api.OK},
		{"\xff\xff\x00\x00\x00", "", api.ErrSum},
		{"a\x43\xbe\xb7\xe8", "a", api.OK},
		{"a\xe8\xb7\xbe\x43", "", api.ErrSum},
		{"b\x43\xbe\xb7\xe8", "", api.ErrSum},
		{"\x43\xbe\xb7\xe8a", "", api.ErrSum},
		{"\x43\xbe\xb7\xe8", "", api.ErrSum},
		{"\x00\x00\x00\x00\x00\x00\x00\x00", "", api.ErrSum},
		{"\x00\x00\x00\x00\x1c\xdf\x44\x21", "\x00\x00\x00\x00", api.OK},
		{"\xff\xff\xff\xff\xff\xff\xff\xff", "\xff\xff\xff\xff", api.OK},
		{"123456789\x26\x39\xf4\xcb", "123456789", api.OK},
		{"123456789\x26\x39\xf4\xcb\x00", "", api.ErrSum},
		{"123456789\x26\x39\xf4", "", api.ErrSum},
	} {
		wantOpen(t, c.s, c.want, c.e)
	}
}

// P15.3: what was sealed is opened, also when it was sealed more than once.
func TestOpenOfSeal(t *testing.T) {
	c := chance(6)
	list := append(samples(), c.text(1000), c.text(100000))
	for _, s := range list {
		wantOpen(t, Seal(s), s, api.OK)
		wantOpen(t, Seal(Seal(s)), Seal(s), api.OK)
	}
}

// turned is s with the bits turned that are ones in mask, whose lowest byte is at
// place at.
func turned(s string, at int, mask uint32) string {
	l := []byte(s)
	for i := 0; i < 4; i++ {
		if b := byte(mask >> (8 * i)); b != 0 {
			l[at+i] ^= b
		}
	}
	return string(l)
}

func wantTold(t *testing.T, sealed string, at int, mask uint32) {
	t.Helper()
	if u, e := Open(turned(sealed, at, mask)); u != "" || e != api.ErrSum {
		t.Fatalf("%q, at %d turned %x: %q %v", sealed, at, mask, u, e)
	}
}

// P15.3: one bit, two and three, all that stand within four bytes.
func TestFewBitsTurned(t *testing.T) {
	for _, s := range samples() {
		s = Seal(s)
		for at := 0; at+4 <= len(s); at++ {
			for i := range 32 {
				one := uint32(1) << i
				wantTold(t, s, at, one)
				wantTold(t, s, at, ^one)
				for j := range i {
					wantTold(t, s, at, one|1<<j)
					wantTold(t, s, at, ^(one | 1<<j))
					for k := range j {
						wantTold(t, s, at, one|1<<j|1<<k)
					}
				}
			}
		}
	}
}

// P15.3: many bits within four bytes: all, those of some bytes, all those that
// stand in a row, all of sixteen next to one another, and others.
func TestManyBitsTurned(t *testing.T) {
	c := chance(7)
	for _, s := range []string{"", "a", "123456789", "\x00\x00\x00", "\xff\xff\xff"} {
		s = Seal(s)
		for at := 0; at+4 <= len(s); at++ {
			for long := 1; long <= 32; long++ {
				for first := 0; first+long <= 32; first++ {
					wantTold(t, s, at, uint32(1<<long-1)<<first)
				}
			}
			for mask := uint32(1); mask < 1<<16; mask++ {
				wantTold(t, s, at, mask)
				wantTold(t, s, at, mask<<16)
				wantTold(t, s, at, mask|mask<<16)
			}
			for range 10000 {
				wantTold(t, s, at, uint32(c.below(1<<16)<<16|c.below(1<<16))|1<<c.below(32))
			}
		}
	}
}

// unlike is where the sum and the four bytes behind are unlike when a bit of a
// sealed text is turned: nought, if nothing would be told.
func unlike(sealed string, bit int) uint32 {
	s := turned(sealed+"\x00\x00\x00", bit/8, 1<<(bit%8))[:len(sealed)]
	end := len(s) - 4
	behind := uint32(s[end]) | uint32(s[end+1])<<8 | uint32(s[end+2])<<16 | uint32(s[end+3])<<24
	return Of(s[:end]) ^ behind
}

// P15.3, all of it for a length: what bits do to the sum they do each for itself,
// so that if of 32 bits none does what some others do together, no choice of them
// comes to nothing.
func TestBitsTurnedAreIndependent(t *testing.T) {
	for _, s := range samples() {
		s = Seal(s)
		for at := 0; at+4 <= len(s); at++ {
			var rows [32]uint32 // by their highest bit
			for i := range 32 {
				row := unlike(s, 8*at+i)
				for row != 0 && rows[bits.Len32(row)-1] != 0 {
					row ^= rows[bits.Len32(row)-1]
				}
				if row == 0 {
					t.Fatalf("%q: at %d bit %d does what others do", s, at, i)
				}
				rows[bits.Len32(row)-1] = row
			}
		}
	}
}

// That bits do each for itself what they do to the sum.
func TestBitsForThemselves(t *testing.T) {
	c := chance(8)
	for range 2000 {
		n := c.below(70)
		s, u, v := []byte(c.text(n)), []byte(c.text(n)), []byte(c.text(n))
		all := make([]byte, n)
		for i := range all {
			all[i] = s[i] ^ u[i] ^ v[i]
		}
		if Of(string(all)) != Of(string(s))^Of(string(u))^Of(string(v)) {
			t.Fatalf("%q %q %q", s, u, v)
		}
	}
}

// P15.2: a byte is cut off, ahead or behind, or one is put there.
func TestCutAndLonger(t *testing.T) {
	for _, s := range samples() {
		s = Seal(s)
		e := api.ErrSum
		if len(s) == 4 {
			e = api.ErrForm
		}
		wantOpen(t, s[:len(s)-1], "", e)
		if s != "\x00\x00\x00\x00" {
			wantOpen(t, s[1:], "", api.ErrSum)
		} else {
			wantOpen(t, s[1:], "", api.ErrForm)
		}
		for b := range 256 {
			one := string([]byte{byte(b)})
			wantSaidOpen(t, s+one)
			wantSaidOpen(t, one+s)
		}
	}
	for _, b := range []string{"\x00", "\x01", "\x80", "\xff"} {
		wantOpen(t, Seal("abc")+b, "", api.ErrSum)
		wantOpen(t, b+Seal("abc"), "", api.ErrSum)
		wantOpen(t, Seal("")+b, "", api.ErrSum)
	}
}

// orders are all orders of 0 to n-1.
func orders(n int) [][]int {
	if n == 0 {
		return [][]int{nil}
	}
	var list [][]int
	for _, o := range orders(n - 1) {
		for at := range n {
			list = append(list, append(append(append([]int{}, o[:at]...), n-1), o[at:]...))
		}
	}
	return list
}

// calls are calls and what they must answer.
func calls() []func() bool {
	return []func() bool{
		func() bool { return Of("123456789") == 0xcbf43926 },
		func() bool { return Of("") == 0 },
		func() bool { return Seal("a") == "a\x43\xbe\xb7\xe8" },
		func() bool { s, e := Open("a\x43\xbe\xb7\xe8"); return s == "a" && e == api.OK },
		func() bool { s, e := Open("a\x43\xbe\xb7\xe9"); return s == "" && e == api.ErrSum },
		func() bool { s, e := Open("abc"); return s == "" && e == api.ErrForm },
	}
}

// R5: whichever call is the first, and whatever came ahead of a call, it answers
// the same, and again.
func TestCallsInAnyOrder(t *testing.T) {
	list := calls()
	for _, o := range orders(len(list)) {
		table = eights{}
		for _, at := range o {
			if !list[at]() || !list[at]() {
				t.Fatalf("order %v: call %d", o, at)
			}
		}
	}
}

// R5: calls that are made at once, the first ones too.
func TestCallsAtOnce(t *testing.T) {
	for range 50 {
		table = eights{}
		var all sync.WaitGroup
		for _, call := range append(calls(), calls()...) {
			all.Go(func() {
				if !call() {
					t.Error("a call at once with others")
				}
			})
		}
		all.Wait()
	}
}

// The table is made when it is first wanted, and only then.
func TestTable(t *testing.T) {
	var own eights
	if own.made != [256]uint32{} {
		t.Error("made ahead of being wanted")
	}
	made := own.wanted()
	for b := range made {
		if want := ^saidOf(string([]byte{byte(b) ^ 255})) ^ 0xffffff; made[b] != want {
			t.Errorf("%d: %x, wanted %x", b, made[b], want)
		}
	}
	made[7] = 7
	if own.wanted() != made || made[7] != 7 {
		t.Error("made again")
	}
}

// wantBothWays wants that what is reckoned of s and what a table tells of it,
// one that was made ahead and one that wasn't, are its sum.
func wantBothWays(t *testing.T, made *eights, s string) {
	t.Helper()
	want := crc32.ChecksumIEEE([]byte(s))
	var own eights
	if a, b, c := reckoned(s), made.sum(s), own.sum(s); a != want || b != want || c != want {
		t.Fatalf("%d bytes: reckoned %x, told %x and %x, wanted %x", len(s), a, b, c, want)
	}
}

// P15.1: both ways to a sum come to the same, for texts of none, one, many and
// very many bytes.
func TestBothWays(t *testing.T) {
	var made eights
	c := chance(9)
	wantBothWays(t, &made, "")
	for b := range 256 {
		wantBothWays(t, &made, string([]byte{byte(b)}))
	}
	for n := range 400 {
		wantBothWays(t, &made, c.text(n))
		wantBothWays(t, &made, c.plain(n))
	}
	for _, n := range []int{800, 813, 4096, 65535, 65536, 1 << 20, 1<<23 + 1} {
		wantBothWays(t, &made, c.text(n))
		wantBothWays(t, &made, strings.Repeat("\x00", n))
		wantBothWays(t, &made, strings.Repeat("\xff", n))
	}
}

// R5: what stands in the table decides no answer.
func TestTableDecidesNothing(t *testing.T) {
	defer func() { table = eights{} }()
	for b := range 256 {
		for _, bad := range []uint32{1, ones} {
			table = eights{}
			table.wanted()[b] ^= bad
			for at, call := range calls() {
				if !call() {
					t.Fatalf("%d is %x in the table: call %d", b, table.made[b], at)
				}
			}
		}
	}
}

// The table is made by Of, beside the bits.
func TestOfWantsTheTable(t *testing.T) {
	defer func() { table = eights{} }()
	table = eights{}
	if Of("a"); table.made[1] == 0 || table.made != *new(eights).wanted() {
		t.Error("Of made no table")
	}
}

// shared tells whether two texts have a byte in common in memory.
func shared(s, u string) bool {
	if s == "" || u == "" {
		return false
	}
	a, b := uintptr(unsafe.Pointer(unsafe.StringData(s))), uintptr(unsafe.Pointer(unsafe.StringData(u)))
	return a < b+uintptr(len(u)) && b < a+uintptr(len(s))
}

// R4: what is answered is new memory, and what is handed in stays.
func TestNewMemory(t *testing.T) {
	for _, s := range samples() {
		was := strings.Clone(s)
		sealed := Seal(s)
		again := Seal(s)
		if s != was || shared(s, sealed) || shared(sealed, again) {
			t.Errorf("%q sealed", s)
		}
		first, _ := Open(sealed)
		second, _ := Open(sealed)
		if sealed != again || shared(first, sealed) || shared(first, second) {
			t.Errorf("%q opened", s)
		}
	}
}
