package sum

import (
	"slices"
	"testing"

	"quintain/api"
)

// What follows says again what the document says, word by word, with the 32 bits
// of a number as truths, the lowest first.

type register [32]bool

// saidTurns is EDB88320, digit by digit.
var saidTurns = bits32("1110 1101 1011 1000 1000 0011 0010 0000")

// bits32 reads 32 digits, the highest first, parted by blanks.
func bits32(s string) register {
	var b register
	at := 31
	for _, r := range s {
		if r != ' ' {
			b[at] = r == '1'
			at--
		}
	}
	return b
}

func (b register) number() uint32 {
	n := uint32(0)
	for i, one := range b {
		if one {
			n += uint32(1) << i
		}
	}
	return n
}

func (b register) halved() (register, bool) {
	var half register
	copy(half[:31], b[1:])
	return half, b[0]
}

// unlike is xor.
func (b register) unlike(c register) register {
	for i := range b {
		b[i] = b[i] != c[i]
	}
	return b
}

func saidOf(s string) uint32 {
	sum := bits32("11111111 11111111 11111111 11111111")
	for _, c := range []byte(s) {
		for i := range 8 {
			sum[i] = sum[i] != (c/(byte(1)<<i)%2 == 1)
		}
		for range 8 {
			half, one := sum.halved()
			if one {
				half = half.unlike(saidTurns)
			}
			sum = half
		}
	}
	for i := range sum {
		sum[i] = !sum[i]
	}
	return sum.number()
}

func saidSeal(s string) string {
	sealed := []byte(s)
	sum := saidOf(s)
	for range 4 {
		sealed = append(sealed, byte(sum%256))
		sum /= 256
	}
	return string(sealed)
}

func saidOpen(s string) (string, api.Errno) {
	if len(s) < 4 {
		return "", 1
	}
	if text := s[:len(s)-4]; saidSeal(text) == s {
		return text, 0
	}
	return "", 13
}

// chance is a row of numbers that look as if by chance, the same in each run.
type chance uint64

func (c *chance) below(n int) int {
	*c = *c*6364136223846793005 + 1442695040888963407
	return int(uint64(*c>>33) % uint64(n))
}

// text is one of n bytes.
func (c *chance) text(n int) string {
	list := make([]byte, n)
	for i := range list {
		list[i] = byte(c.below(256))
	}
	return string(list)
}

// plain is a text of n bytes with few ones and long runs of alike bytes.
func (c *chance) plain(n int) string {
	list := make([]byte, n)
	b := byte(0)
	for i := range list {
		if c.below(9) == 0 {
			b = []byte{0, 255, 1, 128, 'a'}[c.below(5)]
		}
		list[i] = b
	}
	return string(list)
}

func wantSaid(t *testing.T, s string) {
	t.Helper()
	if n := Of(s); n != saidOf(s) {
		t.Fatalf("%q: sum %x, wanted %x", s, n, saidOf(s))
	}
	if u := Seal(s); u != saidSeal(s) {
		t.Fatalf("%q: sealed %q, wanted %q", s, u, saidSeal(s))
	}
	wantSaidOpen(t, s)
	wantSaidOpen(t, saidSeal(s))
}

func wantSaidOpen(t *testing.T, s string) {
	t.Helper()
	u, e := Open(s)
	if v, f := saidOpen(s); u != v || e != f {
		t.Fatalf("%q: opened %q %v, wanted %q %v", s, u, e, v, f)
	}
}

// P15.1 and P15.2 for all texts of up to two bytes.
func TestShortTexts(t *testing.T) {
	wantSaid(t, "")
	for a := range 256 {
		wantSaid(t, string([]byte{byte(a)}))
		for b := range 256 {
			wantSaid(t, string([]byte{byte(a), byte(b)}))
		}
	}
}

// P15.1 and P15.2 for texts of many lengths.
func TestManyTexts(t *testing.T) {
	c := chance(1)
	for n := range 300 {
		for range 4 {
			wantSaid(t, c.text(n))
			wantSaid(t, c.plain(n))
		}
	}
	for range 20 {
		wantSaid(t, c.text(c.below(20000)))
		wantSaid(t, c.plain(c.below(20000)))
	}
}

// P15.2 for texts that nobody sealed, and for what is left or made of sealed ones.
func TestUnsealed(t *testing.T) {
	c := chance(2)
	for n := range 60 {
		for range 10 {
			wantSaidOpen(t, c.text(n))
			wantSaidOpen(t, c.plain(n))
			s := saidSeal(c.plain(n))
			wantSaidOpen(t, s[:c.below(len(s)+1)])
			wantSaidOpen(t, s[c.below(len(s)+1):])
			wantSaidOpen(t, s+c.plain(1+c.below(5)))
			wantSaidOpen(t, c.plain(1+c.below(5))+s)
			l := []byte(s)
			i, j := c.below(len(l)), c.below(len(l))
			l[i], l[j] = l[j], l[i]
			wantSaidOpen(t, string(l))
			slices.Reverse(l)
			wantSaidOpen(t, string(l))
		}
	}
}
