package plane

import (
	"math"
	"regexp"
	"strconv"
	"strings"
	"testing"

	"quintain/api"
)

const top = api.MaxPart

var minus = math.Copysign(0, -1)

// noPoints are complex numbers that are no points.
func noPoints() []complex128 {
	parts := []float64{0.5, -0.5, 1.25, top + 1, -top - 1, top + 0.5, -top - 0.5,
		math.Nextafter(top, math.Inf(1)), math.Nextafter(1, 0), math.SmallestNonzeroFloat64, -math.SmallestNonzeroFloat64,
		1 << 53, 1 << 63, -1 << 63, 1 << 64, math.MaxFloat64, -math.MaxFloat64,
		math.Inf(1), math.Inf(-1), math.NaN(), math.Copysign(math.NaN(), -1)}
	var list []complex128
	for _, x := range parts {
		list = append(list, complex(x, 0), complex(0, x), complex(x, x), complex(x, top), complex(minus, x))
	}
	return list
}

// somePoints are points at the edges, and between them.
func somePoints() []complex128 {
	parts := []float64{-top, -top + 1, -1024, -3, -1, 0, 1, 2, 1023, 1024, 1025, top - 1, top}
	var list []complex128
	for _, a := range parts {
		for _, b := range parts {
			list = append(list, complex(a, b))
		}
	}
	return list
}

// same tells whether p is q, signs of noughts too.
func same(p, q complex128) bool {
	return math.Float64bits(real(p)) == math.Float64bits(real(q)) && math.Float64bits(imag(p)) == math.Float64bits(imag(q))
}

// wanted is what a call must answer whose point has the parts a and b.
func wanted(a, b int64) (complex128, api.Errno) {
	if a > top || a < -top || b > top || b < -top {
		return 0, api.ErrRange
	}
	return complex(float64(a), float64(b)), api.OK
}

// whole64 are the parts of a complex number that is known to be a point.
func whole64(p complex128) (int64, int64) { return int64(real(p)), int64(imag(p)) }

// P1.1
func TestMade(t *testing.T) {
	parts := []int64{0, 1, -1, 7, top - 1, top, top + 1, -top + 1, -top, -top - 1, 1 << 21, 1 << 32, 1 << 53, math.MaxInt64, math.MinInt64, math.MinInt64 + 1}
	for _, a := range parts {
		for _, b := range parts {
			p, e := Made(a, b)
			q, f := wanted(a, b)
			if !same(p, q) || e != f {
				t.Error(a, b, p, e)
			}
		}
	}
}

// P1.1
func TestParts(t *testing.T) {
	for _, p := range somePoints() {
		a, b, e := Parts(p)
		if float64(a) != real(p) || float64(b) != imag(p) || e != api.OK {
			t.Error(p, a, b, e)
		}
		if q, e := Made(a, b); !same(p, q) || e != api.OK {
			t.Error(p, q, e)
		}
	}
	for _, p := range []complex128{complex(minus, 0), complex(0, minus), complex(minus, minus)} {
		if a, b, e := Parts(p); a != 0 || b != 0 || e != api.OK {
			t.Error(p, a, b, e)
		}
	}
	for _, p := range noPoints() {
		if a, b, e := Parts(p); a != 0 || b != 0 || e != api.ErrArg {
			t.Error(p, a, b, e)
		}
	}
}

type twoPoints struct {
	name    string
	call    func(p, q complex128) (complex128, api.Errno)
	reckons func(a, b, c, d int64) (int64, int64)
}

func ofTwo() []twoPoints {
	return []twoPoints{
		{"Add", Add, func(a, b, c, d int64) (int64, int64) { return a + c, b + d }},
		{"Sub", Sub, func(a, b, c, d int64) (int64, int64) { return a - c, b - d }},
		{"Mul", Mul, func(a, b, c, d int64) (int64, int64) { return a*c - b*d, a*d + b*c }},
	}
}

// P1.2
func TestOfTwoPoints(t *testing.T) {
	for _, f := range ofTwo() {
		for _, p := range somePoints() {
			for _, q := range somePoints() {
				a, b := whole64(p)
				c, d := whole64(q)
				r, e := f.call(p, q)
				s, g := wanted(f.reckons(a, b, c, d))
				if !same(r, s) || e != g {
					t.Fatal(f.name, p, q, r, e)
				}
			}
		}
	}
}

// P1.2
func TestJustStillAndJustNoLonger(t *testing.T) {
	for _, c := range []struct {
		call func(p, q complex128) (complex128, api.Errno)
		p, q complex128
		want complex128
		err  api.Errno
	}{
		{Add, top - 1, 1, top, api.OK},
		{Add, top, 1, 0, api.ErrRange},
		{Add, (top - 1) * 1i, 1i, top * 1i, api.OK},
		{Add, top * 1i, 1i, 0, api.ErrRange},
		{Add, 1 - top, -1, -top, api.OK},
		{Add, -top, -1, 0, api.ErrRange},
		{Add, -top * 1i, -1i, 0, api.ErrRange},
		{Add, top - top*1i, -top + top*1i, 0, api.OK},
		{Add, top + top*1i, top + top*1i, 0, api.ErrRange},
		{Sub, 1 - top, 1, -top, api.OK},
		{Sub, -top, 1, 0, api.ErrRange},
		{Sub, top - 1, -1, top, api.OK},
		{Sub, top, -1, 0, api.ErrRange},
		{Sub, 0, top + top*1i, -top - top*1i, api.OK},
		{Sub, -top * 1i, 1i, 0, api.ErrRange},
		{Sub, top + top*1i, -top - top*1i, 0, api.ErrRange},
		{Mul, 2 + 1i, 2 - 1i, 5, api.OK},
		{Mul, 1024, 1024, top, api.OK},
		{Mul, 1024, -1024, -top, api.OK},
		{Mul, 1024i, 1024i, -top, api.OK},
		{Mul, 1024 + 1i, 1024 - 1i, 0, api.ErrRange},
		{Mul, 1024 + 1i, 1024 + 1i, top - 1 + 2048i, api.OK},
		{Mul, 1 + 1024i, 1 + 1024i, 1 - top + 2048i, api.OK},
		{Mul, 1024, 1025i, 0, api.ErrRange},
		{Mul, top, 2, 0, api.ErrRange},
		{Mul, top + top*1i, 1 - 1i, 0, api.ErrRange},
		{Mul, top + top*1i, top + top*1i, 0, api.ErrRange},
		{Mul, top + top*1i, 1i, -top + top*1i, api.OK},
		{Mul, -top - top*1i, -1, top + top*1i, api.OK},
	} {
		if r, e := c.call(c.p, c.q); !same(r, c.want) || e != c.err {
			t.Error(c.p, c.q, r, e, "wanted", c.want, c.err)
		}
	}
}

// P1.2
func TestOfTwoWithNoPoint(t *testing.T) {
	for _, f := range ofTwo() {
		for _, p := range noPoints() {
			for _, q := range []complex128{0, 1 - 1i, top + top*1i, p, complex(math.NaN(), 0), -p} {
				if r, e := f.call(p, q); !same(r, 0) || e != api.ErrArg {
					t.Error(f.name, p, q, r, e)
				}
				if r, e := f.call(q, p); !same(r, 0) || e != api.ErrArg {
					t.Error(f.name, q, p, r, e)
				}
			}
		}
	}
	// What would come out is a point, and still one that goes in is none.
	if r, e := Add(0.5, 0.5); !same(r, 0) || e != api.ErrArg {
		t.Error(r, e)
	}
	if r, e := Sub(top+1, 1); !same(r, 0) || e != api.ErrArg {
		t.Error(r, e)
	}
	if r, e := Mul(0.5, 2); !same(r, 0) || e != api.ErrArg {
		t.Error(r, e)
	}
}

// P1.2
func TestTurn(t *testing.T) {
	ns := []int{math.MinInt, math.MinInt + 1, math.MinInt + 2, math.MinInt + 3, math.MaxInt, math.MaxInt - 1, math.MaxInt - 2, math.MaxInt - 3}
	for n := -9; n <= 9; n++ {
		ns = append(ns, n)
	}
	for _, p := range somePoints() {
		for _, n := range ns {
			a, b := whole64(p)
			for range (n%4 + 4) % 4 {
				a, b = -b, a
			}
			want, _ := wanted(a, b)
			if r, e := Turn(p, n); !same(r, want) || e != api.OK {
				t.Fatal(p, n, r, e)
			}
		}
	}
	if r, e := Turn(1, -1); !same(r, complex(0, -1)) || e != api.OK {
		t.Error(r, e)
	}
	for _, p := range noPoints() {
		for n := -4; n <= 4; n++ {
			if r, e := Turn(p, n); !same(r, 0) || e != api.ErrArg {
				t.Error(p, n, r, e)
			}
		}
	}
}

// P1.2: what goes in may have noughts below nought, what comes out has none.
func TestNoughtIsPlusNought(t *testing.T) {
	noughts := []complex128{0, complex(minus, 0), complex(0, minus), complex(minus, minus)}
	for _, p := range noughts {
		for _, q := range noughts {
			for _, f := range ofTwo() {
				if r, e := f.call(p, q); !same(r, 0) || e != api.OK {
					t.Error(f.name, p, q, r, e)
				}
			}
		}
		for n := -4; n <= 4; n++ {
			if r, e := Turn(p, n); !same(r, 0) || e != api.OK {
				t.Error(p, n, r, e)
			}
		}
		if r, e := Mul(p, -3+2i); !same(r, 0) || e != api.OK {
			t.Error(p, r, e)
		}
		if s, e := Show(p); s != "0+0i" || e != api.OK {
			t.Error(p, s, e)
		}
	}
	if r, e := Add(complex(minus, 5), complex(minus, -5)); !same(r, 0) || e != api.OK {
		t.Error(r, e)
	}
}

// P1.3
func TestShow(t *testing.T) {
	for _, c := range []struct {
		p complex128
		s string
	}{
		{0, "0+0i"}, {1i, "0+1i"}, {-1i, "0-1i"}, {3 - 4i, "3-4i"}, {-3 + 4i, "-3+4i"}, {5, "5+0i"},
		{top + top*1i, "1048576+1048576i"}, {-top - top*1i, "-1048576-1048576i"},
		{complex(minus, 7), "0+7i"}, {complex(7, minus), "7+0i"}, {complex(-10, minus), "-10+0i"},
	} {
		if s, e := Show(c.p); s != c.s || e != api.OK {
			t.Error(c.p, s, e)
		}
	}
	for _, p := range noPoints() {
		if s, e := Show(p); s != "" || e != api.ErrArg {
			t.Error(p, s, e)
		}
	}
}

// P1.3
func TestReadOfNoPoints(t *testing.T) {
	digits := strings.Repeat("9", 1<<16)
	for _, s := range []string{
		"", "i", "+", "-", "1", "1i", "+i", "1+i", "1-i", "+1i", "-1i", "1+1", "1+1I", "1+1j",
		"03+1i", "3+01i", "00+0i", "0+00i", "3-04i", "-03+1i", "-0+0i", "0-0i", "-0-0i",
		"+1+1i", "1++1i", "1+-1i", "1-+1i", "1--1i", "--1+1i", "1+1ii", "1+1i ", " 1+1i", "1 +1i", "1+1 i",
		"1.0+0i", "1e2+0i", "0x1+0i", "1_0+0i", "Inf+0i", "NaN+0i", "(1+1i)", "1+1i\n", "1+1i\x00", "\xff+1i", "1+1i1+1i", "1+2+3i",
		"1048577+0i", "0+1048577i", "-1048577+0i", "0-1048577i", "9223372036854775808+0i", "0-9223372036854775809i", "18446744073709551616+0i",
		digits + "+0i", "0+" + digits + "i", digits,
	} {
		if p, e := Read(s); !same(p, 0) || e != api.ErrForm {
			t.Error(s, p, e)
		}
	}
}

// P1.3: texts that are one byte away from a point's, against a form of their own.
func TestReadNextToPoints(t *testing.T) {
	form := regexp.MustCompile(`^(0|-?[1-9][0-9]{0,6})(\+0|[+-][1-9][0-9]{0,6})i$`)
	bytes := "0123456789+-i .eE_xI\x00\n\xff"
	for _, s := range []string{"0+0i", "3-4i", "-1+10i", "10-1i", "1048576+1048576i", "-1048576-1048576i", "-20+0i", "0-7i"} {
		var near []string
		for at := range len(s) + 1 {
			if at < len(s) {
				near = append(near, s[:at]+s[at+1:])
			}
			for i := range len(bytes) {
				near = append(near, s[:at]+bytes[i:i+1]+s[at:])
				if at < len(s) {
					near = append(near, s[:at]+bytes[i:i+1]+s[at+1:])
				}
			}
		}
		for _, u := range near {
			want, wantErr := complex128(0), api.ErrForm
			if m := form.FindStringSubmatch(u); m != nil {
				a, _ := strconv.ParseInt(m[1], 10, 64)
				b, _ := strconv.ParseInt(m[2], 10, 64)
				if p, e := wanted(a, b); e == api.OK {
					want, wantErr = p, api.OK
				}
			}
			if p, e := Read(u); !same(p, want) || e != wantErr {
				t.Errorf("%q: %v %v, wanted %v %v", u, p, e, want, wantErr)
			}
		}
	}
}

// P1.4
func TestReadOfShow(t *testing.T) {
	for _, p := range somePoints() {
		s, e := Show(p)
		q, f := Read(s)
		if !same(p, q) || e != api.OK || f != api.OK {
			t.Error(p, s, q, e, f)
		}
	}
	for a := int64(-12); a <= 12; a++ {
		for b := int64(-102); b <= 102; b++ {
			p, _ := Made(a, b)
			s, _ := Show(p)
			if q, e := Read(s); !same(p, q) || e != api.OK {
				t.Error(a, b, s, q, e)
			}
		}
	}
}

// P1.4
func TestTurnedAbout(t *testing.T) {
	for _, p := range somePoints() {
		for _, q := range somePoints() {
			for _, call := range []func(p, q complex128) (complex128, api.Errno){Add, Mul} {
				r, e := call(p, q)
				s, f := call(q, p)
				if !same(r, s) || e != f {
					t.Fatal(p, q, r, e, s, f)
				}
			}
			if r, e := Add(p, q); e == api.OK {
				if s, f := Sub(r, q); !same(s, p) || f != api.OK {
					t.Fatal(p, q, s, f)
				}
			}
		}
	}
}

// P1.4
func TestPutTogetherInAnyWay(t *testing.T) {
	parts := []float64{-top, -1024, -7, -1, 0, 1, 3, 1024, top}
	var list []complex128
	for _, a := range parts {
		for _, b := range parts {
			list = append(list, complex(a, b))
		}
	}
	var sums, products, spread int
	for _, p := range list {
		for _, q := range list {
			for _, r := range list {
				sums += together(t, p, q, r, Add)
				products += together(t, p, q, r, Mul)
				spread += spreadOut(t, p, q, r)
			}
		}
	}
	if sums < 1000 || products < 1000 || spread < 1000 {
		t.Error("too few of them are points", sums, products, spread)
	}
}

// together holds (pq)r against p(qr), where all of them are points.
func together(t *testing.T, p, q, r complex128, call func(p, q complex128) (complex128, api.Errno)) int {
	pq, e := call(p, q)
	qr, f := call(q, r)
	if e != api.OK || f != api.OK {
		return 0
	}
	left, e := call(pq, r)
	right, f := call(p, qr)
	if !same(left, right) || e != f {
		t.Fatal(p, q, r, left, e, right, f)
	}
	return 1
}

// spreadOut holds p(q+r) against pq+pr, where all of them are points.
func spreadOut(t *testing.T, p, q, r complex128) int {
	pq, e := Mul(p, q)
	pr, f := Mul(p, r)
	sum, g := Add(q, r)
	if e != api.OK || f != api.OK || g != api.OK {
		return 0
	}
	left, e := Mul(p, sum)
	right, f := Add(pq, pr)
	if !same(left, right) || e != f {
		t.Fatal(p, q, r, left, e, right, f)
	}
	return 1
}
