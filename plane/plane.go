// Package plane is layer 1: points of the plane with whole parts, which are
// the language's complex numbers. See shared/doc/01-plane.md.
package plane

import (
	"strconv"
	"strings"

	"quintain/api"
)

// Made answers the point a + bi.
func Made(a, b int64) (complex128, api.Errno) {
	if !within(a) || !within(b) {
		return 0, api.ErrRange
	}
	return complex(float64(a), float64(b)), api.OK
}

// Parts answers the two parts of a point.
func Parts(p complex128) (int64, int64, api.Errno) {
	if !isPoint(p) {
		return 0, 0, api.ErrArg
	}
	return int64(real(p)), int64(imag(p)), api.OK
}

// Add answers the sum of two points.
func Add(p, q complex128) (complex128, api.Errno) {
	if !isPoint(p) || !isPoint(q) {
		return 0, api.ErrArg
	}
	return settled(p + q)
}

// Sub answers p less q.
func Sub(p, q complex128) (complex128, api.Errno) {
	if !isPoint(p) || !isPoint(q) {
		return 0, api.ErrArg
	}
	return settled(p - q)
}

// Mul answers the product of two points.
func Mul(p, q complex128) (complex128, api.Errno) {
	if !isPoint(p) || !isPoint(q) {
		return 0, api.ErrArg
	}
	return settled(p * q)
}

// Turn answers p times i to the power of n.
func Turn(p complex128, n int) (complex128, api.Errno) {
	if !isPoint(p) {
		return 0, api.ErrArg
	}
	return settled(p * power(n))
}

// Show answers the text of a point.
func Show(p complex128) (string, api.Errno) {
	a, b, e := Parts(p)
	if e != api.OK {
		return "", e
	}
	text := strconv.FormatInt(a, 10)
	if b >= 0 {
		text += "+"
	}
	return text + strconv.FormatInt(b, 10) + "i", api.OK
}

// Read answers the point of which s is the text.
func Read(s string) (complex128, api.Errno) {
	p, ok := guess(s)
	if !ok {
		return 0, api.ErrForm
	}
	// The number parser takes more than Show tells (01, +1, -0), so the
	// text itself is the judge.
	if t, e := Show(p); e != api.OK || t != s {
		return 0, api.ErrForm
	}
	return p, api.OK
}

// guess answers the only point of which s may be the text, if there is one.
func guess(s string) (complex128, bool) {
	body, ok := strings.CutSuffix(s, "i")
	if !ok || body == "" {
		return 0, false
	}
	// A sign at the very beginning belongs to the first part.
	cut := 1 + strings.IndexAny(body[1:], "+-")
	if cut == 0 {
		return 0, false
	}
	a, bad := strconv.ParseInt(body[:cut], 10, 64)
	if bad != nil {
		return 0, false
	}
	b, bad := strconv.ParseInt(body[cut:], 10, 64)
	if bad != nil {
		return 0, false
	}
	p, e := Made(a, b)
	return p, e == api.OK
}

// within tells whether n may be a part of a point.
func within(n int64) bool { return -api.MaxPart <= n && n <= api.MaxPart }

// whole tells whether x is a number that may be a part of a point.
func whole(x float64) bool {
	// The bounds come first: beyond them (and of no number at all) the
	// conversion to int64 means nothing.
	return -api.MaxPart <= x && x <= api.MaxPart && float64(int64(x)) == x
}

// isPoint tells whether p is a point.
func isPoint(p complex128) bool { return whole(real(p)) && whole(imag(p)) }

// settled answers p, which was reckoned from points, if it is one itself.
// Such a p is exact, for no part that comes up on the way is as great as 2^53.
func settled(p complex128) (complex128, api.Errno) {
	if !isPoint(p) {
		return 0, api.ErrRange
	}
	// By way of int64, which has no -0, a part that is nought becomes +0.
	return Made(int64(real(p)), int64(imag(p)))
}

// power answers i to the power of n.
func power(n int) complex128 {
	// The last two bits are what is left by 4, below nought too.
	switch n & 3 {
	case 1:
		return 1i
	case 2:
		return -1
	case 3:
		return -1i
	}
	return 1
}
