// Package part: parts of amounts: see ../shared/doc/01-part.md.
package part

import (
	"math/bits"

	"bakehouse/api"
	"bakehouse/bound"
)

// Down: a times b over c.
func Down(a, b, c int) (int, error) {
	whole, _, err := over(a, b, c)
	return whole, err
}

// Up: a times b over c.
func Up(a, b, c int) (int, error) {
	whole, rest, err := over(a, b, c)
	if err != nil || rest == 0 {
		return whole, err
	}
	if whole == api.MaxAmount {
		return 0, api.ErrBound
	}
	return whole + 1, nil
}

// Check a bend.
func Check(l []api.Point) error {
	if len(l) < 2 || len(l) > api.MaxPoints {
		return api.ErrShape
	}
	for i, p := range l {
		if !bound.Millionths(p.X) || !bound.Millionths(p.Y) {
			return &api.Fault{At: i, Err: api.ErrBound}
		}
		if i > 0 && p.X <= l[i-1].X {
			return &api.Fault{At: i, Err: api.ErrShape}
		}
	}
	return nil
}

// Bend at x.
func Bend(l []api.Point, x int) (int, error) {
	if err := Check(l); err != nil {
		return 0, err
	}
	if !bound.Millionths(x) {
		return 0, api.ErrBound
	}
	if x < l[0].X {
		return l[0].Y, nil
	}
	for i, next := range l[1:] {
		if x < next.X {
			return between(l[i], next, x), nil
		}
	}
	return l[len(l)-1].Y, nil
}

// over tells a times b over c, down, and what is left of the product.
func over(a, b, c int) (whole, rest int, err error) {
	if !bound.Amount(a) || !bound.Amount(b) || !bound.Some(c) {
		return 0, 0, api.ErrBound
	}
	high, low := bits.Mul64(uint64(a), uint64(b))
	// Div64 panics where the quotient does not fit one word; such a one is beyond MaxAmount anyway.
	if high >= uint64(c) {
		return 0, 0, api.ErrBound
	}
	quotient, left := bits.Div64(high, low, uint64(c))
	// Bounded while it is still a word: one that fills the word is no int, and would wrap if 1 were added.
	if quotient > api.MaxAmount {
		return 0, 0, api.ErrBound
	}
	return int(quotient), int(left), nil
}

// between is a bend's height at x, which lies from p up to next, next aside.
func between(p, next api.Point, x int) int {
	return p.Y + floor((next.Y-p.Y)*(x-p.X), next.X-p.X)
}

// floor is n over d, d above 0; Go's own division would go up where n is below 0.
func floor(n, d int) int {
	whole := n / d
	if n%d < 0 {
		whole--
	}
	return whole
}
