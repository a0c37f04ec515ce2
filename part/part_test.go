package part_test

import (
	"errors"
	"math"
	"math/big"
	"math/bits"
	"slices"
	"testing"

	"bakehouse/api"
	"bakehouse/part"
)

const (
	most  = api.MaxAmount
	scale = 1000000
)

// P10: ordinary amounts and the edges.
func TestParts(t *testing.T) {
	for _, c := range []struct{ a, b, c, down, up int }{
		{10, 2, 3, 6, 7},
		{10, 2, 4, 5, 5},
		{10, 10, 20, 5, 5},
		{1, 1, 2, 0, 1},
		{0, 0, 1, 0, 0},
		{0, most, most, 0, 0},
		{most, 0, 1, 0, 0},
		{1, 1, most, 0, 1},
		{most, 1, 1, most, most},
		{most, most, most, most, most},
		{most - 1, most - 1, most, most - 2, most - 1},
		{most, most - 1, most, most - 1, most - 1},
		{most, 2, 3, 750599937895082, 750599937895083},
	} {
		if n, err := part.Down(c.a, c.b, c.c); n != c.down || err != nil {
			t.Errorf("Down(%d, %d, %d): %d, %v", c.a, c.b, c.c, n, err)
		}
		if n, err := part.Up(c.a, c.b, c.c); n != c.up || err != nil {
			t.Errorf("Up(%d, %d, %d): %d, %v", c.a, c.b, c.c, n, err)
		}
	}
}

// P10: what is none of the amounts, and what comes beyond them; the error is bare and the number 0 (P3).
func TestPartsOutOfBound(t *testing.T) {
	for _, c := range [][3]int{
		{-1, 1, 1}, {1, -1, 1}, {1, 1, -1}, {-1, -1, 1}, {-1, -1, -1},
		{1, 1, 0}, {0, 0, 0}, {most, most, 0},
		{most + 1, 1, 1}, {1, most + 1, 1}, {1, 1, most + 1},
		{most + 1, 0, 1}, {0, most + 1, 1}, {0, 0, most + 1}, {0, -1, 1}, {-1, 0, 1},
		{math.MinInt, 1, 1}, {1, math.MinInt, 1}, {1, 1, math.MinInt},
		{math.MaxInt, 1, 1}, {1, math.MaxInt, 1}, {1, 1, math.MaxInt},
		{math.MaxInt, math.MaxInt, math.MaxInt},
		{most, 2, 1}, {most, most, 1}, {most, most, most - 1},
		{most, most, 1 << 36}, {most, most, 1<<36 + 1}, // where the quotient just fits a machine word
		{most/2 + 1, 2, 1},
	} {
		wantBeyond(t, c[0], c[1], c[2])
	}
}

// P10: (most-1)^2 is most*(most-2) and 1 more: down it is still an amount, up it is none.
func TestOnlyUpIsBeyond(t *testing.T) {
	if n, err := part.Down(most-1, most-1, most-2); n != most || err != nil {
		t.Errorf("Down: %d, %v", n, err)
	}
	if n, err := part.Up(most-1, most-1, most-2); n != 0 || err != api.ErrBound {
		t.Errorf("Up: %d, %v", n, err)
	}
}

// P10: the product is 2^65-1, so its half is 2^64-1 down, and 2^64 up; and some more where the quotient fills a word.
func TestQuotientFillsAWord(t *testing.T) {
	wantBeyond(t, 145295143558111, 253921, 2)
	wantBeyond(t, 253921, 145295143558111, 2)
	for _, c := range []int{1 << 20, 1000003, 1 << 27, 1<<30 - 1, 1<<33 + 7, 1 << 34} {
		found := 0
		for a := c<<15 + 1; a <= most && found < 5; a++ {
			// The greatest b for which the product is less than c times 2^64.
			b, left := bits.Div64(uint64(c-1), math.MaxUint64, uint64(a))
			if left < uint64(c)-1 {
				found++
				wantBeyond(t, a, int(b), c)
				holdAgainstBig(t, a, int(b), c)
			}
		}
		if found < 5 {
			t.Errorf("over %d: only %d found", c, found)
		}
	}
}

// P10: quotients around those that fill a word, with and without something left.
func TestQuotientNearAWord(t *testing.T) {
	for _, c := range []int{1, 2, 3, 5, 1 << 20, 1<<36 - 1} {
		for _, a := range []int{1 << 32, 1<<32 - 1, 1<<32 + 1, 1 << 40, 1 << 49, most - 1, most} {
			if a < c<<14 {
				continue // b would be no amount
			}
			near, _ := bits.Div64(uint64(c-1), math.MaxUint64, uint64(a))
			for b := int(near) - 2; b <= min(int(near)+2, most); b++ {
				holdAgainstBig(t, a, b, c)
				holdAgainstBig(t, b, a, c)
			}
		}
	}
}

func wantBeyond(t *testing.T, a, b, c int) {
	t.Helper()
	if n, err := part.Down(a, b, c); n != 0 || err != api.ErrBound {
		t.Errorf("Down(%d, %d, %d): %d, %v", a, b, c, n, err)
	}
	if n, err := part.Up(a, b, c); n != 0 || err != api.ErrBound {
		t.Errorf("Up(%d, %d, %d): %d, %v", a, b, c, n, err)
	}
}

// within is n where it is an amount; else what a call must tell instead.
func within(n *big.Int) (int, error) {
	if n.Cmp(big.NewInt(most)) > 0 {
		return 0, api.ErrBound
	}
	return int(n.Int64()), nil
}

// P10 and P12, held against numbers of any length.
func TestPartsAgainstBig(t *testing.T) {
	l := []int{0, 1, 2, 3, 7, 100, 999983, 1<<25 - 1, 1 << 25, 1<<36 - 1, 1 << 36, 123456789012345, most/3 + 1, most/2 - 1, most / 2, most/2 + 1, most - 3, most - 2, most - 1, most}
	for _, a := range l {
		for _, b := range l {
			for _, c := range l[1:] {
				holdAgainstBig(t, a, b, c)
			}
		}
	}
}

func holdAgainstBig(t *testing.T, a, b, c int) {
	t.Helper()
	product := new(big.Int).Mul(big.NewInt(int64(a)), big.NewInt(int64(b)))
	whole, rest := new(big.Int).QuoRem(product, big.NewInt(int64(c)), new(big.Int))
	wantDown, wantDownErr := within(whole)
	if rest.Sign() > 0 {
		whole.Add(whole, big.NewInt(1))
	}
	wantUp, wantUpErr := within(whole)
	down, downErr := part.Down(a, b, c)
	if down != wantDown || downErr != wantDownErr {
		t.Errorf("Down(%d, %d, %d): %d, %v", a, b, c, down, downErr)
	}
	up, upErr := part.Up(a, b, c)
	if up != wantUp || upErr != wantUpErr {
		t.Errorf("Up(%d, %d, %d): %d, %v", a, b, c, up, upErr)
	}
	if downErr == nil && upErr == nil && (up < down || up > down+1) {
		t.Errorf("%d, %d, %d: down %d, up %d", a, b, c, down, up)
	}
}

// rising is a bend of n points, all with the Y 5.
func rising(n int) []api.Point {
	var l []api.Point
	for i := range n {
		l = append(l, api.Point{X: i, Y: 5})
	}
	return l
}

// P11: what is a bend.
func TestCheckTakes(t *testing.T) {
	for _, l := range [][]api.Point{
		rising(2),
		rising(api.MaxPoints),
		{{X: 0, Y: 0}, {X: scale, Y: scale}},
		{{X: 0, Y: scale}, {X: scale, Y: 0}},
		{{X: scale - 1, Y: 3}, {X: scale, Y: 3}},
	} {
		if err := part.Check(l); err != nil {
			t.Errorf("%v: %v", l, err)
		}
	}
}

type wrongBend struct {
	l    []api.Point
	at   int // -1: no place is told
	want error
}

func wrongBends() []wrongBend {
	return []wrongBend{
		{nil, -1, api.ErrShape},
		{[]api.Point{}, -1, api.ErrShape},
		{rising(1), -1, api.ErrShape},
		{rising(api.MaxPoints + 1), -1, api.ErrShape},
		{[]api.Point{{X: -1}}, -1, api.ErrShape},
		{make([]api.Point, api.MaxPoints+1), -1, api.ErrShape},
		{[]api.Point{{X: -1}, {X: 1}}, 0, api.ErrBound},
		{[]api.Point{{Y: -1}, {X: 1}}, 0, api.ErrBound},
		{[]api.Point{{X: scale + 1}, {X: scale + 2}}, 0, api.ErrBound},
		{[]api.Point{{Y: scale + 1}, {X: 1}}, 0, api.ErrBound},
		{[]api.Point{{}, {X: scale + 1}}, 1, api.ErrBound},
		{[]api.Point{{}, {X: 1, Y: scale + 1}}, 1, api.ErrBound},
		{[]api.Point{{}, {X: 1, Y: -1}}, 1, api.ErrBound},
		{[]api.Point{{}, {X: math.MaxInt, Y: math.MinInt}}, 1, api.ErrBound},
		{[]api.Point{{X: 1}, {X: 1}}, 1, api.ErrShape},
		{[]api.Point{{X: 2}, {X: 1}}, 1, api.ErrShape},
		{[]api.Point{{}, {}}, 1, api.ErrShape},
		{[]api.Point{{X: 1}, {X: 2}, {X: 2, Y: 9}}, 2, api.ErrShape},
		{append(rising(api.MaxPoints-1), api.Point{X: 3}), api.MaxPoints - 1, api.ErrShape},
		// One point that is wrong in both ways: its bound is told.
		{[]api.Point{{X: 1}, {X: 1, Y: -1}}, 1, api.ErrBound},
		{[]api.Point{{X: 1}, {X: -1}}, 1, api.ErrBound},
		// Two wrong points: the first is told, in whichever way it is wrong.
		{[]api.Point{{X: 1}, {X: 1}, {X: -1}}, 1, api.ErrShape},
		{[]api.Point{{X: 1}, {X: 2, Y: -1}, {X: 2}}, 1, api.ErrBound},
	}
}

func wantWrong(t *testing.T, c wrongBend, err error) {
	t.Helper()
	if c.at < 0 {
		if err != c.want {
			t.Errorf("%v: %v", c.l, err)
		}
		return
	}
	var f *api.Fault
	if !errors.As(err, &f) || f.At != c.at || f.Err != c.want {
		t.Errorf("%v: %#v", c.l, err)
	}
}

// P11: what is no bend; Bend tells that ahead of what is wrong with x.
func TestWrongBends(t *testing.T) {
	for _, c := range wrongBends() {
		wantWrong(t, c, part.Check(c.l))
		for _, x := range []int{0, 1, scale, -1, scale + 1} {
			n, err := part.Bend(c.l, x)
			wantWrong(t, c, err)
			if n != 0 {
				t.Errorf("%v at %d: %d", c.l, x, n)
			}
		}
	}
}

// P11: ahead of the points, on them, between them, behind them; down also where it falls.
func TestBend(t *testing.T) {
	l := []api.Point{{X: 10, Y: 100}, {X: 13, Y: 0}, {X: 20, Y: 7}, {X: 23, Y: 17}, {X: 26, Y: 17}, {X: 33, Y: 16}}
	for _, c := range [][2]int{
		{0, 100}, {9, 100}, {10, 100}, {11, 66}, {12, 33}, {13, 0}, {14, 1}, {19, 6}, {20, 7},
		{21, 10}, {22, 13}, {23, 17}, {24, 17}, {26, 17}, {27, 16}, {32, 16}, {33, 16}, {34, 16}, {scale, 16},
	} {
		if n, err := part.Bend(l, c[0]); n != c[1] || err != nil {
			t.Errorf("at %d: %d, %v; not %d", c[0], n, err, c[1])
		}
	}
}

// P11: bends over the whole scale.
func TestBendOfWholeScale(t *testing.T) {
	up := []api.Point{{X: 0, Y: 0}, {X: scale, Y: scale}}
	down := []api.Point{{X: 0, Y: scale}, {X: scale, Y: 0}}
	flatter := []api.Point{{X: 0, Y: 1}, {X: scale, Y: 0}}
	for _, x := range []int{0, 1, 2, 499999, 500000, 500001, scale - 1, scale} {
		if n, err := part.Bend(up, x); n != x || err != nil {
			t.Errorf("up at %d: %d, %v", x, n, err)
		}
		if n, err := part.Bend(down, x); n != scale-x || err != nil {
			t.Errorf("down at %d: %d, %v", x, n, err)
		}
	}
	for x, want := range map[int]int{0: 1, 1: 0, scale - 1: 0, scale: 0} {
		if n, err := part.Bend(flatter, x); n != want || err != nil {
			t.Errorf("flatter at %d: %d, %v", x, n, err)
		}
	}
}

// P11: an x that is none; the error is bare.
func TestBendAtWrongX(t *testing.T) {
	for _, x := range []int{-1, scale + 1, math.MinInt, math.MaxInt} {
		if n, err := part.Bend(rising(3), x); n != 0 || err != api.ErrBound {
			t.Errorf("at %d: %d, %v", x, n, err)
		}
	}
}

// P12: at each x a bend is within the Ys of the points around it, and so of all its points.
func TestBendWithinItsPoints(t *testing.T) {
	for width := 1; width <= 12; width++ {
		for from := 0; from <= 13; from++ {
			for to := 0; to <= 13; to++ {
				holdWithin(t, api.Point{X: 3, Y: from}, api.Point{X: 3 + width, Y: to})
			}
		}
	}
	holdWithin(t, api.Point{X: 0, Y: scale}, api.Point{X: 7, Y: scale - 1})
	holdWithin(t, api.Point{X: scale - 7, Y: 0}, api.Point{X: scale, Y: scale})
}

func holdWithin(t *testing.T, p, q api.Point) {
	t.Helper()
	low, high := min(p.Y, q.Y), max(p.Y, q.Y)
	for x := max(p.X-1, 0); x <= min(q.X+1, scale); x++ {
		if n, err := part.Bend([]api.Point{p, q}, x); n < low || n > high || err != nil {
			t.Errorf("%v, %v at %d: %d, %v", p, q, x, n, err)
		}
	}
}

// P3 and P4: what lies behind a list's length does not count, and nothing of a list is written.
func TestListIsOnlyRead(t *testing.T) {
	whole := []api.Point{{X: 1, Y: 8}, {X: 3, Y: 2}, {X: 2, Y: -9}}
	before := slices.Clone(whole)
	if err := part.Check(whole[:2]); err != nil {
		t.Error(err)
	}
	if n, err := part.Bend(whole[:2], 2); n != 5 || err != nil {
		t.Error(n, err)
	}
	if err := part.Check(whole[:1]); err != api.ErrShape {
		t.Error(err)
	}
	if !slices.Equal(whole, before) {
		t.Error(whole)
	}
}
