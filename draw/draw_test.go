package draw_test

import (
	"errors"
	"math"
	"slices"
	"testing"

	"bakehouse/api"
	"bakehouse/draw"
)

const (
	weights = 64
	weight  = 1 << 30
)

// made is the draw of weights that are in order.
func made(t *testing.T, w []int) *draw.Draw {
	t.Helper()
	d, err := draw.New(w)
	if d == nil || err != nil {
		t.Fatalf("%v: %v", w, err)
	}
	return d
}

// look is each column's line and other.
func look(t *testing.T, d *draw.Draw) [][2]int {
	t.Helper()
	var l [][2]int
	for k := range d.Columns() {
		line, other, err := d.Column(k)
		if err != nil {
			t.Errorf("column %d: %v", k, err)
		}
		l = append(l, [2]int{line, other})
	}
	return l
}

// alike is n times the same weight.
func alike(n, weight int) []int { return slices.Repeat([]int{weight}, n) }

// with is w with another weight at k.
func with(w []int, k, weight int) []int {
	w = slices.Clone(w)
	w[k] = weight
	return w
}

// P30 and P31: the columns, worked out by hand.
func TestColumns(t *testing.T) {
	for _, c := range []struct {
		w      []int
		height int
		want   [][2]int
	}{
		{[]int{5}, 5, [][2]int{{5, 0}}},
		{[]int{weight}, weight, [][2]int{{weight, 0}}},
		{[]int{1, 3}, 4, [][2]int{{2, 1}, {4, 1}}},
		{[]int{3, 1}, 4, [][2]int{{4, 0}, {2, 0}}},
		{[]int{0, 1}, 1, [][2]int{{0, 1}, {1, 1}}},
		{[]int{2, 2, 2}, 6, [][2]int{{6, 0}, {6, 1}, {6, 2}}},
		// A rest that is the height is a great one.
		{[]int{1, 6, 2, 3}, 12, [][2]int{{4, 1}, {12, 1}, {8, 1}, {12, 3}}},
		// The first great one gives, be it the lesser one; what it lacks then comes from the next.
		{[]int{0, 2, 4}, 6, [][2]int{{0, 1}, {0, 2}, {6, 2}}},
		{[]int{4, 2, 0}, 6, [][2]int{{6, 0}, {6, 1}, {0, 0}}},
		// A great one that is still great stays the first.
		{[]int{0, 0, 5, 4}, 9, [][2]int{{0, 2}, {0, 2}, {2, 3}, {9, 3}}},
		// Also one whose rest is just the height by then.
		{[]int{0, 1, 3, 3, 3}, 10, [][2]int{{0, 2}, {5, 3}, {5, 3}, {5, 4}, {10, 4}}},
		// One that becomes small goes behind those that are small already.
		{[]int{0, 1, 4, 3, 4}, 12, [][2]int{{0, 2}, {5, 3}, {8, 4}, {8, 4}, {12, 4}}},
		// Rows rise by number, not by rest.
		{[]int{1, 0, 3, 4}, 8, [][2]int{{4, 2}, {0, 2}, {0, 3}, {8, 3}}},
	} {
		d := made(t, c.w)
		if got := look(t, d); d.Height() != c.height || d.Columns() != len(c.w) || !slices.Equal(got, c.want) {
			t.Errorf("%v: height %d, %d columns: %v", c.w, d.Height(), d.Columns(), got)
		}
	}
}

// P30: as many weights, and as great ones, as there may be.
func TestMostWeights(t *testing.T) {
	d := made(t, alike(weights, weight))
	if d.Height() != weights*weight || d.Columns() != weights {
		t.Errorf("height %d, %d columns", d.Height(), d.Columns())
	}
	for k, c := range look(t, d) {
		if c != [2]int{weights * weight, k} {
			t.Errorf("column %d: %v", k, c)
		}
	}
	d = made(t, with(alike(weights, 0), weights-1, weight))
	for k, c := range look(t, d)[:weights-1] {
		if c != [2]int{0, weights - 1} {
			t.Errorf("column %d: %v", k, c)
		}
	}
	d = made(t, with(alike(weights, weight), 1, 0))
	if line, other, err := d.Column(1); line != 0 || other != 0 || err != nil || d.Height() != (weights-1)*weight {
		t.Errorf("line %d, other %d, height %d, %v", line, other, d.Height(), err)
	}
}

// P30: what is refused, and which error comes first; no draw comes with it (P3).
func TestNewRefused(t *testing.T) {
	for _, c := range []struct {
		w   []int
		at  int // -1: no place is told
		err error
	}{
		{nil, -1, api.ErrShape},
		{[]int{}, -1, api.ErrShape},
		{alike(weights+1, 1), -1, api.ErrShape},
		{alike(weights+1, 0), -1, api.ErrShape},
		{alike(weights+1, -1), -1, api.ErrShape},
		{alike(1000, weight+1), -1, api.ErrShape},
		{[]int{-1}, 0, api.ErrBound},
		{[]int{weight + 1}, 0, api.ErrBound},
		{[]int{1, -1}, 1, api.ErrBound},
		{[]int{1, -1, weight + 1}, 1, api.ErrBound},
		{[]int{1, weight + 1, -1}, 1, api.ErrBound},
		{[]int{0, 0, math.MinInt}, 2, api.ErrBound},
		{[]int{0, math.MaxInt, math.MaxInt}, 1, api.ErrBound},
		{[]int{-1, 1}, 0, api.ErrBound}, // together they are 0
		{with(alike(weights, weight), weights-1, weight+1), weights - 1, api.ErrBound},
		{[]int{0}, -1, api.ErrNone},
		{alike(weights, 0), -1, api.ErrNone},
	} {
		d, err := draw.New(c.w)
		if d != nil {
			t.Errorf("%v: a draw with %v", c.w, err)
		}
		var f *api.Fault
		if errors.As(err, &f) != (c.at >= 0) || c.at >= 0 && (f.At != c.at || f.Err != c.err) || c.at < 0 && err != c.err {
			t.Errorf("%v: %#v", c.w, err)
		}
	}
}

// P32: below the line its own number, from it on the other one.
func TestPick(t *testing.T) {
	for _, w := range [][]int{{1, 3}, {5}, {0, 1}, {2, 2, 2}, {1, 6, 2, 3}, {0, 1, 4, 3, 4}} {
		d := made(t, w)
		for k, c := range look(t, d) {
			for at := range d.Height() {
				want := k
				if at >= c[0] {
					want = c[1]
				}
				if n, err := d.Pick(k, at); n != want || err != nil {
					t.Errorf("%v: Pick(%d, %d): %d, %v", w, k, at, n, err)
				}
			}
		}
	}
	d := made(t, []int{weight, weight - 1})
	for _, c := range [][3]int{
		{0, 0, 0}, {0, 2*weight - 2, 0}, {1, 0, 1}, {1, 2*weight - 3, 1}, {1, 2*weight - 2, 0},
	} {
		if n, err := d.Pick(c[0], c[1]); n != c[2] || err != nil {
			t.Errorf("Pick(%d, %d): %d, %v", c[0], c[1], n, err)
		}
	}
}

func wantNoPick(t *testing.T, d *draw.Draw, column, at int) {
	t.Helper()
	if n, err := d.Pick(column, at); n != 0 || err != api.ErrBound {
		t.Errorf("Pick(%d, %d): %d, %v", column, at, n, err)
	}
}

func wantNoColumn(t *testing.T, d *draw.Draw, k int) {
	t.Helper()
	if line, other, err := d.Column(k); line != 0 || other != 0 || err != api.ErrBound {
		t.Errorf("Column(%d): %d, %d, %v", k, line, other, err)
	}
}

// P32: numbers that are none; the error is bare and the rest 0 (P3).
func TestOutOfBound(t *testing.T) {
	for _, w := range [][]int{{5}, {0, 1}, {1, 3}, {9, 1, 1}, alike(weights, weight)} {
		d := made(t, w)
		for _, k := range []int{-1, len(w), len(w) + 1, math.MinInt, math.MaxInt} {
			wantNoColumn(t, d, k)
			wantNoPick(t, d, k, 0)
			wantNoPick(t, d, k, d.Height()-1)
			wantNoPick(t, d, k, -1)
		}
		for k := range w {
			for _, at := range []int{-1, d.Height(), d.Height() + 1, math.MinInt, math.MaxInt} {
				wantNoPick(t, d, k, at)
			}
		}
	}
}

// P1: also what New gives with an error can be asked.
func TestNoDraw(t *testing.T) {
	d, _ := draw.New(nil)
	if d.Height() != 0 || d.Columns() != 0 {
		t.Errorf("height %d, %d columns", d.Height(), d.Columns())
	}
	wantNoColumn(t, d, 0)
	wantNoPick(t, d, 0, 0)
}

// wantJust: each number has just its weight times how many columns, of all places (P33), and lines are within the height (P30).
func wantJust(t *testing.T, w []int, d *draw.Draw) {
	t.Helper()
	has := make([]int, len(w))
	for k, c := range look(t, d) {
		if c[0] < 0 || c[0] > d.Height() {
			t.Errorf("%v: line %d of height %d", w, c[0], d.Height())
		}
		has[k] += c[0]
		has[c[1]] += d.Height() - c[0]
	}
	for k := range w {
		if has[k] != w[k]*len(w) {
			t.Errorf("%v: %d has %d places", w, k, has[k])
		}
	}
}

// wantJustPicks is P33, place by place.
func wantJustPicks(t *testing.T, w []int, d *draw.Draw) {
	t.Helper()
	has := make([]int, len(w))
	for k := range d.Columns() {
		for at := range d.Height() {
			n, err := d.Pick(k, at)
			if err != nil {
				t.Fatalf("%v: Pick(%d, %d): %v", w, k, at, err)
			}
			has[n]++
		}
	}
	for k := range w {
		if has[k] != w[k]*len(w) {
			t.Errorf("%v: %d comes at %d places", w, k, has[k])
		}
	}
}

// P33: of all lists of few small weights.
func TestJustOfSmall(t *testing.T) {
	for n := 1; n <= 5; n++ {
		w := make([]int, n)
		for next(w, 4) {
			d := made(t, w)
			wantJust(t, w, d)
			wantJustPicks(t, w, d)
		}
	}
}

// next makes of w the list after it, of weights up to most; false: there is none.
func next(w []int, most int) bool {
	for k := range w {
		if w[k] < most {
			w[k]++
			return true
		}
		w[k] = 0
	}
	return false
}

// P33: of many and of great weights, at all lengths of list.
func TestJustOfGreat(t *testing.T) {
	r := uint64(7)
	roll := func(n int) int {
		r = r*6364136223846793005 + 1442695040888963407
		return int(r>>33) % n
	}
	for n := 1; n <= weights; n++ {
		for width := 1; width <= 31; width++ {
			w := make([]int, n)
			for k := range w {
				w[k] = min(roll(1<<roll(width+1)), weight)
			}
			w[roll(n)] = min(1<<width, weight)
			wantJust(t, w, made(t, w))
		}
	}
}

// P3 and P4: a list is only read, up to its length, and not kept.
func TestListIsNotKept(t *testing.T) {
	whole := []int{1, 3, -9}
	d := made(t, whole[:2])
	if !slices.Equal(whole, []int{1, 3, -9}) {
		t.Error(whole)
	}
	whole[0], whole[1] = 100, 0
	if got := look(t, d); d.Height() != 4 || !slices.Equal(got, [][2]int{{2, 1}, {4, 1}}) {
		t.Error(d.Height(), got)
	}
	if n, err := d.Pick(0, 2); n != 1 || err != nil {
		t.Error(n, err)
	}
}
