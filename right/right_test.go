package right_test

import (
	"errors"
	"math"
	"slices"
	"testing"

	"bakehouse/api"
	"bakehouse/draw"
	"bakehouse/lots"
	"bakehouse/right"
	"bakehouse/stake"
)

const (
	weights   = 64
	weight    = 1 << 30
	lastCycle = 1 << 20
	lastLevel = 1 << 22
)

// alike is n times the same weight.
func alike(n, weight int) []int { return slices.Repeat([]int{weight}, n) }

// rising is the weights 0 to n - 1.
func rising(n int) []int {
	w := make([]int, n)
	for k := range w {
		w[k] = k
	}
	return w
}

// with is stakes where owner 5 has staked so much with each baker; below 0: it is not registered.
func with(t *testing.T, staked ...int) *stake.Stakes {
	t.Helper()
	s := stake.New()
	for baker, n := range staked {
		if n < 0 {
			continue
		}
		if err := s.Register(baker); err != nil {
			t.Fatal(err)
		}
		if n == 0 {
			continue
		}
		if err := s.Join(5, baker, n); err != nil {
			t.Fatal(err)
		}
	}
	return s
}

func wantPicture(t *testing.T, s *stake.Stakes, want ...int) {
	t.Helper()
	if w := right.Picture(s); !slices.Equal(w, want) {
		t.Errorf("%v, not %v", w, want)
	}
}

// P70: what is staked with each baker, at least MinStake, at most 2^30.
func TestPicture(t *testing.T) {
	for _, c := range []struct{ staked, want []int }{
		{[]int{}, []int{0, 0, 0}},
		{[]int{0, 0, 0}, []int{0, 0, 0}},
		{[]int{1000, 2000, 3000}, []int{1000, 2000, 3000}},
		{[]int{-1, 500, -1}, []int{0, 500, 0}},
		{[]int{1, 99, 100}, []int{0, 0, 100}},
		{[]int{100, 101, 99}, []int{100, 101, 0}},
		{[]int{weight - 1, weight, weight + 1}, []int{weight - 1, weight, weight}},
		{[]int{api.MaxAmount, -1, 1 << 32}, []int{weight, 0, weight}},
	} {
		wantPicture(t, with(t, c.staked...), c.want...)
	}
	wantPicture(t, nil, 0, 0, 0)
}

// P70: of all owners together, with rewards, less what was slashed; what waits is not staked any more.
func TestPictureOfNow(t *testing.T) {
	s := with(t, 99, 150, 400)
	wantPicture(t, s, 0, 150, 400)
	for i, err := range []error{s.Join(4, 0, 1), s.Leave(5, 1, 51, 3), s.Add(2, 40)} {
		if err != nil {
			t.Fatal(i, err)
		}
	}
	wantPicture(t, s, 100, 0, 440)
	if _, err := s.Slash(2, 0, 50); err != nil {
		t.Fatal(err)
	}
	if err := s.Add(1, 1); err != nil {
		t.Fatal(err)
	}
	wantPicture(t, s, 100, 100, 220)
}

// P4: a picture changes no stakes, is new memory, and stays as it was when stakes change.
func TestPictureIsNew(t *testing.T) {
	s := with(t, 1000, 2000, 3000)
	first, second := right.Picture(s), right.Picture(s)
	first[0] = 7
	if err := s.Join(1, 1, 50); err != nil {
		t.Fatal(err)
	}
	if !slices.Equal(second, []int{1000, 2000, 3000}) {
		t.Error(second)
	}
	wantPicture(t, s, 1000, 2050, 3000)
	if s.Staked(0) != 1000 || s.Total() != 6050 {
		t.Error(s.Staked(0), s.Total())
	}
}

// P70, P71: the bakers of all rounds of some levels, worked out by another program.
func TestTold(t *testing.T) {
	for _, c := range []struct {
		w            []int
		seed         uint64
		cycle, level int
		want         []int
	}{
		{[]int{100}, 0, 0, 0, []int{0, 0, 0, 0, 0, 0, 0, 0}},
		{[]int{1, 3}, 0, 0, 0, []int{0, 1, 0, 1, 1, 1, 1, 0}},
		{[]int{1000, 1000, 1000}, 0, 0, 0, []int{2, 0, 1, 1, 1, 2, 2, 2}},
		{[]int{1000, 1000, 1000}, 7, 0, 1, []int{2, 2, 0, 2, 2, 0, 1, 0}},
		{[]int{1000, 1000, 1000}, 7, 1, 0, []int{2, 1, 1, 2, 2, 0, 2, 0}},
		{[]int{0, 0, 100}, 3, 5, 20, []int{2, 2, 2, 2, 2, 2, 2, 2}},
		{[]int{100, 0, weight}, 9, 2, 11, []int{2, 2, 2, 2, 2, 2, 2, 2}},
		{[]int{weight, weight, weight}, math.MaxUint64, lastCycle, lastLevel, []int{1, 2, 1, 0, 2, 2, 1, 2}},
		// A level may be any one, be it of another cycle.
		{[]int{5, 0, 3, 9}, 77, lastCycle, 0, []int{2, 3, 2, 3, 0, 3, 3, 3}},
		{[]int{5, 0, 3, 9}, 77, 0, lastLevel, []int{0, 3, 0, 3, 0, 2, 2, 0}},
		{[]int{1, 2, 3, 4, 5, 6, 7}, 1 << 63, 12, 50, []int{6, 5, 4, 5, 3, 5, 5, 2}},
		{alike(weights, weight), 12, 3, 13, []int{0, 4, 39, 32, 10, 8, 24, 62}},
		{append(alike(60, 0), 1, 0, 2, 1), 12, 3, 13, []int{60, 60, 62, 62, 60, 60, 62, 63}},
		{rising(weights), 0xE220A8397B1DCDAF, 4, 17, []int{34, 48, 55, 35, 52, 62, 49, 46}},
	} {
		l, err := right.Rounds(c.w, c.seed, c.cycle, c.level)
		if !slices.Equal(l, c.want) || err != nil {
			t.Errorf("%v, seed %#x, cycle %d, level %d: %v %v", c.w, c.seed, c.cycle, c.level, l, err)
		}
		for round, want := range c.want {
			k, err := right.Baker(c.w, c.seed, c.cycle, c.level, round)
			if k != want || err != nil {
				t.Errorf("%v, seed %#x, cycle %d, level %d, round %d: %d %v", c.w, c.seed, c.cycle, c.level, round, k, err)
			}
		}
	}
}

// P70, P71: column, then place, of the lots of a mixed seed; with any weights, at any time.
func TestByLots(t *testing.T) {
	roll := lots.New(31)
	below := func(n int) int { k, _ := roll.Below(n); return k }
	for range 3000 {
		w := anyWeights(below)
		seed, cycle, level := roll.Next(), below(lastCycle+1), below(lastLevel+1)
		d, err := draw.New(w)
		if err != nil {
			t.Fatal(w, err)
		}
		l, err := right.Rounds(w, seed, cycle, level)
		if len(l) != api.MaxRounds || err != nil {
			t.Fatal(w, l, err)
		}
		for round, k := range l {
			x := lots.New(lots.Mix(seed, cycle, level, round))
			column, _ := x.Below(d.Columns())
			at, _ := x.Below(d.Height())
			want, _ := d.Pick(column, at)
			one, err := right.Baker(w, seed, cycle, level, round)
			if k != want || one != want || err != nil {
				t.Fatalf("%v, seed %#x, cycle %d, level %d, round %d: %d and %d, not %d (%v)", w, seed, cycle, level, round, k, one, want, err)
			}
			if w[k] == 0 { // P72
				t.Fatalf("%v: %d has a right", w, k)
			}
		}
	}
}

// anyWeights is a list of some weights, of which many are 0, but not all.
func anyWeights(below func(int) int) []int {
	w := make([]int, 1+below(weights))
	for k := range w {
		w[k] = below(2) * min(below(1<<below(32)), weight)
	}
	w[below(len(w))] = 1 + below(weight)
	return w
}

// P72: nobody without weight has a right; P33: all others have, by their weights.
func TestByWeight(t *testing.T) {
	w := right.Picture(with(t, 3000, 99, 1000))
	const levels = 2000
	var often [api.Bakers]int
	for level := range levels {
		l, err := right.Rounds(w, 5, level/api.Blocks, level)
		if err != nil {
			t.Fatal(err)
		}
		for _, k := range l {
			often[k]++
		}
	}
	const quarter = levels * api.MaxRounds / 4
	if often[1] != 0 || often[2] < quarter*9/10 || often[2] > quarter*11/10 || often[0]+often[2] != 4*quarter {
		t.Error(often)
	}
}

// P70, P71: cycle, level and round each make another lot, and so does the seed.
func TestEachNumberCounts(t *testing.T) {
	w := alike(weights, 1)
	base, err := right.Rounds(w, 1, 2, 3)
	if err != nil {
		t.Fatal(err)
	}
	for i, other := range []func() ([]int, error){
		func() ([]int, error) { return right.Rounds(w, 2, 2, 3) },
		func() ([]int, error) { return right.Rounds(w, 1, 3, 3) },
		func() ([]int, error) { return right.Rounds(w, 1, 2, 4) },
		func() ([]int, error) { return right.Rounds(w, 1, 3, 2) },
	} {
		if l, err := other(); slices.Equal(l, base) || err != nil {
			t.Error(i, l, err)
		}
	}
	if slices.Max(base) == slices.Min(base) {
		t.Error(base)
	}
}

// same: is it this error: bare if at is below 0, else with its place?
func same(err, want error, at int) bool {
	var f *api.Fault
	if errors.As(err, &f) {
		return at >= 0 && f.At == at && f.Err == want
	}
	return at < 0 && err == want
}

func wantRefused(t *testing.T, w []int, cycle, level, round int, want error, at int) {
	t.Helper()
	if k, err := right.Baker(w, 9, cycle, level, round); k != 0 || !same(err, want, at) {
		t.Errorf("%v, cycle %d, level %d, round %d: %d %#v", w, cycle, level, round, k, err)
	}
}

func wantNoRounds(t *testing.T, w []int, cycle, level int, want error, at int) {
	t.Helper()
	if l, err := right.Rounds(w, 9, cycle, level); len(l) != 0 || !same(err, want, at) {
		t.Errorf("%v, cycle %d, level %d: %v %#v", w, cycle, level, l, err)
	}
}

// P70, P71, P3: times that are none; that is told ahead of what is wrong with weights, and bare.
func TestNoTime(t *testing.T) {
	for _, w := range [][]int{{0, 0, 7}, nil, {0}, {1, -1}, {1, weight + 1}, alike(weights+1, 1)} {
		for _, n := range []int{math.MinInt, -1, lastCycle + 1, lastLevel + 1, math.MaxInt} {
			wantRefused(t, w, n, 0, 0, api.ErrBound, -1)
			wantNoRounds(t, w, n, 0, api.ErrBound, -1)
		}
		for _, n := range []int{math.MinInt, -1, lastLevel + 1, math.MaxInt} {
			wantRefused(t, w, 0, n, 0, api.ErrBound, -1)
			wantNoRounds(t, w, 0, n, api.ErrBound, -1)
		}
		for _, n := range []int{math.MinInt, -1, 8, 9, math.MaxInt} {
			wantRefused(t, w, 0, 0, n, api.ErrBound, -1)
		}
		wantRefused(t, w, -1, -1, -1, api.ErrBound, -1)
	}
}

// P70: the first and the last ones are times.
func TestTimes(t *testing.T) {
	w := []int{0, 0, 7}
	for _, cycle := range []int{0, lastCycle} {
		for _, level := range []int{0, lastLevel} {
			for _, round := range []int{0, 7} {
				if k, err := right.Baker(w, 9, cycle, level, round); k != 2 || err != nil {
					t.Errorf("cycle %d, level %d, round %d: %d %v", cycle, level, round, k, err)
				}
			}
			if l, err := right.Rounds(w, 9, cycle, level); !slices.Equal(l, alike(8, 2)) || err != nil {
				t.Errorf("cycle %d, level %d: %v %v", cycle, level, l, err)
			}
		}
	}
}

// P70, P71: weights that there is no draw of.
func TestNoDraw(t *testing.T) {
	for _, c := range []struct {
		w   []int
		err error
		at  int
	}{
		{nil, api.ErrShape, -1},
		{[]int{}, api.ErrShape, -1},
		{alike(weights+1, 1), api.ErrShape, -1},
		{[]int{-1}, api.ErrBound, 0},
		{[]int{1, 1, weight + 1}, api.ErrBound, 2},
		{[]int{0, math.MinInt, math.MaxInt}, api.ErrBound, 1},
		{[]int{0}, api.ErrNone, -1},
		{right.Picture(nil), api.ErrNone, -1},
		{right.Picture(with(t, 99, 99, 99)), api.ErrNone, -1},
	} {
		wantRefused(t, c.w, 0, 0, 0, c.err, c.at)
		wantRefused(t, c.w, lastCycle, lastLevel, 7, c.err, c.at)
		wantNoRounds(t, c.w, 0, 0, c.err, c.at)
		wantNoRounds(t, c.w, lastCycle, lastLevel, c.err, c.at)
	}
}

// P2, P3, P4: weights are only read, up to their length; an answer is new memory, and the same whatever was asked ahead.
func TestOnlyReads(t *testing.T) {
	whole := []int{1000, 1000, 1000, -9}
	w := whole[:3]
	want := []int{2, 0, 1, 1, 1, 2, 2, 2}
	for range 3 {
		l, err := right.Rounds(w, 0, 0, 0)
		if !slices.Equal(l, want) || err != nil {
			t.Fatal(l, err)
		}
		l[0] = 99
		if _, err := right.Baker(w, 1, 2, 3, 4); err != nil {
			t.Fatal(err)
		}
		wantRefused(t, whole, 0, 0, 0, api.ErrBound, 3)
	}
	if !slices.Equal(whole, []int{1000, 1000, 1000, -9}) {
		t.Error(whole)
	}
}
