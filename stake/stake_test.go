package stake_test

import (
	"math"
	"slices"
	"testing"

	"bakehouse/api"
	"bakehouse/stake"
)

const (
	most = api.MaxAmount
	last = api.MaxCycle
)

// cycles that are looked at; those outside of 0 to MaxCycle never have anything.
var cycles = [...]int{-1, 0, 1, 2, 3, 4, 5, 6, 7, 8, 9, last - 3, last - 2, last - 1, last, last + 1}

// state is all that stakes tell, of numbers that are no bakers and no owners, too.
type state struct {
	is     [api.Bakers + 2]bool
	staked [api.Bakers + 2]int
	value  [api.Bakers + 2][api.Owners + 2]int
	waits  [api.Bakers + 2][api.Owners + 2][len(cycles)]int
	total  int
}

func look(s *stake.Stakes) state {
	now := state{total: s.Total()}
	for b := range now.is {
		now.is[b], now.staked[b] = s.Is(b-1), s.Staked(b-1)
		for o := range now.value[b] {
			now.value[b][o] = s.Value(o-1, b-1)
			for i, c := range cycles {
				now.waits[b][o][i] = s.Waits(o-1, b-1, c)
			}
		}
	}
	return now
}

type step = func(*stake.Stakes) error

func register(baker int) step {
	return func(s *stake.Stakes) error { return s.Register(baker) }
}

func join(owner, baker, n int) step {
	return func(s *stake.Stakes) error { return s.Join(owner, baker, n) }
}

func leave(owner, baker, n, cycle int) step {
	return func(s *stake.Stakes) error { return s.Leave(owner, baker, n, cycle) }
}

func add(baker, n int) step {
	return func(s *stake.Stakes) error { return s.Add(baker, n) }
}

func slash(baker, from, percent int) step {
	return func(s *stake.Stakes) error { _, err := s.Slash(baker, from, percent); return err }
}

func free(owner, cycle int) step {
	return func(s *stake.Stakes) error { _, err := s.Free(owner, cycle); return err }
}

// made is stakes after steps, none of which may fail.
func made(t *testing.T, steps ...step) *stake.Stakes {
	t.Helper()
	s := stake.New()
	for i, step := range steps {
		if err := step(s); err != nil {
			t.Fatalf("step %d: %v", i, err)
		}
	}
	return s
}

// probes show shares, too, that no call tells at once.
func probes() []step {
	all := []step{register(0), register(1), register(2)}
	for b := range api.Bakers {
		all = append(all, join(5, b, 1000), add(b, 77), leave(0, b, 1, 4), slash(b, 4, 13), join(1, b, 9), leave(1, b, 5, 5))
	}
	for o := range api.Owners {
		all = append(all, free(o, 7), free(o, last))
	}
	return all
}

// wantRefused: after these steps a call answers this error, bare, and no later call can tell that it was made (P3).
func wantRefused(t *testing.T, steps []step, call step, want error) {
	t.Helper()
	s, twin := made(t, steps...), made(t, steps...)
	if err := call(s); err != want {
		t.Errorf("%v; want %v", err, want)
	}
	if look(s) != look(twin) {
		t.Errorf("changed by a call that failed (%v)", want)
	}
	for i, p := range probes() {
		e1, e2 := p(s), p(twin)
		if e1 != e2 || look(s) != look(twin) {
			t.Fatalf("a call that failed (%v) is seen by probe %d: %v, %v", want, i, e1, e2)
		}
	}
}

// wantNumber: what a call that answers a number and an error answers.
func wantNumber(t *testing.T, what string, n int, err error, want int) {
	t.Helper()
	if n != want || err != nil {
		t.Errorf("%s: %d, %v; want %d", what, n, err, want)
	}
}

var noBakers = []int{math.MinInt, -1, api.Bakers, api.Owners - 1, most, math.MaxInt}

var noOwners = []int{math.MinInt, -1, api.Owners, most, math.MaxInt}

var noCycles = []int{math.MinInt, -1, last + 1, math.MaxInt - 1, math.MaxInt}

var noSums = []int{math.MinInt, -1, 0, most + 1, math.MaxInt}

// P60: new stakes have no baker and nothing staked, and each are ones of their own.
func TestNew(t *testing.T) {
	s, other := stake.New(), stake.New()
	for _, step := range []step{register(0), join(0, 0, 5), leave(0, 0, 2, 3)} {
		if err := step(s); err != nil {
			t.Fatal(err)
		}
	}
	if look(other) != (state{}) {
		t.Error(look(other))
	}
}

// P60: which bakers may register; each just once, also when something is staked with it.
func TestRegister(t *testing.T) {
	s := stake.New()
	for _, b := range []int{2, 0, 1} {
		if s.Is(b) {
			t.Errorf("%d is registered", b)
		}
		if err := s.Register(b); err != nil || !s.Is(b) {
			t.Errorf("Register(%d): %v", b, err)
		}
	}
	staked := []step{register(1), join(4, 1, 7), leave(4, 1, 3, 4)}
	wantRefused(t, staked[:1], register(1), api.ErrExist)
	wantRefused(t, staked, register(1), api.ErrExist)
	for _, b := range noBakers {
		wantRefused(t, staked, register(b), api.ErrBound)
		if made(t, staked...).Is(b) {
			t.Errorf("%d is registered", b)
		}
	}
}

// P60: a join goes to that baker's pool alone, for shares as pools count them.
func TestJoin(t *testing.T) {
	s := made(t, register(0), register(1), join(0, 0, 10), add(0, 10), join(1, 0, 10), join(1, 1, 3), join(1, 0, 4))
	for i, c := range []struct{ got, want int }{
		{s.Staked(0), 34}, {s.Staked(1), 3}, {s.Staked(2), 0}, {s.Total(), 37},
		{s.Value(0, 0), 20}, {s.Value(1, 0), 14}, {s.Value(1, 1), 3}, {s.Value(0, 1), 0},
	} {
		if c.got != c.want {
			t.Errorf("%d: %d; want %d", i, c.got, c.want)
		}
	}
	if s := made(t, register(2), join(5, 2, most)); s.Staked(2) != most || s.Value(5, 2) != most || s.Total() != most {
		t.Error(s.Staked(2), s.Value(5, 2), s.Total())
	}
}

// P60: a join's errors: no such baker, then the pool's.
func TestJoinErrors(t *testing.T) {
	steps := []step{register(0), join(0, 0, 10)}
	for _, b := range append([]int{1, 2}, noBakers...) {
		wantRefused(t, steps, join(0, b, 5), api.ErrNone)
		wantRefused(t, steps, join(-1, b, 5), api.ErrNone)
		wantRefused(t, steps, join(0, b, 0), api.ErrNone)
	}
	for _, o := range noOwners {
		wantRefused(t, steps, join(o, 0, 5), api.ErrBound)
	}
	for _, n := range noSums {
		wantRefused(t, steps, join(0, 0, n), api.ErrBound)
	}
	wantRefused(t, steps, join(0, 0, most-9), api.ErrBound)
	wantRefused(t, append(steps, add(0, 10)), join(1, 0, 1), api.ErrSmall)
	wantRefused(t, append(steps, slash(0, 0, 100)), join(1, 0, 1), api.ErrGone)
}

// P61: what leaves waits in that baker's pool of that cycle, and in no other one.
func TestLeave(t *testing.T) {
	s := made(t, register(0), register(2), join(1, 0, 100), join(4, 0, 50), join(1, 2, 30),
		leave(1, 0, 20, 4), leave(4, 0, 1, 4), leave(1, 0, 5, 4), leave(1, 0, 7, 5), leave(1, 2, 30, 4), leave(4, 0, 2, 0), leave(4, 0, 3, last))
	want := state{
		is:     [5]bool{1: true, 3: true},
		staked: [5]int{1: 112},
		total:  180,
	}
	want.value[1][2], want.value[1][5] = 68, 44
	at := func(cycle int) int { return slices.Index(cycles[:], cycle) }
	want.waits[1][2][at(4)], want.waits[1][2][at(5)], want.waits[3][2][at(4)] = 25, 7, 30
	want.waits[1][5][at(4)], want.waits[1][5][at(0)], want.waits[1][5][at(last)] = 1, 2, 3
	if now := look(s); now != want {
		t.Errorf("%v; want %v", now, want)
	}
}

// P61: what is staked and what waits are worth what their own pools say: a reward is for those who stay.
func TestLeaveThenAdd(t *testing.T) {
	s := made(t, register(0), join(0, 0, 10), join(1, 0, 10), leave(1, 0, 10, 3), add(0, 5))
	if s.Value(0, 0) != 15 || s.Value(1, 0) != 0 || s.Waits(1, 0, 3) != 10 || s.Waits(0, 0, 3) != 0 || s.Total() != 25 {
		t.Error(s.Value(0, 0), s.Value(1, 0), s.Waits(1, 0, 3), s.Waits(0, 0, 3), s.Total())
	}
}

// P61: a leave's errors in their order: no such baker, the cycle, then Take's.
func TestLeaveErrors(t *testing.T) {
	steps := []step{register(0), join(0, 0, 10), join(1, 0, 5), leave(1, 0, 1, 4)}
	for _, b := range append([]int{1, 2}, noBakers...) {
		wantRefused(t, steps, leave(0, b, 5, 4), api.ErrNone)
		wantRefused(t, steps, leave(-1, b, 0, -1), api.ErrNone)
	}
	for _, c := range noCycles {
		wantRefused(t, steps, leave(0, 0, 5, c), api.ErrBound)
		wantRefused(t, steps, leave(0, 0, 11, c), api.ErrBound)
	}
	for _, o := range noOwners {
		wantRefused(t, steps, leave(o, 0, 5, 4), api.ErrBound)
	}
	for _, n := range noSums {
		wantRefused(t, steps, leave(0, 0, n, 4), api.ErrBound)
	}
	for _, c := range []int{0, 4, last} {
		wantRefused(t, steps, leave(0, 0, 11, c), api.ErrShort)
		wantRefused(t, steps, leave(1, 0, 5, c), api.ErrShort)
		wantRefused(t, steps, leave(3, 0, 1, c), api.ErrShort)
		wantRefused(t, steps, leave(0, 0, most, c), api.ErrShort)
	}
	// 2 of 3 would take both shares, and leave 1 to nobody.
	wantRefused(t, []step{register(0), join(0, 0, 2), add(0, 1)}, leave(0, 0, 2, 4), api.ErrShort)
}

// P61: where the waiting pool refuses what was taken, it stays staked.
func TestWaitingRefuses(t *testing.T) {
	gone := []step{register(0), join(0, 0, 10), leave(0, 0, 10, 4), slash(0, 4, 100), join(1, 0, 7), add(0, 3)}
	wantRefused(t, gone, leave(1, 0, 6, 4), api.ErrGone)
	wantRefused(t, gone, leave(1, 0, 10, 4), api.ErrGone)
	wantRefused(t, gone, leave(1, 0, 11, 4), api.ErrShort)
	wantRefused(t, gone, leave(1, 0, 0, 4), api.ErrBound)
	if s := made(t, append(gone, leave(1, 0, 6, 5))...); s.Waits(1, 0, 5) != 6 {
		t.Error(s.Waits(1, 0, 5))
	}

	full := []step{register(0), join(0, 0, most), leave(0, 0, most, 4), join(1, 0, 9)}
	wantRefused(t, full, leave(1, 0, 1, 4), api.ErrBound)
	wantRefused(t, full, leave(1, 0, 10, 4), api.ErrShort)

	shares := []step{register(0), join(0, 0, most/2), leave(0, 0, most/2, 4), slash(0, 4, 99), join(1, 0, most/2)}
	wantRefused(t, shares, leave(1, 0, most/100, 4), api.ErrBound)
	made(t, append(shares, leave(1, 0, most/200, 4))...)
}

// P61: all waiting pools whose cycles are over are left at once, of all bakers, by this owner alone.
func TestFree(t *testing.T) {
	steps := []step{register(0), register(1), register(2),
		join(1, 0, 100), join(1, 1, 100), join(1, 2, 100), join(4, 0, 100),
		leave(1, 0, 1, 2), leave(1, 0, 2, 3), leave(1, 0, 4, 4), leave(1, 1, 8, 3), leave(1, 2, 16, 1), leave(1, 2, 32, 4), leave(4, 0, 64, 3)}
	s := made(t, steps...)
	n, err := s.Free(1, 6)
	wantNumber(t, "Free(1, 6)", n, err, 1+2+8+16)
	if s.Total() != 400-27 || s.Waits(1, 0, 3) != 0 || s.Waits(4, 0, 3) != 64 || s.Waits(1, 0, 4) != 4 || s.Waits(1, 2, 4) != 32 || s.Value(1, 0) != 93 {
		t.Error(look(s))
	}
	if n, err := s.Free(1, 6); n != 0 || err != api.ErrNone {
		t.Error("again:", n, err)
	}
	n, err = s.Free(4, last)
	wantNumber(t, "Free(4, last)", n, err, 64)
	n, err = s.Free(1, 7)
	wantNumber(t, "Free(1, 7)", n, err, 4+32)
	if s.Total() != 400-127 {
		t.Error(s.Total())
	}
}

// P61: a share of what was slashed to nothing is left, too, and is nothing; then there is none.
func TestFreeOfNothing(t *testing.T) {
	s := made(t, register(0), join(1, 0, 10), leave(1, 0, 10, 3), slash(0, 3, 100))
	n, err := s.Free(1, 6)
	wantNumber(t, "Free", n, err, 0)
	if n, err := s.Free(1, 6); n != 0 || err != api.ErrNone {
		t.Error(n, err)
	}
	// Nobody has a share of it now: it takes as a new one does.
	for _, step := range []step{join(2, 0, 5), leave(2, 0, 5, 3)} {
		if err := step(s); err != nil {
			t.Error(err)
		}
	}
	if s.Waits(2, 0, 3) != 5 {
		t.Error(s.Waits(2, 0, 3))
	}
}

// P61: who leaves a waiting pool gets its value, down; the last one all that is left.
func TestFreeByShares(t *testing.T) {
	s := made(t, register(0), join(1, 0, 10), join(2, 0, 10), leave(1, 0, 5, 3), leave(2, 0, 4, 3), slash(0, 3, 50))
	if s.Waits(1, 0, 3) != 2 || s.Waits(2, 0, 3) != 2 {
		t.Error(s.Waits(1, 0, 3), s.Waits(2, 0, 3))
	}
	n, err := s.Free(1, 6)
	wantNumber(t, "Free(1, 6)", n, err, 2)
	n, err = s.Free(2, 6)
	wantNumber(t, "Free(2, 6)", n, err, 3)
}

// P61: Free's errors: no owner or no cycle, then that there is none.
func TestFreeErrors(t *testing.T) {
	steps := []step{register(0), join(1, 0, 10), join(2, 0, 10), leave(1, 0, 5, 3)}
	for _, o := range noOwners {
		wantRefused(t, steps, free(o, 6), api.ErrBound)
		wantRefused(t, steps, free(o, 0), api.ErrBound)
	}
	for _, c := range noCycles {
		wantRefused(t, steps, free(1, c), api.ErrBound)
		wantRefused(t, steps, free(2, c), api.ErrBound)
	}
	for _, c := range []int{0, 5, 6, last} {
		wantRefused(t, steps, free(2, c), api.ErrNone)
		wantRefused(t, steps, free(0, c), api.ErrNone)
		wantRefused(t, nil, free(0, c), api.ErrNone)
	}
	s := made(t, steps...)
	for _, c := range []struct{ owner, cycle int }{{-1, 6}, {1, -1}, {2, 6}, {1, 5}} {
		if n, err := s.Free(c.owner, c.cycle); n != 0 || err == nil {
			t.Error(c, n, err)
		}
	}
}

// P64: what is taken out in a cycle is had in none before Period more are over, and in the next one.
func TestNothingBeforeItsCycles(t *testing.T) {
	for _, c := range []int{0, 1, 3, 9, 100, last - 4, last - 3, last - 2, last - 1, last} {
		steps := []step{register(0), join(1, 0, 10), join(2, 0, 3), leave(1, 0, 6, c)}
		for _, early := range []int{0, 1, c - 1, c, c + 1, c + 2} {
			if early < 0 || early > last || early > c+2 {
				continue
			}
			wantRefused(t, steps, free(1, early), api.ErrNone)
			s := made(t, steps...)
			if n, err := s.Free(1, early); n != 0 || err != api.ErrNone {
				t.Errorf("taken out in %d, had in %d: %d, %v", c, early, n, err)
			}
		}
		if c+3 > last {
			continue
		}
		s := made(t, steps...)
		n, err := s.Free(1, c+3)
		wantNumber(t, "Free", n, err, 6)
	}
}

// P64: what is taken out later does not come along with what has waited.
func TestLaterOneWaitsOn(t *testing.T) {
	s := made(t, register(0), join(1, 0, 100))
	for c := range 20 {
		if err := s.Leave(1, 0, c+1, c); c < 13 && err != nil {
			t.Fatal(c, err)
		}
		if n, err := s.Free(1, c); c < 3 && err != api.ErrNone || c >= 3 && c < 16 && n != c-2 {
			t.Errorf("cycle %d: %d, %v", c, n, err)
		}
	}
}

// P62: a reward is for that baker's pool alone; its errors: no such baker, then the pool's.
func TestAdd(t *testing.T) {
	steps := []step{register(0), register(1), register(2), join(0, 0, 10), join(1, 1, 10), leave(0, 0, 3, 4)}
	s := made(t, append(steps, add(0, 7), add(0, 0))...)
	if s.Staked(0) != 14 || s.Value(0, 0) != 14 || s.Waits(0, 0, 4) != 3 || s.Staked(1) != 10 || s.Total() != 27 {
		t.Error(look(s))
	}
	for _, b := range noBakers {
		wantRefused(t, steps, add(b, 1), api.ErrNone)
		wantRefused(t, steps, add(b, -1), api.ErrNone)
	}
	wantRefused(t, steps[:1], add(1, -1), api.ErrNone)
	for _, n := range []int{math.MinInt, -1, most + 1, math.MaxInt} {
		wantRefused(t, steps, add(0, n), api.ErrBound)
		wantRefused(t, steps, add(2, n), api.ErrBound)
	}
	wantRefused(t, steps, add(2, 1), api.ErrNone)
	wantRefused(t, append(steps, leave(1, 1, 10, 4)), add(1, 1), api.ErrNone)
	wantRefused(t, steps, add(0, most-6), api.ErrBound)
	if s := made(t, append(steps, add(0, most-7))...); s.Staked(0) != most {
		t.Error(s.Staked(0))
	}
}

// P62: the pool, and the waiting pools from a cycle on, each by its own part, down.
func TestSlash(t *testing.T) {
	steps := []step{register(0), register(1), join(0, 0, 99), join(1, 1, 100),
		leave(0, 0, 7, 0), leave(0, 0, 9, 4), leave(0, 0, 11, 5), leave(0, 0, 13, last), leave(1, 1, 50, 4)} // 59 stay with 0
	for i, c := range []struct {
		from, percent, slashed int
		staked                 int
		waits                  [4]int
	}{
		{4, 50, 29 + 4 + 5 + 6, 30, [4]int{7, 5, 6, 7}},
		{5, 50, 29 + 5 + 6, 30, [4]int{7, 9, 6, 7}},
		{6, 50, 29 + 6, 30, [4]int{7, 9, 11, 7}},
		{last, 50, 29 + 6, 30, [4]int{7, 9, 11, 7}},
		{last + 1, 50, 29, 30, [4]int{7, 9, 11, 13}},
		{math.MaxInt, 50, 29, 30, [4]int{7, 9, 11, 13}},
		{0, 50, 29 + 3 + 4 + 5 + 6, 30, [4]int{4, 5, 6, 7}},
		{-1, 50, 29 + 3 + 4 + 5 + 6, 30, [4]int{4, 5, 6, 7}},
		{math.MinInt, 50, 29 + 3 + 4 + 5 + 6, 30, [4]int{4, 5, 6, 7}},
		{1, 50, 29 + 4 + 5 + 6, 30, [4]int{7, 5, 6, 7}},
		{0, 0, 0, 59, [4]int{7, 9, 11, 13}},
		{0, 1, 0, 59, [4]int{7, 9, 11, 13}},
		{0, 100, 99, 0, [4]int{}},
		{5, 100, 59 + 11 + 13, 0, [4]int{7, 9, 0, 0}},
	} {
		s := made(t, steps...)
		n, err := s.Slash(0, c.from, c.percent)
		wantNumber(t, "Slash", n, err, c.slashed)
		waits := [4]int{s.Waits(0, 0, 0), s.Waits(0, 0, 4), s.Waits(0, 0, 5), s.Waits(0, 0, last)}
		if s.Staked(0) != c.staked || waits != c.waits || s.Staked(1) != 50 || s.Waits(1, 1, 4) != 50 || s.Total() != 199-c.slashed {
			t.Errorf("%d: %d, %v, %d", i, s.Staked(0), waits, s.Total())
		}
	}
}

// P62: of a baker with whom nothing is staked there is nothing to slash.
func TestSlashNothing(t *testing.T) {
	s := made(t, register(0))
	n, err := s.Slash(0, 0, 100)
	wantNumber(t, "Slash", n, err, 0)
	if err := s.Join(0, 0, 5); err != nil {
		t.Error(err)
	}
}

// P62: Slash's errors: no such baker, then the percent; nothing is slashed then.
func TestSlashErrors(t *testing.T) {
	steps := []step{register(0), join(0, 0, 100), leave(0, 0, 50, 4)}
	for _, b := range append([]int{1, 2}, noBakers...) {
		wantRefused(t, steps, slash(b, 0, 5), api.ErrNone)
		wantRefused(t, steps, slash(b, 0, 101), api.ErrNone)
	}
	for _, percent := range []int{math.MinInt, -1, 101, math.MaxInt} {
		wantRefused(t, steps, slash(0, 0, percent), api.ErrBound)
		if n, err := made(t, steps...).Slash(0, 0, percent); n != 0 || err != api.ErrBound {
			t.Error(n, err)
		}
	}
}

// P63: of numbers that are no bakers, owners or cycles there is nothing.
func TestAskedOfNone(t *testing.T) {
	s := made(t, register(0), register(1), register(2), join(0, 0, 10), join(5, 2, 10), leave(0, 0, 5, 0), leave(5, 2, 5, last))
	for _, b := range noBakers {
		if s.Is(b) || s.Staked(b) != 0 || s.Value(0, b) != 0 || s.Waits(0, b, 0) != 0 {
			t.Errorf("baker %d: %v, %d, %d, %d", b, s.Is(b), s.Staked(b), s.Value(0, b), s.Waits(0, b, 0))
		}
	}
	for _, o := range noOwners {
		if s.Value(o, 0) != 0 || s.Waits(o, 0, 0) != 0 || s.Waits(o, 2, last) != 0 {
			t.Errorf("owner %d: %d, %d", o, s.Value(o, 0), s.Waits(o, 0, 0))
		}
	}
	for _, c := range noCycles {
		if s.Waits(0, 0, c) != 0 || s.Waits(5, 2, c) != 0 {
			t.Errorf("cycle %d: %d, %d", c, s.Waits(0, 0, c), s.Waits(5, 2, c))
		}
	}
	if s.Waits(0, 0, 1) != 0 || s.Waits(0, 1, 0) != 0 || s.Waits(0, 0, 0) != 5 || s.Waits(5, 2, last) != 5 {
		t.Error(look(s))
	}
}

// P63: asking what waits makes no pool.
func TestAskingChangesNothing(t *testing.T) {
	s := made(t, register(0), join(0, 0, 10), leave(0, 0, 5, 3))
	was := look(s)
	if now := look(s); now != was || s.Total() != 10 {
		t.Error(now)
	}
	wantRefused(t, []step{register(0), join(0, 0, 10)}, func(s *stake.Stakes) error { look(s); return nil }, nil)
}
