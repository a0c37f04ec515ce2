package chain_test

import (
	"math"
	"testing"

	"bakehouse/api"
	"bakehouse/chain"
	"bakehouse/issue"
	"bakehouse/right"
)

const (
	most      = api.MaxAmount
	last      = api.MaxCycle
	lastLevel = last * api.Blocks
)

// seen is all that a chain tells of itself; places are one more than numbers, so that those ahead and behind are asked, too.
type seen struct {
	cycle, level, bonus, supply, total int
	has                                [api.Owners + 2]int
	staked                             [api.Bakers + 2]int
	value                              [api.Bakers + 2][api.Owners + 2]int
	waits                              [api.Bakers + 2][api.Owners + 2][8]int // of the cycles up to this one
	turns                              [api.MaxRounds + 2]turn
}

type turn struct {
	baker int
	err   error
}

func look(c *chain.Chain) seen {
	s := c.Stakes()
	now := seen{cycle: c.Cycle(), level: c.Level(), bonus: c.Bonus(), supply: c.Supply(), total: s.Total()}
	for o := range now.has {
		now.has[o] = c.Has(o - 1)
	}
	for b := range now.staked {
		now.staked[b] = s.Staked(b - 1)
		for o := range now.has {
			now.value[b][o] = s.Value(o-1, b-1)
			for k := range now.waits[b][o] {
				now.waits[b][o][k] = s.Waits(o-1, b-1, c.Cycle()-k)
			}
		}
	}
	for r := range now.turns {
		now.turns[r].baker, now.turns[r].err = c.Turn(r - 1)
	}
	return now
}

// wantSum: supply is what all may spend, and all that is staked or waits (P104).
func wantSum(t *testing.T, c *chain.Chain) {
	t.Helper()
	sum := c.Stakes().Total()
	for o := range api.Owners {
		sum += c.Has(o)
	}
	if sum != c.Supply() {
		t.Fatalf("at %d, %d: supply %d; all together %d", c.Cycle(), c.Level(), c.Supply(), sum)
	}
}

// wantError: just this one, bare, and nothing has changed (P3).
func wantError(t *testing.T, c *chain.Chain, want error, call func() error) {
	t.Helper()
	was := look(c)
	if err := call(); err != want {
		t.Errorf("%v; want %v", err, want)
	}
	if now := look(c); now != was {
		t.Errorf("with %v it is %v; it was %v", want, now, was)
	}
}

func must(t *testing.T, errs ...error) {
	t.Helper()
	for i, err := range errs {
		if err != nil {
			t.Fatalf("%d: %v", i, err)
		}
	}
}

// bake a block of round 0: its reward.
func bake(t *testing.T, c *chain.Chain) int {
	t.Helper()
	k, err := c.Turn(0)
	must(t, err)
	n, err := c.Bake(k, 0)
	must(t, err)
	return n
}

// until bakes blocks until this cycle.
func until(t *testing.T, c *chain.Chain, cycle int) {
	t.Helper()
	for c.Cycle() < cycle {
		bake(t, c)
	}
}

// idle is a chain in which nothing is staked: what bakers had waits, and blocks have no reward.
func idle(t *testing.T, seed uint64) *chain.Chain {
	t.Helper()
	c := chain.New(seed)
	for b := range api.Bakers {
		must(t, c.Unstake(b, b, 1000))
	}
	return c
}

func of(baker, cycle, number int) api.Evidence {
	return api.Evidence{Baker: baker, Cycle: cycle, Number: number}
}

// P100: what a new chain has, of any seed.
func TestNew(t *testing.T) {
	for _, seed := range []uint64{0, 1, 42, 1 << 63, math.MaxUint64} {
		c := chain.New(seed)
		if c.Cycle() != 0 || c.Level() != 0 || c.Bonus() != 0 || c.Supply() != 60000 {
			t.Error(seed, c.Cycle(), c.Level(), c.Bonus(), c.Supply())
		}
		for o := range api.Owners {
			want := 10000
			if o < api.Bakers {
				want = 9000
			}
			if c.Has(o) != want {
				t.Errorf("owner %d has %d", o, c.Has(o))
			}
			for b := range api.Bakers {
				value := 0
				if o == b {
					value = 1000
				}
				if got := c.Stakes().Value(o, b); got != value {
					t.Errorf("owner %d with baker %d: %d", o, b, got)
				}
			}
		}
		for b := range api.Bakers {
			if !c.Stakes().Is(b) || c.Stakes().Staked(b) != 1000 {
				t.Errorf("baker %d: %d", b, c.Stakes().Staked(b))
			}
		}
		if c.Stakes().Total() != 3000 {
			t.Error(c.Stakes().Total())
		}
		wantSum(t, c)
	}
}

// P100: who is no owner has nothing.
func TestHasOfNobody(t *testing.T) {
	c := chain.New(1)
	for _, o := range []int{math.MinInt, -1, api.Owners, math.MaxInt} {
		if c.Has(o) != 0 {
			t.Errorf("%d has %d", o, c.Has(o))
		}
	}
}

// P4: each chain is one of its own, also of the same seed; its stakes are always the same ones.
func TestOwnMemory(t *testing.T) {
	c, d := chain.New(3), chain.New(3)
	was := look(d)
	s := c.Stakes()
	must(t, c.Pay(0, 1, 5), c.Stake(3, 0, 50), c.Unstake(0, 0, 10), c.Accuse(1, of(0, 0, 1)))
	until(t, c, 2)
	if look(d) != was {
		t.Error("one chain changed the other")
	}
	if s != c.Stakes() || s.Staked(0) == 1000 {
		t.Error("stakes are not the chain's own")
	}
}

// P100: while the pictures are those of the start, turns are by the same weights, whatever is staked meanwhile.
func TestTurnsOfFirstPictures(t *testing.T) {
	for _, seed := range []uint64{0, 7, math.MaxUint64} {
		c := chain.New(seed)
		must(t, c.Stake(3, 2, 10000), c.Unstake(0, 0, 1000))
		for level := range 3 * api.Blocks {
			for round := range api.MaxRounds {
				want, err := right.Baker([]int{1000, 1000, 1000}, seed, level/api.Blocks, level, round)
				must(t, err)
				if got, err := c.Turn(round); got != want || err != nil {
					t.Fatalf("level %d, round %d: %d, %v; want %d", level, round, got, err, want)
				}
			}
			bake(t, c)
		}
	}
}

// P100, P102: rounds that there are not; the error of a turn comes ahead of that of another's turn.
func TestNoRound(t *testing.T) {
	c := chain.New(8)
	for _, round := range []int{math.MinInt, -1, api.MaxRounds, math.MaxInt} {
		if k, err := c.Turn(round); k != 0 || err != api.ErrBound {
			t.Errorf("turn of %d: %d, %v", round, k, err)
		}
		for baker := -1; baker <= api.Bakers; baker++ {
			wantError(t, c, api.ErrBound, func() error {
				n, err := c.Bake(baker, round)
				if n != 0 {
					t.Error(n)
				}
				return err
			})
		}
	}
}

// P101: what is paid.
func TestPay(t *testing.T) {
	c := chain.New(2)
	must(t, c.Pay(3, 0, 10000), c.Pay(0, 5, 1), c.Pay(4, 4, 10000), c.Pay(3, 1, 0))
	for o, want := range []int{18999, 9000, 9000, 0, 10000, 10001} {
		if c.Has(o) != want {
			t.Errorf("owner %d has %d", o, c.Has(o))
		}
	}
	if c.Supply() != 60000 {
		t.Error(c.Supply())
	}
	wantSum(t, c)
	for _, x := range []struct {
		from, to, n int
		want        error
	}{
		{-1, 0, 1, api.ErrBound}, {6, 0, 1, api.ErrBound}, {0, -1, 1, api.ErrBound}, {0, 6, 1, api.ErrBound},
		{0, 1, -1, api.ErrBound}, {0, 1, most + 1, api.ErrBound}, {0, 6, most, api.ErrBound},
		{0, 1, 19000, api.ErrShort}, {3, 1, 1, api.ErrShort}, {1, 1, 9001, api.ErrShort}, {0, 1, most, api.ErrShort},
	} {
		wantError(t, c, x.want, func() error { return c.Pay(x.from, x.to, x.n) })
	}
}

// P101: what is staked may not be spent, and supply stays.
func TestStake(t *testing.T) {
	c := chain.New(2)
	must(t, c.Stake(3, 1, 400), c.Stake(1, 1, 9000), c.Stake(4, 0, 1))
	s := c.Stakes()
	if c.Has(3) != 9600 || c.Has(1) != 0 || c.Has(4) != 9999 || c.Supply() != 60000 {
		t.Error(c.Has(3), c.Has(1), c.Has(4), c.Supply())
	}
	if s.Value(3, 1) != 400 || s.Value(1, 1) != 10000 || s.Staked(1) != 10400 || s.Staked(0) != 1001 {
		t.Error(s.Value(3, 1), s.Value(1, 1), s.Staked(1), s.Staked(0))
	}
	wantSum(t, c)
}

// P101: the purse's errors first, then those of stakes; nothing is changed by any.
func TestNoStake(t *testing.T) {
	c := chain.New(2)
	for _, x := range []struct {
		owner, baker, n int
		want            error
	}{
		{-1, 0, 1, api.ErrBound}, {6, 0, 1, api.ErrBound}, {math.MinInt, 0, 1, api.ErrBound},
		{3, 0, -1, api.ErrBound}, {3, 0, most + 1, api.ErrBound}, {6, 3, most, api.ErrBound}, {3, 3, -1, api.ErrBound},
		{3, 0, 10001, api.ErrShort}, {3, 3, 10001, api.ErrShort}, {3, -1, most, api.ErrShort},
		{3, 3, 10000, api.ErrNone}, {3, -1, 1, api.ErrNone}, {3, math.MaxInt, 1, api.ErrNone}, {3, 3, 0, api.ErrNone},
		{3, 0, 0, api.ErrBound},
	} {
		wantError(t, c, x.want, func() error { return c.Stake(x.owner, x.baker, x.n) })
	}
}

// P101: so little that no share comes of it.
func TestSmallStake(t *testing.T) {
	c := chain.New(2)
	until(t, c, 4)
	small := 0
	for b := range api.Bakers {
		// Rewards made a share worth more than 1.
		if c.Stakes().Staked(b) >= 2000 {
			small++
			wantError(t, c, api.ErrSmall, func() error { return c.Stake(3, b, 1) })
		}
	}
	if small == 0 {
		t.Error("no pool grew")
	}
}

// P101: it waits in the pool of this cycle, and may not be spent.
func TestUnstake(t *testing.T) {
	c := chain.New(2)
	until(t, c, 2)
	was := c.Stakes().Staked(1)
	must(t, c.Stake(3, 2, 500))
	staked := c.Stakes().Value(3, 2)
	must(t, c.Unstake(1, 1, 300), c.Unstake(1, 1, 200), c.Unstake(3, 2, staked))
	s := c.Stakes()
	if s.Staked(1) != was-500 || s.Waits(1, 1, 2) != 500 || s.Waits(3, 2, 2) != staked || c.Has(1) != 9000 || c.Has(3) != 9500 {
		t.Error(s.Staked(1), was, s.Waits(1, 1, 2), s.Waits(3, 2, 2), c.Has(1), c.Has(3))
	}
	wantSum(t, c)
	for _, x := range []struct {
		owner, baker, n int
		want            error
	}{
		{3, 3, 1, api.ErrNone}, {3, -1, 1, api.ErrNone}, {-1, 3, -1, api.ErrNone},
		{-1, 0, 1, api.ErrBound}, {6, 0, 1, api.ErrBound}, {0, 0, 0, api.ErrBound}, {0, 0, -1, api.ErrBound}, {0, 0, most + 1, api.ErrBound},
		{4, 0, 1, api.ErrShort}, {0, 0, most, api.ErrShort}, {0, 1, 1, api.ErrShort},
	} {
		wantError(t, c, x.want, func() error { return c.Unstake(x.owner, x.baker, x.n) })
	}
}

// P101: what was unstaked in cycle k is free in cycle k and 3, not ahead of it, from all bakers together.
func TestFree(t *testing.T) {
	c := idle(t, 9)
	must(t, c.Stake(3, 0, 100), c.Unstake(3, 0, 100), c.Stake(3, 2, 20), c.Unstake(3, 2, 20))
	until(t, c, 1)
	must(t, c.Stake(3, 1, 7), c.Unstake(3, 1, 7))
	free := func(owner int) func() error {
		return func() error {
			n, err := c.Free(owner)
			if n != 0 {
				t.Error(n)
			}
			return err
		}
	}
	for cycle := 1; cycle < 3; cycle++ {
		until(t, c, cycle)
		for o := range api.Owners {
			wantError(t, c, api.ErrNone, free(o))
		}
	}
	until(t, c, 3)
	supply := c.Supply()
	if n, err := c.Free(3); n != 120 || err != nil || c.Has(3) != 9993 || c.Supply() != supply {
		t.Error(n, err, c.Has(3), c.Supply())
	}
	wantSum(t, c)
	wantError(t, c, api.ErrNone, free(3))
	wantError(t, c, api.ErrNone, free(4))
	for _, o := range []int{math.MinInt, -1, api.Owners, math.MaxInt} {
		wantError(t, c, api.ErrBound, free(o))
	}
	until(t, c, 4)
	if n, err := c.Free(3); n != 7 || err != nil || c.Has(3) != 10000 {
		t.Error(n, err, c.Has(3))
	}
	if n, err := c.Free(1); n != 1000 || err != nil || c.Has(1) != 10000 {
		t.Error(n, err, c.Has(1))
	}
	wantSum(t, c)
}

// P101: the court's errors, of this cycle.
func TestAccuse(t *testing.T) {
	c := chain.New(4)
	until(t, c, 3)
	must(t, c.Accuse(0, of(0, 1, 0)), c.Accuse(5, of(2, 3, math.MaxInt)))
	for _, x := range []struct {
		owner int
		e     api.Evidence
		want  error
	}{
		{-1, of(0, 3, 0), api.ErrBound}, {6, of(0, 3, 0), api.ErrBound}, {0, of(-1, 3, 0), api.ErrBound},
		{0, of(3, 3, 0), api.ErrBound}, {0, of(0, 3, -1), api.ErrBound}, {6, of(0, 9, 0), api.ErrBound},
		{0, of(0, 4, 0), api.ErrOld}, {0, of(0, 0, 0), api.ErrOld}, {0, of(0, -1, 0), api.ErrOld},
		{0, of(0, 1, 0), api.ErrExist}, {4, of(0, 1, 0), api.ErrExist}, {4, of(2, 3, math.MaxInt), api.ErrExist},
	} {
		wantError(t, c, x.want, func() error { return c.Accuse(x.owner, x.e) })
	}
	until(t, c, 4)
	wantError(t, c, api.ErrOld, func() error { return c.Accuse(1, of(0, 1, 0)) })
	wantError(t, c, api.ErrExist, func() error { return c.Accuse(1, of(2, 3, math.MaxInt)) })
}

// P102: nobody but whose turn it is.
func TestNotItsTurn(t *testing.T) {
	c := chain.New(11)
	for round := range api.MaxRounds {
		k, err := c.Turn(round)
		must(t, err)
		for _, baker := range []int{math.MinInt, -1, 0, 1, 2, 3, math.MaxInt} {
			if baker == k {
				continue
			}
			wantError(t, c, api.ErrTurn, func() error {
				n, err := c.Bake(baker, round)
				if n != 0 {
					t.Error(n)
				}
				return err
			})
		}
	}
}

// P102: each round has a block; its reward is its baker's pool's, and new in supply; what waits is not counted as staked.
func TestReward(t *testing.T) {
	c := chain.New(12)
	must(t, c.Stake(3, 0, 10000), c.Unstake(3, 0, 4000))
	staked := 9000
	for level := range 40 {
		round := level % api.MaxRounds
		supply, bonus, cycle := c.Supply(), c.Bonus(), c.Cycle()
		ratio, _ := issue.Ratio(staked, supply)
		rate, _ := issue.Rate(ratio, bonus)
		want, _ := issue.Reward(supply, rate)
		k, err := c.Turn(round)
		must(t, err)
		was := c.Stakes().Staked(k)
		n, err := c.Bake(k, round)
		if n != want || n == 0 || err != nil {
			t.Fatalf("level %d: %d, %v; want %d", level, n, err, want)
		}
		staked += n
		if c.Supply() != supply+n || c.Stakes().Staked(k) != was+n || c.Level() != level+1 {
			t.Fatalf("level %d: %d, %d, %d", level, c.Supply(), c.Stakes().Staked(k), c.Level())
		}
		if c.Cycle() != (level+1)/api.Blocks || c.Cycle() == cycle && c.Bonus() != bonus {
			t.Fatalf("level %d: cycle %d, bonus %d", level, c.Cycle(), c.Bonus())
		}
		wantSum(t, c)
	}
}

// P102: by hand, with 9000 of 60000 staked: a rate of 28000, and 420 of a block.
func TestRewardByHand(t *testing.T) {
	c := chain.New(12)
	must(t, c.Stake(3, 0, 10000), c.Unstake(3, 0, 4000))
	if n := bake(t, c); n != 420 || c.Supply() != 60420 {
		t.Error(n, c.Supply())
	}
}

// P102: a pool without shares has no reward, and the chain goes on.
func TestNoShares(t *testing.T) {
	c := chain.New(13)
	must(t, c.Unstake(1, 1, 1000))
	none, some := 0, 0
	for level := range 3 * api.Blocks {
		k, err := c.Turn(0)
		must(t, err)
		supply := c.Supply()
		n := bake(t, c)
		if (n == 0) != (k == 1) || c.Supply() != supply+n || c.Level() != level+1 {
			t.Errorf("baker %d: %d, %d", k, n, c.Supply())
		}
		if k == 1 {
			none++
		} else {
			some++
		}
		wantSum(t, c)
	}
	if none == 0 || some == 0 || c.Stakes().Staked(1) != 0 {
		t.Error(none, some, c.Stakes().Staked(1))
	}
}

// P102: where supply would be more than MaxAmount there is no reward; when some is burned, there is again.
func TestMaxSupply(t *testing.T) {
	c := chain.New(14)
	n := bake(t, c)
	for n > 0 && c.Level() < 100000 {
		n = bake(t, c)
	}
	top := c.Supply()
	if n != 0 || top > most || top < most/100*99 {
		t.Fatal(n, top)
	}
	wantSum(t, c)
	for range 50 {
		if bake(t, c) != 0 || c.Supply() != top {
			t.Fatal(c.Supply())
		}
	}
	must(t, c.Accuse(5, of(0, c.Cycle(), 1)), c.Accuse(5, of(1, c.Cycle(), 1)), c.Accuse(5, of(2, c.Cycle(), 1)))
	until(t, c, c.Cycle()+1)
	if c.Supply() >= top/100*60 {
		t.Error(c.Supply())
	}
	if n := bake(t, c); n == 0 {
		t.Error("no reward after supply fell")
	}
	wantSum(t, c)
}

// P103: cases in their order: what is left of one is what the next one slashes.
func TestJudge(t *testing.T) {
	for _, x := range []struct {
		numbers [2]int
		has     [2]int
	}{
		{[2]int{1, 0}, [2]int{71, 3}}, // 500 and 25 lost
		{[2]int{0, 1}, [2]int{7, 67}}, // 50 and 475 lost
	} {
		c := idle(t, 15)
		must(t, c.Accuse(3, of(0, 0, x.numbers[0])), c.Accuse(4, of(0, 0, x.numbers[1])))
		for range api.Blocks - 1 {
			bake(t, c)
		}
		if c.Supply() != 60000 || c.Has(3) != 10000 || c.Stakes().Waits(0, 0, 0) != 1000 {
			t.Error("judged ahead of the cycle's end")
		}
		bake(t, c)
		if c.Has(3) != 10000+x.has[0] || c.Has(4) != 10000+x.has[1] || c.Stakes().Waits(0, 0, 0) != 475 || c.Stakes().Waits(1, 1, 0) != 1000 {
			t.Error(x, c.Has(3), c.Has(4), c.Stakes().Waits(0, 0, 0))
		}
		if want := 60000 - 525 + x.has[0] + x.has[1]; c.Supply() != want {
			t.Error(x, c.Supply(), want)
		}
		wantSum(t, c)
		was := c.Supply()
		until(t, c, 3)
		if c.Supply() != was {
			t.Error("judged twice")
		}
	}
}

// P103: a baker's pool, and what was taken out of it in the evidence's cycle or later.
func TestJudgeFrom(t *testing.T) {
	c := chain.New(16)
	for cycle := range 3 {
		until(t, c, cycle)
		must(t, c.Stake(5, 2, 1000), c.Unstake(5, 2, 100))
	}
	must(t, c.Accuse(2, of(2, 1, 7)))
	for range api.Blocks - 1 {
		bake(t, c)
	}
	k, err := c.Turn(0)
	must(t, err)
	staked, supply, has := c.Stakes().Staked(2), c.Supply(), c.Has(2)
	n := bake(t, c)
	if k == 2 {
		staked += n
	}
	lost := staked/2 + 50 + 50
	if got := c.Stakes().Staked(2); got != staked-staked/2 {
		t.Errorf("staked %d; was %d", got, staked)
	}
	for cycle, want := range []int{100, 50, 50} {
		if got := c.Stakes().Waits(5, 2, cycle); got != want {
			t.Errorf("of cycle %d waits %d", cycle, got)
		}
	}
	if c.Has(2) != has+lost/7 || c.Supply() != supply+n-(lost-lost/7) {
		t.Error(c.Has(2), has, c.Supply(), supply, n, lost)
	}
	wantSum(t, c)
}

// P103: while little is staked, 100 more from cycle to cycle, at most 5000; while much is, 100 less, at least 0.
func TestBonus(t *testing.T) {
	c := idle(t, 17)
	for cycle := range 53 {
		until(t, c, cycle)
		if want := min(100*cycle, 5000); c.Bonus() != want {
			t.Fatalf("cycle %d: %d", cycle, c.Bonus())
		}
	}
	for o := range api.Owners {
		must(t, c.Stake(o, 0, 9000))
	}
	for cycle := 53; cycle < 106; cycle++ {
		until(t, c, cycle)
		if want := max(5000-100*(cycle-52), 0); c.Bonus() != want {
			t.Fatalf("cycle %d: %d", cycle, c.Bonus())
		}
	}
}

// P103: the bonus goes by what is staked after the cases were judged, and what waits is not counted.
func TestBonusAfterJudging(t *testing.T) {
	end := func(accuse bool, unstake int) int {
		c := idle(t, 18)
		until(t, c, 3)
		for o := range 4 {
			must(t, c.Stake(o, 0, 9000))
		}
		if accuse {
			must(t, c.Accuse(5, of(0, 3, 1)))
		}
		if unstake > 0 {
			must(t, c.Unstake(1, 0, unstake))
		}
		until(t, c, 4)
		return c.Bonus()
	}
	if plain, judged, waits, between := end(false, 0), end(true, 0), end(false, 9000), end(false, 5400); plain != 200 || judged != 400 || waits != 400 || between != 300 {
		t.Error(plain, judged, waits, between)
	}
}

// P103: the picture of a cycle's start counts Delay cycles later, and not ahead of that.
func TestPictures(t *testing.T) {
	for seed := range uint64(20) {
		c := chain.New(seed)
		pictures := [][]int{{1000, 1000, 1000}, {1000, 1000, 1000}, {1000, 1000, 1000}}
		for cycle := range 12 {
			switch cycle {
			case 1:
				must(t, c.Stake(4, 1, 9000), c.Accuse(5, of(0, 1, 3)))
			case 3:
				must(t, c.Unstake(4, 1, c.Stakes().Value(4, 1)), c.Unstake(1, 1, c.Stakes().Value(1, 1)))
			case 5:
				must(t, c.Stake(3, 1, api.MinStake/2))
			case 6:
				must(t, c.Stake(3, 1, 500))
			}
			for range api.Blocks {
				for round := range api.MaxRounds {
					want, err := right.Baker(pictures[cycle], seed, cycle, c.Level(), round)
					must(t, err)
					if got, err := c.Turn(round); got != want || err != nil {
						t.Fatalf("cycle %d: %d, %v; want %d", cycle, got, err, want)
					}
				}
				bake(t, c)
			}
			pictures = append(pictures, right.Picture(c.Stakes()))
		}
	}
}

// P103: a picture without weight is the one ahead of it, for as long as there is none.
func TestNoWeight(t *testing.T) {
	for seed := range uint64(20) {
		c := chain.New(seed)
		must(t, c.Unstake(0, 0, 1000), c.Unstake(1, 1, 1000), c.Stake(3, 2, 500))
		until(t, c, 1)
		// The picture of cycle 3 is of baker 2 alone; those of 4 to 6 are none; that of 7 is of baker 0 alone.
		must(t, c.Unstake(2, 2, c.Stakes().Value(2, 2)), c.Unstake(3, 2, c.Stakes().Value(3, 2)))
		until(t, c, 4)
		must(t, c.Stake(5, 0, api.MinStake))
		for cycle := 4; cycle < 10; cycle++ {
			until(t, c, cycle)
			want := 2
			if cycle >= 7 {
				want = 0
			}
			for range api.Blocks {
				if k, err := c.Turn(0); k != want || err != nil {
					t.Fatalf("cycle %d: %d, %v", cycle, k, err)
				}
				bake(t, c)
			}
		}
	}
}

// P104: what would change supply alone is not to be had from outside.
func TestClosedPurse(t *testing.T) {
	var c any = chain.New(1)
	if _, ok := c.(interface{ Grow(int) error }); ok {
		t.Error("Grow")
	}
	if _, ok := c.(interface{ Burn(int) error }); ok {
		t.Error("Burn")
	}
	if _, ok := c.(interface{ Mint(int, int) error }); ok {
		t.Error("Mint")
	}
	if _, ok := c.(interface{ Out(int, int) error }); ok {
		t.Error("Out")
	}
	if _, ok := c.(interface{ In(int, int) error }); ok {
		t.Error("In")
	}
}

// P1, P102: behind the last level of all there are no turns; what else may be done, may be done still.
func TestLastLevel(t *testing.T) {
	c := idle(t, 19)
	for c.Level() < lastLevel {
		k, err := c.Turn(0)
		must(t, err)
		if _, err := c.Bake(k, 0); err != nil {
			t.Fatal(c.Level(), err)
		}
	}
	if c.Cycle() != last {
		t.Fatal(c.Cycle())
	}
	bake(t, c)
	if c.Cycle() != last || c.Level() != lastLevel+1 {
		t.Error(c.Cycle(), c.Level())
	}
	for round := range api.MaxRounds {
		if k, err := c.Turn(round); k != 0 || err != api.ErrBound {
			t.Error(k, err)
		}
	}
	for b := range api.Bakers {
		wantError(t, c, api.ErrBound, func() error { _, err := c.Bake(b, 0); return err })
	}
	must(t, c.Pay(0, 1, 1), c.Stake(3, 0, 10), c.Unstake(3, 0, 4), c.Accuse(3, of(0, last, 0)))
	if n, err := c.Free(0); n != 1000 || err != nil {
		t.Error(n, err)
	}
	wantSum(t, c)
}
