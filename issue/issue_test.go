package issue_test

import (
	"math"
	"math/big"
	"testing"

	"bakehouse/api"
	"bakehouse/issue"
	"bakehouse/lots"
)

const (
	most     = api.MaxAmount
	million  = 1000000
	topBonus = 5000
)

// noAmounts are the numbers next to the amounts, and the farthest ones.
var noAmounts = []int{math.MinInt, -most, -1, most + 1, math.MaxInt}

// noMillionths are none from 0 to 1000000.
var noMillionths = []int{math.MinInt, -million, -1, million + 1, most, math.MaxInt}

// noBonus are none from 0 to 5000.
var noBonus = []int{math.MinInt, -100, -1, topBonus + 1, million, math.MaxInt}

func wantAnswer(t *testing.T, call func(int, int) (int, error), a, b, want int) {
	t.Helper()
	if n, err := call(a, b); n != want || err != nil {
		t.Errorf("of %d, %d: %d, %v, not %d", a, b, n, err, want)
	}
}

// wantBound: the error is bare, and the number 0 (P3).
func wantBound(t *testing.T, call func(int, int) (int, error), a, b int) {
	t.Helper()
	if n, err := call(a, b); n != 0 || err != api.ErrBound {
		t.Errorf("of %d, %d: %d, %v", a, b, n, err)
	}
}

// answer of a call that is right.
func answer(t *testing.T, call func(int, int) (int, error), a, b int) int {
	t.Helper()
	n, err := call(a, b)
	if err != nil {
		t.Fatalf("of %d, %d: %v", a, b, err)
	}
	return n
}

// anyAmount is one of any size, small ones as often as great ones.
func anyAmount(l *lots.Lots) int {
	size, _ := l.Below(51)
	n, _ := l.Below(1 << size)
	return n + 1
}

// P80: in millionths, down.
func TestRatio(t *testing.T) {
	for _, c := range []struct{ staked, supply, want int }{
		{1, 3, 333333},
		{2, 3, 666666},
		{0, 1, 0},
		{0, 5, 0},
		{0, most, 0},
		{1, 1, million},
		{3000, 60000, 50000},
		{48, 100, 480000},
		{1, million, 1},
		{1, million + 1, 0},
		{million, million + 1, 999999},
		{1, most, 0},
		{1125899906, most, 0},
		{1125899907, most, 1},
		{most / 2, most, 500000},
		{most - 1, most, 999999},
		{most - 2, most - 1, 999999},
		{most, most, million},
	} {
		wantAnswer(t, issue.Ratio, c.staked, c.supply, c.want)
	}
}

// P80: against numbers of any size.
func TestRatioOfAny(t *testing.T) {
	l := lots.New(80)
	for range 20000 {
		supply := anyAmount(l)
		staked, _ := l.Below(supply)
		want := new(big.Int).Mul(big.NewInt(int64(staked)), big.NewInt(million))
		want.Quo(want, big.NewInt(int64(supply)))
		wantAnswer(t, issue.Ratio, staked, supply, int(want.Int64()))
		wantAnswer(t, issue.Ratio, supply, supply, million)
	}
}

// P80: no amounts, no supply, more staked than there is.
func TestNoRatio(t *testing.T) {
	for _, n := range noAmounts {
		for _, other := range []int{0, 1, 100, most, n} {
			wantBound(t, issue.Ratio, n, other)
			wantBound(t, issue.Ratio, other, n)
		}
	}
	for _, c := range [][2]int{{0, 0}, {1, 0}, {most, 0}, {2, 1}, {5, 4}, {most, most - 1}, {most, 1}} {
		wantBound(t, issue.Ratio, c[0], c[1])
	}
}

// P80: at the points, beside them and between them; the bonus is added.
func TestRate(t *testing.T) {
	for _, c := range []struct{ ratio, bonus, want int }{
		{0, 0, 40000},
		{0, topBonus, 45000},
		{1, 0, 39999},
		{12, 0, 39999},
		{13, 0, 39998},
		{125000, 7, 30007},
		{249999, 0, 20000},
		{250000, 0, 20000},
		{250001, 0, 19999},
		{375000, 100, 15100},
		{499999, 0, 10000},
		{500000, 0, 10000},
		{500000, topBonus, 15000},
		{500001, 0, 9999},
		{500100, 0, 9999},
		{500101, 0, 9998},
		{750000, 4999, 12499},
		{999999, 0, 5000},
		{million, 0, 5000},
		{million, 1, 5001},
		{million, topBonus, 10000},
	} {
		wantAnswer(t, issue.Rate, c.ratio, c.bonus, c.want)
	}
}

// down is n over d for n below 0 too.
func down(n, d int) int {
	if n < 0 {
		return -((-n + d - 1) / d)
	}
	return n / d
}

// rateOf is the rate without a bonus, by the three lines' own slopes.
func rateOf(ratio int) int {
	switch {
	case ratio <= 250000:
		return 40000 + down(-2*ratio, 25)
	case ratio <= 500000:
		return 20000 + down(250000-ratio, 25)
	}
	return 10000 + down(500000-ratio, 100)
}

// P80, P82: every ratio; where it is more, the rate is no more.
func TestEveryRate(t *testing.T) {
	ahead := 40000
	for ratio := range million + 1 {
		bonus := ratio % (topBonus + 1)
		rate := answer(t, issue.Rate, ratio, 0)
		if rate != rateOf(ratio) || rate > ahead || rate < 5000 {
			t.Fatalf("at %d: %d, ahead %d", ratio, rate, ahead)
		}
		if n := answer(t, issue.Rate, ratio, bonus); n != rate+bonus {
			t.Fatalf("at %d with %d: %d, not %d", ratio, bonus, n, rate+bonus)
		}
		ahead = rate
	}
}

// P81: up ahead of 480000, down behind 520000, never beyond 0 and 5000.
func TestBonus(t *testing.T) {
	for _, c := range []struct{ bonus, ratio, want int }{
		{0, 0, 100},
		{0, 479999, 100},
		{0, 480000, 0},
		{0, 500000, 0},
		{0, 520001, 0},
		{50, 479999, 150},
		{50, million, 0},
		{99, 520001, 0},
		{100, 520001, 0},
		{101, 520001, 1},
		{700, 479999, 800},
		{700, 480000, 700},
		{700, 480001, 700},
		{700, 519999, 700},
		{700, 520000, 700},
		{700, 520001, 600},
		{4899, 0, 4999},
		{4900, 0, topBonus},
		{4901, 0, topBonus},
		{4950, 0, topBonus},
		{topBonus, 0, topBonus},
		{topBonus, 479999, topBonus},
		{topBonus, 480000, topBonus},
		{topBonus, 520000, topBonus},
		{topBonus, 520001, 4900},
		{topBonus, million, 4900},
	} {
		wantAnswer(t, issue.Bonus, c.bonus, c.ratio, c.want)
	}
}

// P80, P81: ratios and bonuses that are none, alone and both.
func TestNoRatioOrBonus(t *testing.T) {
	for _, ratio := range noMillionths {
		for _, bonus := range []int{0, 700, topBonus} {
			wantBound(t, issue.Rate, ratio, bonus)
			wantBound(t, issue.Bonus, bonus, ratio)
		}
	}
	for _, bonus := range noBonus {
		for _, ratio := range []int{0, 480000, 500000, 520001, million, -1, million + 1} {
			wantBound(t, issue.Rate, ratio, bonus)
			wantBound(t, issue.Bonus, bonus, ratio)
		}
	}
}

// P81: a cycle's part of supply, down, and a block's part of that, down.
func TestReward(t *testing.T) {
	for _, c := range []struct{ supply, rate, want int }{
		{60000, 40000, 600},
		{60000, 39999, 599},
		{100, 70000, 1},
		{100, 40000, 1},
		{100, 39999, 0},
		{99, 39999, 0},
		{0, 0, 0},
		{0, million, 0},
		{most, 0, 0},
		{3, million, 0},
		{4, million, 1},
		{7, million, 1},
		{8, million, 2},
		{8, 999999, 1},
		{million, 3, 0},
		{million, 4, 1},
		{most, 1, 281474976},
		{most, 45000, 12666373951979},
		{most - 1, million, most/4 - 1},
		{most, million, most / 4},
	} {
		wantAnswer(t, issue.Reward, c.supply, c.rate, c.want)
	}
}

// P81: against numbers of any size.
func TestRewardOfAny(t *testing.T) {
	l := lots.New(81)
	for range 20000 {
		supply := anyAmount(l)
		rate, _ := l.Below(million + 1)
		want := new(big.Int).Mul(big.NewInt(int64(supply)), big.NewInt(int64(rate)))
		want.Quo(want, big.NewInt(million))
		want.Quo(want, big.NewInt(4))
		wantAnswer(t, issue.Reward, supply, rate, int(want.Int64()))
	}
}

// P81: a supply that is no amount, a rate that is none.
func TestNoReward(t *testing.T) {
	for _, supply := range noAmounts {
		for _, rate := range []int{0, 1, million, -1, million + 1} {
			wantBound(t, issue.Reward, supply, rate)
		}
	}
	for _, rate := range noMillionths {
		for _, supply := range []int{0, 5, most} {
			wantBound(t, issue.Reward, supply, rate)
		}
	}
}

// issued is all that hangs on what is staked: the rate, the next bonus, the reward.
func issued(t *testing.T, staked, supply, bonus int) [3]int {
	t.Helper()
	ratio := answer(t, issue.Ratio, staked, supply)
	rate := answer(t, issue.Rate, ratio, bonus)
	return [3]int{rate, answer(t, issue.Bonus, bonus, ratio), answer(t, issue.Reward, supply, rate)}
}

func wantNoMore(t *testing.T, less, more, supply, bonus int) {
	t.Helper()
	a, b := issued(t, less, supply, bonus), issued(t, more, supply, bonus)
	for i := range a {
		if b[i] > a[i] {
			t.Fatalf("of %d with bonus %d: staked %d: %v, staked %d: %v", supply, bonus, less, a, more, b)
		}
	}
}

// P82: whoever has more staked issues no more.
func TestMoreStakedIssuesNoMore(t *testing.T) {
	l := lots.New(82)
	for range 20000 {
		supply := anyAmount(l)
		more, _ := l.Below(supply)
		less, _ := l.Below(more + 1)
		bonus, _ := l.Below(topBonus + 1)
		wantNoMore(t, less, more, supply, bonus)
		wantNoMore(t, more, more+1, supply, bonus)
		wantNoMore(t, 0, supply, supply, bonus)
	}
	for _, bonus := range []int{0, 1, 99, 100, 4900, 4901, topBonus} {
		for staked := range 3000 {
			wantNoMore(t, staked, staked+1, 3000, bonus)
		}
	}
}

// P2: the same whatever was asked ahead, also what was refused.
func TestNothingIsKept(t *testing.T) {
	for range 3 {
		wantAnswer(t, issue.Ratio, 3000, 60000, 50000)
		wantAnswer(t, issue.Rate, 50000, 100, 36100)
		wantAnswer(t, issue.Bonus, 100, 50000, 200)
		wantAnswer(t, issue.Reward, 60000, 36100, 541)
		wantBound(t, issue.Rate, -1, 0)
		wantBound(t, issue.Bonus, topBonus+1, 0)
	}
}
