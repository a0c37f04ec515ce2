package bound_test

import (
	"math"
	"testing"

	"bakehouse/api"
	"bakehouse/bound"
)

func TestBounds(t *testing.T) {
	for _, c := range []struct {
		n                                 int
		amount, some, owner, baker, cycle bool
	}{
		{math.MinInt, false, false, false, false, false},
		{-1, false, false, false, false, false},
		{0, true, false, true, true, true},
		{1, true, true, true, true, true},
		{api.Bakers - 1, true, true, true, true, true},
		{api.Bakers, true, true, true, false, true},
		{api.Owners - 1, true, true, true, false, true},
		{api.Owners, true, true, false, false, true},
		{api.MaxCycle, true, true, false, false, true},
		{api.MaxCycle + 1, true, true, false, false, false},
		{api.MaxAmount, true, true, false, false, false},
		{api.MaxAmount + 1, false, false, false, false, false},
		{math.MaxInt, false, false, false, false, false},
	} {
		if bound.Amount(c.n) != c.amount || bound.Some(c.n) != c.some || bound.Owner(c.n) != c.owner {
			t.Errorf("%d: %v %v %v", c.n, bound.Amount(c.n), bound.Some(c.n), bound.Owner(c.n))
		}
		if bound.Baker(c.n) != c.baker || bound.Cycle(c.n) != c.cycle {
			t.Errorf("%d: %v %v", c.n, bound.Baker(c.n), bound.Cycle(c.n))
		}
	}
}

func TestMillionths(t *testing.T) {
	for n, want := range map[int]bool{
		math.MinInt: false, -1: false, 0: true, 1: true, 999999: true, 1000000: true, 1000001: false, math.MaxInt: false,
	} {
		if bound.Millionths(n) != want {
			t.Errorf("%d: %v", n, !want)
		}
	}
	if bound.Whole != 1000000 {
		t.Error(bound.Whole)
	}
}
