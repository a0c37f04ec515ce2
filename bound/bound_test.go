package bound_test

import (
	"math"
	"testing"

	"bakehouse/api"
	"bakehouse/bound"
)

func TestBounds(t *testing.T) {
	for _, c := range []struct {
		n                   int
		amount, some, owner bool
	}{
		{math.MinInt, false, false, false},
		{-1, false, false, false},
		{0, true, false, true},
		{1, true, true, true},
		{api.Owners - 1, true, true, true},
		{api.Owners, true, true, false},
		{api.MaxAmount, true, true, false},
		{api.MaxAmount + 1, false, false, false},
		{math.MaxInt, false, false, false},
	} {
		if bound.Amount(c.n) != c.amount || bound.Some(c.n) != c.some || bound.Owner(c.n) != c.owner {
			t.Errorf("%d: %v %v %v", c.n, bound.Amount(c.n), bound.Some(c.n), bound.Owner(c.n))
		}
	}
}
