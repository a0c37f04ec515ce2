package court_test

import (
	"math"
	"slices"
	"testing"

	"bakehouse/api"
	"bakehouse/court"
	"bakehouse/lots"
)

const last = api.MaxCycle

// brought is one call of Accuse, and what it must answer.
type brought struct {
	owner int
	e     api.Evidence
	cycle int
	want  error
}

func of(baker, cycle, number int) api.Evidence {
	return api.Evidence{Baker: baker, Cycle: cycle, Number: number}
}

// wantAnswers: each error is this one, bare (P3); what was taken is due then, in order, and once.
func wantAnswers(t *testing.T, c *court.Court, l ...brought) {
	t.Helper()
	var taken []court.Case
	for i, b := range l {
		if err := c.Accuse(b.owner, b.e, b.cycle); err != b.want {
			t.Errorf("%d: %v: %v", i, b, err)
		}
		if b.want == nil {
			taken = append(taken, court.Case{Owner: b.owner, E: b.e})
		}
	}
	wantDue(t, c, taken)
}

func wantDue(t *testing.T, c *court.Court, want []court.Case) {
	t.Helper()
	if got := c.Due(); !slices.Equal(got, want) {
		t.Errorf("due: %v; want %v", got, want)
	}
	if got := c.Due(); len(got) != 0 {
		t.Errorf("due again: %v", got)
	}
}

// P90, P91: a new court has nothing due, and each is one of its own.
func TestNew(t *testing.T) {
	c, d := court.New(), court.New()
	wantDue(t, c, nil)
	wantAnswers(t, c, brought{0, of(1, 2, 3), 2, nil})
	wantDue(t, d, nil)
	wantAnswers(t, d, brought{0, of(1, 2, 3), 2, nil})
}

// P90: every owner, against every baker, itself too.
func TestEveryOwnerAndBaker(t *testing.T) {
	var l []brought
	for owner := range api.Owners {
		for baker := range api.Bakers {
			l = append(l, brought{owner, of(baker, 4, owner), 4, nil})
		}
	}
	wantAnswers(t, court.New(), l...)
}

// P90: the edges of numbers and cycles.
func TestEdges(t *testing.T) {
	wantAnswers(t, court.New(),
		brought{0, of(0, 0, 0), 0, nil},
		brought{5, of(2, 0, math.MaxInt), 0, nil},
		brought{1, of(1, last, 0), last, nil},
		brought{1, of(1, last-1, 0), last, nil},
		brought{1, of(1, last-2, 0), last, nil},
	)
}

// P90: no owner, no baker, no number, no cycle.
func TestBounds(t *testing.T) {
	c := court.New()
	for _, n := range []int{math.MinInt, -1, api.Owners, math.MaxInt} {
		wantAnswers(t, c, brought{n, of(0, 5, 1), 5, api.ErrBound})
	}
	for _, n := range []int{math.MinInt, -1, api.Bakers, api.Owners - 1, math.MaxInt} {
		wantAnswers(t, c, brought{0, of(n, 5, 1), 5, api.ErrBound})
	}
	for _, n := range []int{math.MinInt, -2, -1} {
		wantAnswers(t, c, brought{0, of(0, 5, n), 5, api.ErrBound})
	}
	for _, n := range []int{math.MinInt, -1, last + 1, math.MaxInt} {
		wantAnswers(t, c, brought{0, of(0, 5, 1), n, api.ErrBound})
		wantAnswers(t, c, brought{0, of(0, n, 1), n, api.ErrBound})
	}
}

// P90: of later than now, of more than Period cycles ago, of below 0.
func TestOld(t *testing.T) {
	for _, x := range []struct {
		cycle int
		fresh []int
		old   []int
	}{
		{0, []int{0}, []int{math.MinInt, -3, -2, -1, 1, last, last + 1, math.MaxInt}},
		{1, []int{0, 1}, []int{math.MinInt, -2, -1, 2, math.MaxInt}},
		{2, []int{0, 1, 2}, []int{-1, 3}},
		{3, []int{1, 2, 3}, []int{-1, 0, 4}},
		{7, []int{5, 6, 7}, []int{-7, 0, 3, 4, 8, 9}},
		{last, []int{last - 2, last - 1, last}, []int{math.MinInt, -1, 0, last - 3, last + 1, math.MaxInt}},
	} {
		c := court.New()
		for _, n := range x.old {
			wantAnswers(t, c, brought{1, of(2, n, 0), x.cycle, api.ErrOld})
		}
		for _, n := range x.fresh {
			wantAnswers(t, c, brought{1, of(2, n, 0), x.cycle, nil})
		}
	}
}

// P90: whoever brings it, in whichever cycle, whether or not it was due meanwhile.
func TestExist(t *testing.T) {
	c := court.New()
	wantAnswers(t, c,
		brought{1, of(0, 5, 0), 5, nil},
		brought{1, of(0, 5, 0), 5, api.ErrExist},
		brought{2, of(0, 5, 0), 5, api.ErrExist},
		brought{2, of(0, 5, 0), 6, api.ErrExist},
	)
	wantAnswers(t, c, brought{3, of(0, 5, 0), 7, api.ErrExist})
	// Cycles may be told in any order: what was too old for a while was still brought before.
	wantAnswers(t, c,
		brought{1, of(0, 5, 0), 100, api.ErrOld},
		brought{1, of(0, last, 0), last, nil},
	)
	wantAnswers(t, c, brought{1, of(0, 5, 0), 5, api.ErrExist})
}

// P90: evidence is the same only if its baker, its cycle and its number are.
func TestOtherEvidence(t *testing.T) {
	wantAnswers(t, court.New(),
		brought{1, of(0, 5, 0), 6, nil},
		brought{1, of(1, 5, 0), 6, nil},
		brought{1, of(0, 6, 0), 6, nil},
		brought{1, of(0, 5, 1), 6, nil},
		brought{1, of(0, 5, 2), 6, nil},
		brought{1, of(0, 5, 0), 6, api.ErrExist},
		brought{1, of(1, 5, 0), 6, api.ErrExist},
		brought{1, of(0, 6, 0), 6, api.ErrExist},
		brought{1, of(0, 5, 1), 6, api.ErrExist},
		brought{1, of(0, 5, 2), 6, api.ErrExist},
	)
}

// P3: of several errors the bound is told first, then that it is old, then that it was brought before.
func TestOrderOfErrors(t *testing.T) {
	c := court.New()
	wantAnswers(t, c, brought{0, of(0, 5, 0), 5, nil})
	wantAnswers(t, c,
		brought{-1, of(0, 5, 0), 5, api.ErrBound},
		brought{api.Owners, of(0, 5, 0), 9, api.ErrBound},
		brought{0, of(api.Bakers, 5, 0), 9, api.ErrBound},
		brought{0, of(0, 5, -1), 9, api.ErrBound},
		brought{0, of(0, -1, -1), 0, api.ErrBound},
		brought{0, of(0, 5, 0), last + 1, api.ErrBound},
		brought{0, of(0, 5, 0), -1, api.ErrBound},
		brought{0, of(0, 5, 0), 8, api.ErrOld},
		brought{0, of(0, 5, 0), 4, api.ErrOld},
	)
}

// P3: what was refused was not brought, and may be brought as it should be.
func TestRefusedChangesNothing(t *testing.T) {
	c := court.New()
	wantAnswers(t, c,
		brought{api.Owners, of(0, 5, 0), 5, api.ErrBound},
		brought{0, of(0, 5, 0), last + 1, api.ErrBound},
		brought{0, of(0, 5, 0), 4, api.ErrOld},
		brought{0, of(0, 5, 0), 8, api.ErrOld},
	)
	wantAnswers(t, c, brought{0, of(0, 5, 0), 5, nil})
	wantAnswers(t, c, brought{3, of(0, 5, 0), 6, api.ErrExist})
}

// P91: in the order of bringing, whatever their cycles, bakers and numbers are; since the last time only.
func TestDue(t *testing.T) {
	c := court.New()
	wantAnswers(t, c,
		brought{5, of(2, 7, 9), 9, nil},
		brought{0, of(1, 9, 3), 9, nil},
		brought{5, of(2, 7, 1), 9, nil},
		brought{3, of(0, 8, 0), 9, nil},
	)
	wantAnswers(t, c)
	wantAnswers(t, c, brought{0, of(0, 0, 0), 0, nil})
	wantAnswers(t, c, brought{4, of(0, 9, 9), 9, nil})
}

// P4: what Due told is its asker's alone.
func TestDueIsNew(t *testing.T) {
	c := court.New()
	accuse := func(number int) {
		if err := c.Accuse(0, of(0, 0, number), 0); err != nil {
			t.Fatal(err)
		}
	}
	for number := range 3 {
		accuse(number)
	}
	first := c.Due()
	was := slices.Clone(first)
	accuse(3)
	accuse(4)
	if !slices.Equal(first, was) {
		t.Errorf("%v; want %v", first, was)
	}
	first[0] = court.Case{Owner: 5, E: of(2, 2, 2)}
	_ = append(first[:0], first[0], first[0], first[0], first[0])
	wantDue(t, c, []court.Case{{Owner: 0, E: of(0, 0, 3)}, {Owner: 0, E: of(0, 0, 4)}})
	for number := range 5 {
		if err := c.Accuse(0, of(0, 0, number), 0); err != api.ErrExist {
			t.Errorf("%d: %v", number, err)
		}
	}
	if err := c.Accuse(0, of(2, 2, 2), 2); err != nil {
		t.Error(err)
	}
}

// P91: even and odd, below 0 too.
func TestPercent(t *testing.T) {
	for number, want := range map[int]int{
		0: 5, 1: 50, 2: 5, 3: 50, 4: 5, 100: 5, 101: 50,
		-1: 50, -2: 5, -3: 50, math.MaxInt: 50, math.MaxInt - 1: 5, math.MinInt: 5, math.MinInt + 1: 50,
	} {
		if got := court.Percent(number); got != want {
			t.Errorf("%d: %d", number, got)
		}
	}
}

// P91: a seventh, down, and the rest.
func TestShare(t *testing.T) {
	for _, x := range [][3]int{
		{0, 0, 0}, {1, 0, 1}, {6, 0, 6}, {7, 1, 6}, {8, 1, 7}, {13, 1, 12}, {14, 2, 12}, {50, 7, 43},
		{api.MaxAmount, 160842843834660, 965057063007964},
		{math.MaxInt, 1317624576693539401, 7905747460161236406},
		{-1, 0, 0}, {-7, 0, 0}, {-50, 0, 0}, {math.MinInt, 0, 0},
	} {
		if toOwner, burned := court.Share(x[0]); toOwner != x[1] || burned != x[2] {
			t.Errorf("%d: %d, %d", x[0], toOwner, burned)
		}
	}
	for lost := range 1000 {
		toOwner, burned := court.Share(lost)
		if toOwner+burned != lost || 7*toOwner > lost || 7*(toOwner+1) <= lost {
			t.Errorf("%d: %d, %d", lost, toOwner, burned)
		}
	}
}

// should tell what Accuse answers, by all that was taken ahead.
func should(b brought, taken []court.Case) error {
	switch {
	case b.owner < 0 || b.owner > 5 || b.e.Baker < 0 || b.e.Baker > 2 || b.e.Number < 0 || b.cycle < 0:
		return api.ErrBound
	case b.e.Cycle > b.cycle || b.e.Cycle < b.cycle-2 || b.e.Cycle < 0:
		return api.ErrOld
	case slices.ContainsFunc(taken, func(c court.Case) bool { return c.E == b.e }):
		return api.ErrExist
	}
	return nil
}

// P90 to P92: many calls, with Due now and then: all that was taken is due once, in order, and no evidence twice.
func TestManyCalls(t *testing.T) {
	c, l := court.New(), lots.New(90)
	below := func(n int) int {
		k, _ := l.Below(n)
		return k
	}
	var taken, judged []court.Case
	for range 20000 {
		b := brought{below(8) - 1, of(below(5)-1, below(9)-1, below(6)-1), below(9) - 1, nil}
		b.want = should(b, taken)
		if err := c.Accuse(b.owner, b.e, b.cycle); err != b.want {
			t.Fatalf("%v: %v", b, err)
		}
		if b.want == nil {
			taken = append(taken, court.Case{Owner: b.owner, E: b.e})
		}
		if below(10) == 0 {
			judged = append(judged, c.Due()...)
		}
	}
	judged = append(judged, c.Due()...)
	if !slices.Equal(judged, taken) {
		t.Errorf("judged %v; taken %v", judged, taken)
	}
	seen := map[api.Evidence]int{}
	for _, x := range judged {
		seen[x.E]++
		if seen[x.E] > 1 {
			t.Errorf("judged twice: %v", x.E)
		}
	}
	// Bakers 3, cycles 0 to 7, numbers 0 to 4: so many that all of them were brought.
	if len(judged) != 3*8*5 {
		t.Errorf("%d cases", len(judged))
	}
}
