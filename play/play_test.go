package play_test

import (
	"errors"
	"math"
	"slices"
	"testing"

	"bakehouse/api"
	"bakehouse/chain"
	"bakehouse/lots"
	"bakehouse/play"
)

// seen is all that a chain tells of itself; what waits is that of all cycles up to this one, if there are no more than 40.
type seen struct {
	cycle, level, bonus, supply, total int
	has                                [6]int
	staked                             [3]int
	value                              [3][6]int
	waits                              [3][6][40]int
	turns                              [8]int
}

func look(t *testing.T, c *chain.Chain) seen {
	t.Helper()
	s := c.Stakes()
	now := seen{cycle: c.Cycle(), level: c.Level(), bonus: c.Bonus(), supply: c.Supply(), total: s.Total()}
	for o := range now.has {
		now.has[o] = c.Has(o)
	}
	for b := range now.staked {
		now.staked[b] = s.Staked(b)
		for o := range now.has {
			now.value[b][o] = s.Value(o, b)
			for k := range now.waits[b][o] {
				now.waits[b][o][k] = s.Waits(o, b, c.Cycle()-k)
			}
		}
	}
	for r := range now.turns {
		k, err := c.Turn(r)
		if err != nil {
			t.Fatal(err)
		}
		now.turns[r] = k
	}
	return now
}

// number of a call: the other way round than a play reads it.
func number(kind, owner, baker, rest int) int { return kind + 8*(owner+6*(baker+3*rest)) }

// code of a bare error, by the numbers that package plain has for them.
func code(t *testing.T, err error) int {
	t.Helper()
	if err == nil {
		return 0
	}
	for i, e := range []error{api.ErrText, api.ErrBound, api.ErrShape, api.ErrNone, api.ErrExist, api.ErrShort, api.ErrSmall, api.ErrGone, api.ErrTurn, api.ErrOld} {
		if err == e {
			return i + 1
		}
	}
	t.Fatal(err)
	return 0
}

// byHand: what the call of a number tells, made as the document says it, one word after the other.
func byHand(t *testing.T, c *chain.Chain, v int) int {
	t.Helper()
	if v < 0 {
		return -1
	}
	q := (v - v%8) / 8
	o := q % 6
	b := (q / 6) % 3
	n := 1 + (q/18)%2000
	kinds := []func() error{
		func() error { return c.Pay(o, b, n) },
		func() error { return c.Stake(o, b, n) },
		func() error { return c.Unstake(o, b, n) },
		func() error { _, err := c.Free(o); return err },
		func() error {
			return c.Accuse(o, api.Evidence{Baker: b, Cycle: c.Cycle() - (q/18)%4, Number: (q / 72) % 5})
		},
	}
	if v%8 < len(kinds) {
		return code(t, kinds[v%8]())
	}
	k, turn := c.Turn(q % 8)
	_, err := c.Bake(k, q%8)
	if turn != nil && err != turn {
		t.Fatal(err, turn)
	}
	return code(t, err)
}

func wantAnswers(t *testing.T, got []int, want ...int) {
	t.Helper()
	if !slices.Equal(got, want) {
		t.Errorf("%v; want %v", got, want)
	}
}

// P110: pay, by who, to whom and how much; also the least and the most of each.
func TestPay(t *testing.T) {
	c := chain.New(1)
	wantAnswers(t, play.Run(c, []int{
		number(0, 0, 0, 0),    // 1 to itself
		number(0, 0, 1, 0),    // 1
		number(0, 5, 2, 1999), // 2000
		number(0, 4, 2, 2000), // 1: it goes round
		number(0, 3, 0, 36),   // 37
	}), 0, 0, 0, 0, 0)
	for o, want := range []int{9036, 9001, 11001, 9963, 9999, 8000} {
		if c.Has(o) != want {
			t.Errorf("owner %d has %d; want %d", o, c.Has(o), want)
		}
	}
	// 5 times 2000 are more than owner 3 has.
	v := number(0, 3, 1, 1999)
	wantAnswers(t, play.Run(c, []int{v, v, v, v, v, v}), 0, 0, 0, 0, 6, 6)
	if c.Has(3) != 1963 || c.Has(1) != 17001 {
		t.Error(c.Has(3), c.Has(1))
	}
}

// P110: stake, unstake and free.
func TestStakes(t *testing.T) {
	c := chain.New(1)
	wantAnswers(t, play.Run(c, []int{
		number(1, 5, 2, 299), // 300
		number(2, 5, 2, 300), // 301: it has less
		number(2, 5, 2, 99),  // 100
		number(2, 4, 2, 99),  // it has nothing there
		number(3, 5, 0, 0),   // nothing is free yet
		number(1, 3, 0, 1999), number(1, 3, 0, 1999), number(1, 3, 0, 1999), number(1, 3, 0, 1999), number(1, 3, 0, 1999), number(1, 3, 0, 0),
	}), 0, 6, 0, 6, 4, 0, 0, 0, 0, 0, 6)
	s := c.Stakes()
	if s.Value(5, 2) != 200 || s.Waits(5, 2, 0) != 100 || c.Has(5) != 9700 {
		t.Error(s.Value(5, 2), s.Waits(5, 2, 0), c.Has(5))
	}
	if s.Value(3, 0) != 10000 || c.Has(3) != 0 {
		t.Error(s.Value(3, 0), c.Has(3))
	}
	for range 3 {
		wantAnswers(t, play.Run(c, []int{number(3, 5, 2, 0), 5, 6, 7, 5}), 4, 0, 0, 0, 0)
	}
	// Only the owner counts of who frees.
	wantAnswers(t, play.Run(c, []int{number(3, 5, 1, 77), number(3, 5, 1, 77)}), 0, 4)
	if c.Has(5) != 9800 || s.Waits(5, 2, 0) != 0 {
		t.Error(c.Has(5), s.Waits(5, 2, 0))
	}
}

// P110: evidence of this cycle and of those ahead, the same and another one, too old, and of no cycle.
func TestAccuse(t *testing.T) {
	of := func(owner, baker, age, n int) int { return number(4, owner, baker, age+4*n) }
	c := chain.New(1)
	wantAnswers(t, play.Run(c, []int{
		of(3, 0, 0, 0), of(4, 0, 0, 0), of(4, 0, 0, 4), of(4, 0, 0, 5), of(4, 1, 0, 0),
		of(3, 0, 1, 0), of(3, 0, 2, 0), of(3, 0, 3, 0),
		of(3, 0, 0, 1), of(3, 0, 0, 6), // 6 is 1
	}), 0, 5, 0, 5, 0, 10, 10, 10, 0, 5)
	for range 4 {
		play.Run(c, []int{5, 5, 5, 5})
	}
	wantAnswers(t, play.Run(c, []int{of(3, 2, 3, 1), of(3, 2, 2, 1), of(3, 2, 1, 1), of(3, 2, 0, 1), of(3, 2, 0, 1), of(3, 2, 2, 1)}), 10, 0, 0, 0, 5, 5)
}

// P110: by whose evidence, and by which number, is to be seen in what is slashed.
func TestAccuseSlashes(t *testing.T) {
	for n, percent := range []int{5, 50, 5, 50, 5} {
		c, d := chain.New(9), chain.New(9)
		play.Run(c, []int{number(4, 4, 1, 4*n)})
		blocks := []int{5, 5, 5, 5}
		wantAnswers(t, play.Run(c, blocks), 0, 0, 0, 0)
		play.Run(d, blocks)
		lost := d.Stakes().Staked(1) - c.Stakes().Staked(1)
		// What is lost is rounded, by up to 1.
		if near := d.Stakes().Staked(1) * percent / 100; lost < near || lost > near+1 {
			t.Errorf("number %d: %d lost; want some %d", n, lost, near)
		}
		if got := c.Has(4) - d.Has(4); got != lost/7 {
			t.Errorf("number %d: %d of %d", n, got, lost)
		}
		if c.Stakes().Staked(0) != d.Stakes().Staked(0) || c.Stakes().Staked(2) != d.Stakes().Staked(2) {
			t.Error("another baker lost, too")
		}
	}
}

// P110: 5, 6 and 7 are blocks, of the round that q tells, by whose turn it is then.
func TestBake(t *testing.T) {
	rounds := 0
	for seed := range uint64(40) {
		for q := range 20 {
			for kind := 5; kind < 8; kind++ {
				c, d := chain.New(seed), chain.New(seed)
				wantAnswers(t, play.Run(c, []int{8*q + kind}), 0)
				k, err := d.Turn(q % 8)
				if err != nil {
					t.Fatal(err)
				}
				if other, _ := d.Turn(0); other != k {
					rounds++
				}
				if _, err := d.Bake(k, q%8); err != nil {
					t.Fatal(err)
				}
				if look(t, c) != look(t, d) {
					t.Fatal(seed, q, kind)
				}
			}
		}
	}
	if rounds < 100 {
		t.Error("rounds are all one: ", rounds)
	}
}

// P110: a number below 0 does nothing, and the play goes on behind it.
func TestBelowZero(t *testing.T) {
	c := chain.New(4)
	was := look(t, c)
	wantAnswers(t, play.Run(c, []int{-1, -2, -3, -4, -5, -6, -7, -8, -9, -13, math.MinInt, math.MinInt + 1}), -1, -1, -1, -1, -1, -1, -1, -1, -1, -1, -1, -1)
	if look(t, c) != was {
		t.Error("something was done")
	}
	wantAnswers(t, play.Run(c, []int{-1, 5, -1, 5}), -1, 0, -1, 0)
	if c.Level() != 2 {
		t.Error(c.Level())
	}
}

// P110, P3: no script, no answers.
func TestEmpty(t *testing.T) {
	c := chain.New(4)
	was := look(t, c)
	wantAnswers(t, play.Run(c, nil))
	wantAnswers(t, play.Run(c, []int{}))
	wantAnswers(t, play.Run(c, []int{5, 5}[:0]))
	if look(t, c) != was {
		t.Error("something was done")
	}
}

// P110: the steps behind MaxSteps are not made, and have no answer; numbers below 0 are steps, too.
func TestMaxSteps(t *testing.T) {
	for _, n := range []int{api.MaxSteps - 1, api.MaxSteps, api.MaxSteps + 1, 3 * api.MaxSteps} {
		c := chain.New(4)
		script := make([]int, n)
		for i := range script {
			script[i] = number(0, 5, 0, 0)
			if i%2 == 0 {
				script[i] = -1
			}
		}
		steps := min(n, 3000)
		answers := play.Run(c, script)
		if len(answers) != steps {
			t.Fatalf("%d answers of %d", len(answers), n)
		}
		for i, a := range answers {
			if want := i%2 - 1; a != want {
				t.Fatalf("%d: %d", i, a)
			}
		}
		if c.Has(5) != 10000-steps/2 {
			t.Errorf("%d: %d", n, c.Has(5))
		}
	}
}

// P110, P1: the greatest numbers of all.
func TestGreatest(t *testing.T) {
	for k := range 2000 {
		c, d := chain.New(6), chain.New(6)
		v := math.MaxInt - k
		wantAnswers(t, play.Run(c, []int{v}), byHand(t, d, v))
		if look(t, c) != look(t, d) {
			t.Fatal(v)
		}
	}
}

// P3, P4: a script is only read, and none of it behind its length; answers are new each time.
func TestOwnMemory(t *testing.T) {
	whole := []int{5, number(0, 3, 1, 8), -1, 6, 7, 5}
	was := slices.Clone(whole)
	c := chain.New(5)
	a := play.Run(c, whole[:4])
	if !slices.Equal(whole, was) || c.Level() != 2 {
		t.Error(whole, c.Level())
	}
	b := play.Run(c, whole[:4])
	for i := range a {
		a[i] = 77
	}
	wantAnswers(t, b, 0, 0, -1, 0)
	b = append(b, 88)
	if !slices.Equal(whole, was) {
		t.Error(whole, b)
	}
}

// makeNumber: of calls that come to pass, mostly.
func makeNumber(below func(int) int) int {
	switch below(12) {
	case 0:
		return -1 - below(20)
	case 1:
		return below(math.MaxInt)
	case 2, 3:
		return 5 + below(3) + 8*below(100)
	}
	rest := below(2000)
	if below(2) == 0 {
		rest = below(60)
	}
	return number(below(8), below(6), below(3), rest)
}

func makeScript(below func(int) int, n int) []int {
	script := make([]int, n)
	for i := range script {
		script[i] = makeNumber(below)
	}
	return script
}

func lotsOf(seed uint64) func(int) int {
	l := lots.New(seed)
	return func(n int) int {
		k, err := l.Below(n)
		if err != nil { // a number beyond a lot's bound
			return int(l.Next() >> 1)
		}
		return k
	}
}

// P110: each step is what it is by hand, on any chain.
func TestManySteps(t *testing.T) {
	below := lotsOf(110)
	told := map[[2]int]int{}
	for i := range 60 {
		c, d := chain.New(uint64(i)), chain.New(uint64(i))
		script := makeScript(below, 600)
		for at, v := range script {
			want := byHand(t, d, v)
			wantAnswers(t, play.Run(c, []int{v}), want)
			if at%10 == 0 && look(t, c) != look(t, d) {
				t.Fatal(i, at, v)
			}
			told[[2]int{v & 7, want}]++
		}
		if look(t, c) != look(t, d) {
			t.Fatal(i)
		}
	}
	for _, x := range [][2]int{{0, 0}, {0, 6}, {1, 0}, {1, 6}, {2, 0}, {2, 6}, {3, 0}, {3, 4}, {4, 0}, {4, 5}, {4, 10}, {5, 0}, {6, 0}, {7, 0}, {7, -1}} {
		if told[x] < 10 {
			t.Errorf("kind %d told %d but %d times", x[0], x[1], told[x])
		}
	}
}

// P112, P2: the same script makes the same play: in one piece or in many, whatever else is played ahead or meanwhile.
func TestSamePlay(t *testing.T) {
	below := lotsOf(112)
	for i := range 40 {
		seed := uint64(below(1 << 30))
		script := makeScript(below, 200)
		a, b, other := chain.New(seed), chain.New(seed), chain.New(seed+1)
		want := play.Run(a, script)
		var got []int
		for rest := script; len(rest) > 0; {
			n := 1 + below(len(rest))
			got = append(got, play.Run(b, rest[:n])...)
			play.Run(other, rest[n:])
			rest = rest[n:]
		}
		wantAnswers(t, got, want...)
		if look(t, a) != look(t, b) || play.Add(a) != play.Add(b) {
			t.Fatal(i, play.Add(a), play.Add(b))
		}
	}
}

// P110: other seeds have other turns, so that the same script makes another play there.
func TestOtherSeed(t *testing.T) {
	blocks := slices.Repeat([]int{5}, 40)
	a, b := chain.New(1), chain.New(2)
	wantAnswers(t, play.Run(a, blocks), play.Run(b, blocks)...)
	if look(t, a) == look(t, b) {
		t.Error("the same")
	}
}

// P111: what a new chain has, and what moves from one sum to another.
func TestAdd(t *testing.T) {
	c := chain.New(1)
	want := func(w play.Sums) {
		t.Helper()
		if got := play.Add(c); got != w {
			t.Errorf("%v; want %v", got, w)
		}
	}
	want(play.Sums{Spend: 57000, Staked: 3000, Supply: 60000})
	play.Run(c, []int{number(0, 5, 0, 99)})
	want(play.Sums{Spend: 57000, Staked: 3000, Supply: 60000})
	play.Run(c, []int{number(1, 5, 0, 499)})
	want(play.Sums{Spend: 56500, Staked: 3500, Supply: 60000})
	// What waits is counted as staked until it is freed.
	play.Run(c, []int{number(2, 5, 0, 199)})
	want(play.Sums{Spend: 56500, Staked: 3500, Supply: 60000})
	k, err := c.Turn(0)
	if err != nil {
		t.Fatal(err)
	}
	n, err := c.Bake(k, 0)
	if err != nil || n == 0 {
		t.Fatal(n, err)
	}
	want(play.Sums{Spend: 56500, Staked: 3500 + n, Supply: 60000 + n})
}

// P111: sums are those of the chain, and looking changes nothing.
func TestAddAnyChain(t *testing.T) {
	below := lotsOf(111)
	for i := range 60 {
		c := chain.New(uint64(i))
		for range 10 {
			play.Run(c, makeScript(below, 30))
			was := look(t, c)
			got := play.Add(c)
			want := play.Sums{Staked: c.Stakes().Total(), Supply: c.Supply()}
			for o := range 6 {
				want.Spend += c.Has(o)
			}
			if got != want || got.Spend+got.Staked != got.Supply || look(t, c) != was {
				t.Fatal(got, want)
			}
		}
	}
}

// P110, P1: behind the last level of all there is no turn, and what else may be done, may be done still.
func TestLastLevel(t *testing.T) {
	c := chain.New(3)
	for b := range 3 {
		if err := c.Unstake(b, b, 1000); err != nil {
			t.Fatal(err)
		}
	}
	blocks := slices.Repeat([]int{5}, api.MaxSteps)
	for c.Level() <= api.MaxCycle*api.Blocks {
		answers := play.Run(c, blocks[:min(len(blocks), api.MaxCycle*api.Blocks+1-c.Level())])
		if slices.Max(answers) != 0 {
			t.Fatal(c.Level(), answers)
		}
	}
	wantAnswers(t, play.Run(c, []int{5, 6, 7, 8*7 + 5, number(0, 3, 0, 0), number(4, 3, 0, 2), number(3, 0, 0, 0)}), 2, 2, 2, 2, 0, 0, 0)
	if _, err := c.Turn(0); !errors.Is(err, api.ErrBound) {
		t.Error(err)
	}
}
