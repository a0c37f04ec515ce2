package purse_test

import (
	"math"
	"testing"

	"bakehouse/api"
	"bakehouse/purse"
)

const most = api.MaxAmount

// state is all that a purse tells.
type state struct {
	has    [api.Owners]int
	supply int
}

func look(p *purse.Purse) state {
	s := state{supply: p.Supply()}
	for owner := range s.has {
		s.has[owner] = p.Has(owner)
	}
	return s
}

type step = func(*purse.Purse) error

func mint(owner, n int) step {
	return func(p *purse.Purse) error { return p.Mint(owner, n) }
}

func grow(n int) step { return func(p *purse.Purse) error { return p.Grow(n) } }

func burn(n int) step { return func(p *purse.Purse) error { return p.Burn(n) } }

func out(owner, n int) step {
	return func(p *purse.Purse) error { return p.Out(owner, n) }
}

func in(owner, n int) step {
	return func(p *purse.Purse) error { return p.In(owner, n) }
}

func move(from, to, n int) step {
	return func(p *purse.Purse) error { return p.Move(from, to, n) }
}

// made is a purse after steps, none of which may fail.
func made(t *testing.T, steps ...step) *purse.Purse {
	t.Helper()
	p := purse.New()
	for i, s := range steps {
		if err := s(p); err != nil {
			t.Fatalf("step %d: %v", i, err)
		}
	}
	return p
}

// wantRefused: the error is this one, bare, and the purse is as it was (P3).
func wantRefused(t *testing.T, p *purse.Purse, s step, err error) {
	t.Helper()
	was := look(p)
	if got := s(p); got != err {
		t.Errorf("%v; want %v", got, err)
	}
	if now := look(p); now != was {
		t.Errorf("changed by a call that failed: %v, was %v", now, was)
	}
}

// wantNobodys: just so much of supply is of nobody's: all of it can be burned, and not one more then.
func wantNobodys(t *testing.T, p *purse.Purse, n int) {
	t.Helper()
	if err := p.Burn(n); err != nil {
		t.Errorf("Burn(%d): %v", n, err)
	}
	wantRefused(t, p, burn(1), api.ErrShort)
}

var noOwners = []int{math.MinInt, -1, api.Owners, most, math.MaxInt}

var noAmounts = []int{math.MinInt, -most, -1, most + 1, math.MaxInt}

// P50: a new purse has nothing, and each is one of its own.
func TestNew(t *testing.T) {
	p, q := purse.New(), purse.New()
	if err := p.Mint(0, 5); err != nil {
		t.Fatal(err)
	}
	if now := look(q); now != (state{}) {
		t.Error(now)
	}
	wantNobodys(t, q, 0)
}

// P50: who is no owner has nothing to spend.
func TestHasOfNoOwner(t *testing.T) {
	p := purse.New()
	for owner := range api.Owners {
		if err := p.Mint(owner, 10+owner); err != nil {
			t.Fatal(err)
		}
	}
	for _, n := range noOwners {
		if p.Has(n) != 0 {
			t.Errorf("Has(%d): %d", n, p.Has(n))
		}
	}
	for owner := range api.Owners {
		if p.Has(owner) != 10+owner {
			t.Errorf("Has(%d): %d", owner, p.Has(owner))
		}
	}
}

// P51: what each call does to what owners may spend, to supply, and to what is of nobody's.
func TestSteps(t *testing.T) {
	for i, c := range []struct {
		steps   []step
		has     [api.Owners]int
		supply  int
		nobodys int
	}{
		{[]step{mint(0, 0)}, [api.Owners]int{}, 0, 0},
		{[]step{mint(0, 7)}, [api.Owners]int{7}, 7, 0},
		{[]step{mint(5, 7), mint(5, 1), mint(1, 2)}, [api.Owners]int{1: 2, 5: 8}, 10, 0},
		{[]step{mint(3, most)}, [api.Owners]int{3: most}, most, 0},
		{[]step{mint(3, most-1), mint(4, 1)}, [api.Owners]int{3: most - 1, 4: 1}, most, 0},
		{[]step{mint(3, most), mint(4, 0)}, [api.Owners]int{3: most}, most, 0},

		{[]step{grow(0)}, [api.Owners]int{}, 0, 0},
		{[]step{grow(9)}, [api.Owners]int{}, 9, 9},
		{[]step{mint(2, 4), grow(9)}, [api.Owners]int{2: 4}, 13, 9},
		{[]step{grow(most - 1), grow(1)}, [api.Owners]int{}, most, most},
		{[]step{grow(most), grow(0)}, [api.Owners]int{}, most, most},

		{[]step{burn(0)}, [api.Owners]int{}, 0, 0},
		{[]step{mint(0, 3), burn(0)}, [api.Owners]int{3}, 3, 0},
		{[]step{mint(0, 3), grow(9), burn(4)}, [api.Owners]int{3}, 8, 5},
		{[]step{grow(most), burn(most)}, [api.Owners]int{}, 0, 0},
		{[]step{mint(0, 5), out(0, 5), burn(5), mint(0, most)}, [api.Owners]int{most}, most, 0},

		{[]step{out(4, 0)}, [api.Owners]int{}, 0, 0},
		{[]step{mint(4, 10), out(4, 3)}, [api.Owners]int{4: 7}, 10, 3},
		{[]step{mint(4, 10), mint(5, 1), out(4, 10)}, [api.Owners]int{5: 1}, 11, 10},
		{[]step{mint(0, most), out(0, most)}, [api.Owners]int{}, most, most},

		{[]step{in(4, 0)}, [api.Owners]int{}, 0, 0},
		{[]step{grow(9), in(4, 5)}, [api.Owners]int{4: 5}, 9, 4},
		{[]step{mint(0, 2), grow(9), in(0, 9)}, [api.Owners]int{11}, 11, 0},
		{[]step{mint(0, 8), out(0, 6), in(5, 4)}, [api.Owners]int{0: 2, 5: 4}, 8, 2},
		{[]step{grow(most), in(5, most)}, [api.Owners]int{5: most}, most, 0},

		{[]step{move(0, 5, 0)}, [api.Owners]int{}, 0, 0},
		{[]step{mint(0, 8), move(0, 5, 3)}, [api.Owners]int{0: 5, 5: 3}, 8, 0},
		{[]step{mint(0, 8), mint(5, 1), grow(2), move(0, 5, 8)}, [api.Owners]int{5: 9}, 11, 2},
		{[]step{mint(5, most), move(5, 0, most)}, [api.Owners]int{most}, most, 0},
		{[]step{mint(2, 8), move(2, 2, 8)}, [api.Owners]int{2: 8}, 8, 0},
		{[]step{mint(2, 8), move(2, 2, 3)}, [api.Owners]int{2: 8}, 8, 0},
	} {
		p := made(t, c.steps...)
		if now := look(p); now != (state{c.has, c.supply}) {
			t.Errorf("%d: %v", i, now)
		}
		wantNobodys(t, p, c.nobodys)
	}
}

// P51: ErrBound of a number that is no owner, ahead of ErrShort.
func TestNoOwner(t *testing.T) {
	p := made(t, mint(0, 100), grow(50))
	for _, no := range noOwners {
		for _, n := range []int{0, 1, 1000} {
			for _, s := range []step{mint(no, n), out(no, n), in(no, n), move(no, 0, n), move(0, no, n), move(no, no, n)} {
				wantRefused(t, p, s, api.ErrBound)
			}
		}
	}
	wantNobodys(t, p, 50)
}

// P51: ErrBound of what is no amount, ahead of ErrShort.
func TestNoAmount(t *testing.T) {
	p := made(t, mint(0, 100), grow(50))
	for _, n := range noAmounts {
		for _, s := range []step{mint(0, n), grow(n), burn(n), out(0, n), in(0, n), move(0, 1, n), move(0, 0, n)} {
			wantRefused(t, p, s, api.ErrBound)
		}
	}
	wantNobodys(t, p, 50)
}

// P51: ErrBound where supply would be more than MaxAmount, whoever has it.
func TestTooMuchSupply(t *testing.T) {
	for _, steps := range [][]step{
		{mint(0, most)},
		{grow(most)},
		{mint(0, most-5), mint(1, 2), grow(3)},
		{mint(0, most), out(0, most)},
	} {
		p := made(t, steps...)
		for _, s := range []step{mint(0, 1), mint(5, 1), mint(5, most), grow(1), grow(most)} {
			wantRefused(t, p, s, api.ErrBound)
		}
	}
	p := made(t, mint(0, 1))
	wantRefused(t, p, mint(1, most), api.ErrBound)
	wantRefused(t, p, grow(most), api.ErrBound)
}

// P51: ErrShort where an owner has less, though others, or nobody, have enough.
func TestOwnerIsShort(t *testing.T) {
	p := made(t, mint(0, 10), mint(1, 100), grow(1000))
	for _, s := range []step{
		out(0, 11), out(0, most), out(2, 1), out(2, 100),
		move(0, 1, 11), move(0, 0, 11), move(2, 1, 1), move(2, 2, 1), move(0, 1, most),
	} {
		wantRefused(t, p, s, api.ErrShort)
	}
	wantNobodys(t, p, 1000)
}

// P51: ErrShort where supply less what all may spend is less, though owners have enough.
func TestNobodyIsShort(t *testing.T) {
	p := made(t, mint(0, 100), mint(3, 10), out(0, 4), grow(5))
	for _, s := range []step{burn(10), burn(111), burn(most), in(0, 10), in(5, 10), in(3, most)} {
		wantRefused(t, p, s, api.ErrShort)
	}
	wantNobodys(t, p, 9)
	for _, s := range []step{burn(1), in(0, 1), in(5, 1)} {
		wantRefused(t, p, s, api.ErrShort)
	}
}

// model is a purse told again, with supply as a number of its own.
type model struct {
	has    [api.Owners]int
	supply int
}

func (m *model) spend() int {
	sum := 0
	for _, n := range m.has {
		sum += n
	}
	return sum
}

// do makes one step of a kind, and tells its error.
func (m *model) do(kind, owner, to, n int) error {
	no := func(i int) bool { return i < 0 || i > 5 }
	rest := m.supply - m.spend()
	switch {
	case n < 0 || n > most, kind > 1 && no(owner), kind == 5 && no(to):
		return api.ErrBound
	case (kind == 0 || kind == 2) && m.supply+n > most:
		return api.ErrBound
	case (kind == 1 || kind == 4) && n > rest:
		return api.ErrShort
	case (kind == 3 || kind == 5) && n > m.has[owner]:
		return api.ErrShort
	}
	m.supply += []int{n, -n, n, 0, 0, 0}[kind]
	if kind > 1 {
		m.has[owner] += []int{0, 0, n, -n, n, -n}[kind]
	}
	if kind == 5 {
		m.has[to] += n
	}
	return nil
}

func stepOf(kind, owner, to, n int) step {
	return []step{grow(n), burn(n), mint(owner, n), out(owner, n), in(owner, n), move(owner, to, n)}[kind]
}

// P50, P51, P52: after any calls a purse tells what the model tells, and all may spend at most supply.
func TestManySteps(t *testing.T) {
	lcg := uint64(5)
	next := func(n int) int {
		lcg = lcg*6364136223846793005 + 1442695040888963407
		return int(lcg >> 33 % uint64(n))
	}
	told := map[error]int{}
	for range 200 {
		p, m := purse.New(), &model{}
		scale := []int{1, 10, most / 20, most / 3}[next(4)]
		for range 200 {
			kind, owner, to := next(6), next(8)-1, next(8)-1
			n := (next(12) - 1) * scale
			want := m.do(kind, owner, to, n)
			if err := stepOf(kind, owner, to, n)(p); err != want {
				t.Fatalf("kind %d, %d to %d, %d: %v; want %v", kind, owner, to, n, err, want)
			}
			told[want]++
			now := look(p)
			if now != state(*m) {
				t.Fatalf("kind %d, %d to %d, %d: %v; want %v", kind, owner, to, n, now, *m)
			}
			if m.spend() > now.supply || now.supply > most {
				t.Fatalf("all may spend %d of %d", m.spend(), now.supply)
			}
		}
	}
	if told[nil] < 1000 || told[api.ErrBound] < 1000 || told[api.ErrShort] < 1000 {
		t.Error("the steps are too much of one kind:", told)
	}
}
