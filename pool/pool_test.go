package pool_test

import (
	"math"
	"math/big"
	"testing"

	"bakehouse/api"
	"bakehouse/pool"
)

const most = api.MaxAmount

// state is all that a pool tells, of numbers that are no owners, too.
type state struct {
	total, all    int
	shares, value [api.Owners + 2]int
}

func look(p *pool.Pool) state {
	s := state{total: p.Total(), all: p.All()}
	for i := range s.shares {
		s.shares[i], s.value[i] = p.Shares(i-1), p.Value(i-1)
	}
	return s
}

// made is a pool after joins (owner, n), adds and slashes, none of which may fail.
func made(t *testing.T, steps ...func(*pool.Pool) error) *pool.Pool {
	t.Helper()
	p := pool.New()
	for i, step := range steps {
		if err := step(p); err != nil {
			t.Fatalf("step %d: %v", i, err)
		}
	}
	return p
}

func join(owner, n int) func(*pool.Pool) error {
	return func(p *pool.Pool) error { return p.Join(owner, n) }
}

func take(owner, n int) func(*pool.Pool) error {
	return func(p *pool.Pool) error { return p.Take(owner, n) }
}

func add(n int) func(*pool.Pool) error {
	return func(p *pool.Pool) error { return p.Add(n) }
}

func leave(owner int) func(*pool.Pool) error {
	return func(p *pool.Pool) error { _, err := p.Leave(owner); return err }
}

func slash(percent int) func(*pool.Pool) error {
	return func(p *pool.Pool) error { _, err := p.Slash(percent); return err }
}

type steps = []func(*pool.Pool) error

// want holds total, all shares and an owner's shares against what a pool tells.
func want(t *testing.T, p *pool.Pool, total, all, owner, shares int) {
	t.Helper()
	if p.Total() != total || p.All() != all || p.Shares(owner) != shares {
		t.Errorf("total %d, all %d, shares of %d: %d; want %d, %d, %d", p.Total(), p.All(), owner, p.Shares(owner), total, all, shares)
	}
}

// wantRefused: the error is this one, bare, and the pool is as it was (P3).
func wantRefused(t *testing.T, p *pool.Pool, step func(*pool.Pool) error, err error) {
	t.Helper()
	was := look(p)
	if got := step(p); got != err {
		t.Errorf("%v; want %v", got, err)
	}
	if now := look(p); now != was {
		t.Errorf("changed by a call that failed: %v, was %v", now, was)
	}
}

// P20: a new pool is empty, whoever is asked for.
func TestNew(t *testing.T) {
	if now := look(pool.New()); now != (state{}) {
		t.Error(now)
	}
	p, q := pool.New(), pool.New()
	p.Join(0, 5)
	want(t, q, 0, 0, 0, 0)
}

// P20: shares times total over all shares, down.
func TestValue(t *testing.T) {
	for i, c := range []struct {
		p                   *pool.Pool
		owner, shares, owns int
	}{
		{made(t, join(0, 10)), 0, 10, 10},
		{made(t, join(0, 10), add(10)), 0, 10, 20},
		{made(t, join(0, 10), add(10), join(1, 10)), 1, 5, 10},
		{made(t, join(0, 2), join(1, 1), add(2)), 0, 2, 3}, // 10/3
		{made(t, join(0, 2), join(1, 1), add(2)), 1, 1, 1}, // 5/3
		{made(t, join(5, 7), slash(50)), 5, 7, 4},
		{made(t, join(5, 7), slash(100)), 5, 7, 0},
		{made(t, join(0, most)), 0, most, most},
		{made(t, join(0, most/2), join(1, most/2)), 1, most / 2, most / 2},
		{made(t, join(0, most-1), join(1, 1)), 0, most - 1, most - 1},
		{made(t, join(0, 10)), 1, 0, 0},
		{made(t, join(0, 10)), -1, 0, 0},
		{made(t, join(0, 10)), api.Owners, 0, 0},
		{made(t, join(0, 10)), math.MinInt, 0, 0},
		{made(t, join(0, 10)), math.MaxInt, 0, 0},
	} {
		if c.p.Shares(c.owner) != c.shares || c.p.Value(c.owner) != c.owns {
			t.Errorf("%d: shares %d, value %d", i, c.p.Shares(c.owner), c.p.Value(c.owner))
		}
	}
}

// P21: new shares are n times all over total, down; the first ones are as many as n.
func TestJoin(t *testing.T) {
	for _, c := range []struct {
		steps                     steps
		owner, n                  int
		total, all, shares, value int
	}{
		{nil, 0, 1, 1, 1, 1, 1},
		{nil, 5, most, most, most, most, most},
		{steps{join(0, 10)}, 0, 5, 15, 15, 15, 15},
		{steps{join(0, 10)}, 1, 5, 15, 15, 5, 5},
		{steps{join(0, 10), add(10)}, 1, 10, 30, 15, 5, 10},
		{steps{join(0, 10), add(10)}, 1, 11, 31, 15, 5, 10}, // 5.5 shares, down
		{steps{join(0, 10), add(10)}, 1, 2, 22, 11, 1, 2},   // just one share
		{steps{join(0, 10), slash(50)}, 1, 3, 8, 16, 6, 3},  // two shares for each
		{steps{join(0, 10), slash(70)}, 1, 2, 5, 16, 6, 1},  // 6.6 shares, down
		{steps{join(0, 9), leave(0)}, 1, 4, 4, 4, 4, 4},     // the first ones again
		{steps{join(0, 9), add(9), take(0, 18)}, 1, 4, 4, 4, 4, 4},
		{steps{join(0, most-1)}, 1, 1, most, most, 1, 1},
		{steps{join(0, most/4), add(most / 4)}, 1, most / 2, most, most / 2, most / 4, most / 2},
	} {
		p := made(t, c.steps...)
		if err := p.Join(c.owner, c.n); err != nil {
			t.Errorf("Join(%d, %d): %v", c.owner, c.n, err)
		}
		want(t, p, c.total, c.all, c.owner, c.shares)
		if p.Value(c.owner) != c.value {
			t.Errorf("value %d, not %d", p.Value(c.owner), c.value)
		}
	}
}

// P21: what is refused, and which error comes first.
func TestJoinRefused(t *testing.T) {
	some := steps{join(0, 10), add(10)}
	gone := steps{join(0, 10), slash(100)}
	full := steps{join(0, 1), add(most - 1)}
	for _, c := range []struct {
		steps    steps
		owner, n int
		err      error
	}{
		{nil, -1, 1, api.ErrBound},
		{nil, api.Owners, 1, api.ErrBound},
		{nil, math.MinInt, 1, api.ErrBound},
		{nil, math.MaxInt, 1, api.ErrBound},
		{nil, 0, 0, api.ErrBound},
		{nil, 0, -1, api.ErrBound},
		{nil, 0, most + 1, api.ErrBound},
		{nil, 0, math.MinInt, api.ErrBound},
		{nil, 0, math.MaxInt, api.ErrBound},
		{some, 1, 0, api.ErrBound},
		{some, 6, 10, api.ErrBound},
		{some, 0, most, api.ErrBound},
		{some, 1, most - 19, api.ErrBound},
		{gone, 0, 1, api.ErrGone},
		{gone, 1, most, api.ErrGone},
		{gone, 6, 1, api.ErrBound},
		{gone, 1, 0, api.ErrBound},
		{gone, 1, most + 1, api.ErrBound},
		{some, 1, 1, api.ErrSmall},
		{some, 0, 1, api.ErrSmall},
		{full, 1, 1, api.ErrBound}, // ahead of ErrSmall: no share would come of it
		{steps{join(0, 1), add(most - 2)}, 1, 1, api.ErrSmall},
		{steps{join(0, most)}, 1, 1, api.ErrBound},
		// So little is left for so many shares that the new ones are no amount.
		{steps{join(0, 1), join(1, most-2), slash(99), slash(99), slash(99)}, 2, most / 2, api.ErrBound},
	} {
		wantRefused(t, made(t, c.steps...), join(c.owner, c.n), c.err)
	}
}

// P21: all shares are bounded as total is; here one joins a small total of many shares.
func TestJoinManyShares(t *testing.T) {
	p := made(t, join(0, most/2), slash(50))
	want(t, p, most/4, most/2, 0, most/2)
	wantRefused(t, p, join(1, most/4+1), api.ErrBound) // 2 shares too many, total in bound
	if err := p.Join(1, most/4); err != nil {
		t.Error(err)
	}
	want(t, p, most/2, most, 1, most/2)
	wantRefused(t, p, join(1, 1), api.ErrBound)

	p = made(t, join(0, most), slash(100))
	wantRefused(t, p, join(1, 1), api.ErrGone)

	p = made(t, join(0, most))
	for range 8 {
		if _, err := p.Slash(99); err != nil {
			t.Fatal(err)
		}
	}
	wantRefused(t, p, join(1, most-p.Total()), api.ErrBound) // so many shares that they are no amount
}

// P21: what is taken costs n times all over total, up.
func TestTake(t *testing.T) {
	for _, c := range []struct {
		steps                     steps
		owner, n                  int
		total, all, shares, value int
	}{
		{steps{join(0, 10)}, 0, 4, 6, 6, 6, 6},
		{steps{join(0, 10)}, 0, 10, 0, 0, 0, 0},
		{steps{join(0, 10), add(10)}, 0, 20, 0, 0, 0, 0},
		{steps{join(0, 10), add(10)}, 0, 18, 2, 1, 1, 2},
		{steps{join(0, 10), add(10)}, 0, 5, 15, 7, 7, 15}, // 2.5 shares, up
		{steps{join(0, 10), add(10)}, 0, 1, 19, 9, 9, 19}, // a half one, up
		{steps{join(0, 10), add(10), join(1, 10)}, 1, 10, 20, 10, 0, 0},
		{steps{join(0, 10), add(10), join(1, 10)}, 1, 9, 21, 10, 0, 0}, // all its shares, but not all there are
		{steps{join(0, 10), join(1, 10), slash(50)}, 1, 5, 5, 10, 0, 0},
		{steps{join(0, 10), join(1, 10), slash(50)}, 1, 2, 8, 16, 6, 3},
		{steps{join(0, 10), slash(50)}, 0, 5, 0, 0, 0, 0},
		{steps{join(0, most)}, 0, most, 0, 0, 0, 0},
		{steps{join(0, most)}, 0, most - 1, 1, 1, 1, 1},
		{steps{join(0, most/2), add(most / 2)}, 0, most, 0, 0, 0, 0},
	} {
		p := made(t, c.steps...)
		if err := p.Take(c.owner, c.n); err != nil {
			t.Errorf("Take(%d, %d): %v", c.owner, c.n, err)
		}
		want(t, p, c.total, c.all, c.owner, c.shares)
		if p.Value(c.owner) != c.value {
			t.Errorf("value %d, not %d", p.Value(c.owner), c.value)
		}
	}
}

// P21: what Take refuses.
func TestTakeRefused(t *testing.T) {
	two := steps{join(0, 10), add(10), join(1, 10)}
	for _, c := range []struct {
		steps    steps
		owner, n int
		err      error
	}{
		{two, -1, 1, api.ErrBound},
		{two, api.Owners, 1, api.ErrBound},
		{two, math.MinInt, 1, api.ErrBound},
		{two, math.MaxInt, 1, api.ErrBound},
		{two, 0, 0, api.ErrBound},
		{two, 0, -1, api.ErrBound},
		{two, 0, most + 1, api.ErrBound},
		{two, 0, math.MinInt, api.ErrBound},
		{two, 0, math.MaxInt, api.ErrBound},
		{two, 0, 21, api.ErrShort},
		{two, 1, 11, api.ErrShort},
		{two, 0, most, api.ErrShort},
		{two, 2, 1, api.ErrShort},
		{nil, 0, 1, api.ErrShort},
		{steps{join(0, 10), slash(100)}, 0, 1, api.ErrShort},
		{steps{join(0, 2), join(1, 1), add(2)}, 0, 4, api.ErrShort}, // its value is 10/3
		{steps{join(0, 1), add(9)}, 0, 9, api.ErrShort},             // the only share would go
		{steps{join(0, 1), add(9)}, 0, 1, api.ErrShort},
		{steps{join(0, 10), add(10)}, 0, 19, api.ErrShort}, // 9.5 shares, up: all
	} {
		wantRefused(t, made(t, c.steps...), take(c.owner, c.n), c.err)
	}
}

// P22: the value is told and goes; the others' shares stay.
func TestLeave(t *testing.T) {
	for _, c := range []struct {
		steps             steps
		owner, n          int
		total, all, other int
	}{
		{steps{join(0, 10)}, 0, 10, 0, 0, 0},
		{steps{join(0, 10), add(11)}, 0, 21, 0, 0, 0},
		{steps{join(0, 10), add(10), join(1, 10)}, 0, 20, 10, 5, 5},
		{steps{join(0, 10), add(10), join(1, 10)}, 1, 10, 20, 10, 0},
		{steps{join(0, 2), join(1, 1), add(2)}, 0, 3, 2, 1, 1}, // 10/3, down
		{steps{join(0, 2), join(1, 1), add(2), leave(0)}, 1, 2, 0, 0, 0},
		{steps{join(0, 10), slash(100)}, 0, 0, 0, 0, 0},
		{steps{join(0, 10), join(1, 7), slash(100)}, 0, 0, 0, 7, 7},
		{steps{join(0, 1000), join(1, 1), slash(50)}, 1, 0, 501, 1000, 0},
		{steps{join(5, most)}, 5, most, 0, 0, 0},
	} {
		p := made(t, c.steps...)
		if n, err := p.Leave(c.owner); n != c.n || err != nil {
			t.Errorf("Leave(%d): %d, %v; want %d", c.owner, n, err, c.n)
		}
		want(t, p, c.total, c.all, 1, c.other)
		if p.Shares(c.owner) != 0 || p.Value(c.owner) != 0 {
			t.Errorf("shares %d, value %d are left", p.Shares(c.owner), p.Value(c.owner))
		}
	}
}

// P22: who has nothing, and who is nobody, cannot leave; 0 comes with the error (P3).
func TestLeaveRefused(t *testing.T) {
	for _, c := range []struct {
		steps steps
		owner int
		err   error
	}{
		{steps{join(0, 10)}, -1, api.ErrBound},
		{steps{join(0, 10)}, api.Owners, api.ErrBound},
		{steps{join(0, 10)}, math.MinInt, api.ErrBound},
		{steps{join(0, 10)}, math.MaxInt, api.ErrBound},
		{nil, 6, api.ErrBound},
		{nil, 0, api.ErrNone},
		{steps{join(0, 10)}, 1, api.ErrNone},
		{steps{join(0, 10), leave(0)}, 0, api.ErrNone},
		{steps{join(0, 10), take(0, 10)}, 0, api.ErrNone},
		{steps{join(0, 10), add(10), join(1, 10), take(1, 9)}, 1, api.ErrNone},
	} {
		wantRefused(t, made(t, c.steps...), func(p *pool.Pool) error {
			n, err := p.Leave(c.owner)
			if n != 0 {
				t.Errorf("%d with %v", n, err)
			}
			return err
		}, c.err)
	}
}

// P22: what is added has no shares.
func TestAdd(t *testing.T) {
	for _, c := range []struct {
		steps         steps
		n, total, all int
	}{
		{steps{join(0, 10)}, 5, 15, 10},
		{steps{join(0, 10)}, 0, 10, 10},
		{steps{join(0, 10)}, most - 10, most, 10},
		{steps{join(0, 10), slash(100)}, 5, 5, 10}, // shares are there, if nothing else
		{steps{join(0, most)}, 0, most, most},
		{steps{join(0, 1), slash(100)}, most, most, 1},
	} {
		p := made(t, c.steps...)
		if err := p.Add(c.n); err != nil {
			t.Errorf("Add(%d): %v", c.n, err)
		}
		want(t, p, c.total, c.all, 0, c.all)
		if p.Value(0) != c.total {
			t.Errorf("value %d of total %d", p.Value(0), c.total)
		}
	}
}

func TestAddRefused(t *testing.T) {
	for _, c := range []struct {
		steps steps
		n     int
		err   error
	}{
		{steps{join(0, 10)}, -1, api.ErrBound},
		{steps{join(0, 10)}, most + 1, api.ErrBound},
		{steps{join(0, 10)}, math.MinInt, api.ErrBound},
		{steps{join(0, 10)}, math.MaxInt, api.ErrBound},
		{nil, -1, api.ErrBound},
		{nil, most + 1, api.ErrBound},
		{nil, 0, api.ErrNone},
		{nil, 1, api.ErrNone},
		{nil, most, api.ErrNone},
		{steps{join(0, 10), leave(0)}, 1, api.ErrNone},
		{steps{join(0, 10)}, most, api.ErrBound},
		{steps{join(0, 10)}, most - 9, api.ErrBound},
		{steps{join(0, most)}, 1, api.ErrBound},
	} {
		wantRefused(t, made(t, c.steps...), add(c.n), c.err)
	}
}

// P22: a part of total goes, down; shares stay.
func TestSlash(t *testing.T) {
	for _, c := range []struct {
		steps                  steps
		percent, n, total, all int
	}{
		{steps{join(0, 10)}, 50, 5, 5, 10},
		{steps{join(0, 25)}, 50, 12, 13, 25},
		{steps{join(0, 10)}, 0, 0, 10, 10},
		{steps{join(0, 10)}, 100, 10, 0, 10},
		{steps{join(0, 10)}, 9, 0, 10, 10},
		{steps{join(0, 10)}, 19, 1, 9, 10},
		{steps{join(0, 1)}, 99, 0, 1, 1},
		{steps{join(0, most)}, 100, most, 0, most},
		{steps{join(0, most)}, 99, 1114640907774197, 11258999068427, most},
		{nil, 50, 0, 0, 0},
		{nil, 100, 0, 0, 0},
		{steps{join(0, 10), slash(100)}, 100, 0, 0, 10},
	} {
		p := made(t, c.steps...)
		if n, err := p.Slash(c.percent); n != c.n || err != nil {
			t.Errorf("Slash(%d): %d, %v; want %d", c.percent, n, err, c.n)
		}
		want(t, p, c.total, c.all, 0, c.all)
	}
}

func TestSlashRefused(t *testing.T) {
	for _, percent := range []int{-1, 101, math.MinInt, math.MaxInt, most} {
		for _, s := range []steps{nil, {join(0, 10)}, {join(0, 10), slash(100)}} {
			wantRefused(t, made(t, s...), func(p *pool.Pool) error {
				n, err := p.Slash(percent)
				if n != 0 {
					t.Errorf("%d with %v", n, err)
				}
				return err
			}, api.ErrBound)
		}
	}
}

// rolls tells numbers that look like chance and are always the same.
func rolls(r uint64) func(int) int {
	return func(n int) int {
		r = r*6364136223846793005 + 1442695040888963407
		return int(r>>33) % n
	}
}

// size: an amount of any length up to the widest, or none.
func size(next func(int) int, widest int) int {
	return next(1<<31-1)<<20%(1<<next(widest)) + next(12) - 1
}

// P23: with numbers of all lengths, values together are at most total, and nobody's falls by what others do.
func TestAlways(t *testing.T) {
	for seed := range 40 {
		next := rolls(uint64(seed))
		widest := 4 + 47*(seed%4)/3
		p := pool.New()
		for i := range 1500 {
			owner, n := next(api.Owners), size(next, widest)
			was := look(p)
			others := true
			switch next(9) {
			case 0, 1, 2:
				p.Join(owner, n)
			case 3, 4:
				p.Take(owner, n)
			case 5:
				p.Leave(owner)
			case 6:
				p.Add(n)
			default:
				p.Slash(next(30))
				others = false
			}
			wantSound(t, p)
			for o := range api.Owners {
				if others && o != owner && p.Value(o) < was.value[o+1] {
					t.Errorf("seed %d, call %d: the value of %d fell from %d to %d", seed, i, o, was.value[o+1], p.Value(o))
				}
			}
			if t.Failed() {
				t.FailNow()
			}
		}
	}
}

// wantSound: shares add up, values are as promised and together at most total, and what no one has shares of is empty.
func wantSound(t *testing.T, p *pool.Pool) {
	t.Helper()
	shares, values := 0, 0
	for o := range api.Owners {
		shares += p.Shares(o)
		values += p.Value(o)
		if p.All() > 0 {
			product := new(big.Int).Mul(big.NewInt(int64(p.Shares(o))), big.NewInt(int64(p.Total())))
			if v := product.Div(product, big.NewInt(int64(p.All()))); v.Int64() != int64(p.Value(o)) {
				t.Errorf("value of %d: %d, not %v", o, p.Value(o), v)
			}
		}
	}
	if shares != p.All() || values > p.Total() || p.All() == 0 && p.Total() != 0 || p.Total() < 0 || p.Total() > most || p.All() > most {
		t.Errorf("total %d, all %d, shares %d, values %d", p.Total(), p.All(), shares, values)
	}
}

// P21 and P23: who joins and takes at once gets no more than it gave, whatever the pool was.
func TestNoGain(t *testing.T) {
	for first := 1; first < 12; first++ {
		for added := range 12 {
			for n := 1; n < 30; n++ {
				p := made(t, join(0, first), add(added))
				if p.Join(1, n) != nil {
					continue
				}
				if p.Value(1) > n {
					t.Errorf("%d of %d+%d: %d", n, first, added, p.Value(1))
				}
				if got, err := p.Leave(1); got > n || err != nil || p.Value(0) < first+added {
					t.Errorf("%d of %d+%d: %d, %v, %d", n, first, added, got, err, p.Value(0))
				}
			}
		}
	}
}

// A clone tells what its pool tells, and neither sees what is done to the other.
func TestClone(t *testing.T) {
	for i, from := range []steps{
		{},
		{join(0, 10)},
		{join(0, 10), join(5, 3), add(20), slash(7)},
		{join(0, 10), slash(100)},
	} {
		p := made(t, from...)
		was := look(p)
		c := p.Clone()
		if look(c) != was || look(p) != was {
			t.Errorf("%d: %v; want %v", i, look(c), was)
		}
		for _, step := range (steps{join(1, 5), join(0, 7), add(3), take(0, 2), slash(50), leave(0)}) {
			step(c)
			if look(p) != was {
				t.Fatalf("%d: a clone is seen in its pool: %v; want %v", i, look(p), was)
			}
		}
		c = p.Clone()
		for _, step := range (steps{join(1, 5), join(0, 7), add(3), take(0, 2), slash(50), leave(0)}) {
			step(p)
			if look(c) != was {
				t.Fatalf("%d: a pool is seen in its clone: %v; want %v", i, look(c), was)
			}
		}
	}
}
