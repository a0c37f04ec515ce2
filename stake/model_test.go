package stake_test

import (
	"math/big"
	"testing"

	"bakehouse/api"
	"bakehouse/stake"
)

// pot is a pool told again, as a value: a change that is refused is just not stored.
type pot struct {
	total, all int
	shares     [api.Owners]int
}

// ratio tells n times up over below, and whether there is a rest.
func ratio(n, up, below int) (*big.Int, bool) {
	rest := new(big.Int)
	q := new(big.Int).Mul(big.NewInt(int64(n)), big.NewInt(int64(up)))
	q.QuoRem(q, big.NewInt(int64(below)), rest)
	return q, rest.Sign() != 0
}

func (p pot) value(owner int) int {
	if p.all == 0 {
		return 0
	}
	q, _ := ratio(p.shares[owner], p.total, p.all)
	return int(q.Int64())
}

func (p pot) join(owner, n int) (pot, error) {
	if owner < 0 || owner > 5 || n < 1 || n > most {
		return p, api.ErrBound
	}
	if p.all > 0 && p.total == 0 {
		return p, api.ErrGone
	}
	shares := big.NewInt(int64(n))
	if p.all > 0 {
		shares, _ = ratio(n, p.all, p.total)
	}
	all := new(big.Int).Add(shares, big.NewInt(int64(p.all)))
	if p.total+n > most || all.Cmp(big.NewInt(most)) > 0 {
		return p, api.ErrBound
	}
	if shares.Sign() == 0 {
		return p, api.ErrSmall
	}
	p.shares[owner] += int(shares.Int64())
	p.all = int(all.Int64())
	p.total += n
	return p, nil
}

func (p pot) take(owner, n int) (pot, error) {
	if owner < 0 || owner > 5 || n < 1 || n > most {
		return p, api.ErrBound
	}
	if n > p.value(owner) {
		return p, api.ErrShort
	}
	q, rest := ratio(n, p.all, p.total)
	shares := int(q.Int64())
	if rest {
		shares++
	}
	if shares == p.all && n < p.total {
		return p, api.ErrShort
	}
	p.shares[owner] -= shares
	p.all -= shares
	p.total -= n
	return p, nil
}

func (p pot) leave(owner int) (pot, int) {
	n := p.value(owner)
	p.all -= p.shares[owner]
	p.total -= n
	p.shares[owner] = 0
	return p, n
}

func (p pot) slash(percent int) (pot, int) {
	q, _ := ratio(p.total, percent, 100)
	n := int(q.Int64())
	p.total -= n
	return p, n
}

// model is stakes told again: pools that wait are kept by baker and place in cycles.
type model struct {
	is      [api.Bakers]bool
	staked  [api.Bakers]pot
	waiting [api.Bakers][len(cycles)]pot
}

type call struct{ kind, owner, baker, n, at, percent int }

func (m *model) do(c call) (int, error) {
	if c.kind == 2 {
		return m.free(c.owner, cycles[c.at])
	}
	if c.kind == 0 && (c.baker < 0 || c.baker > 2) {
		return 0, api.ErrBound
	}
	if c.kind == 0 && m.is[c.baker] {
		return 0, api.ErrExist
	}
	if c.kind == 0 {
		m.is[c.baker] = true
		return 0, nil
	}
	if c.baker < 0 || c.baker > 2 || !m.is[c.baker] {
		return 0, api.ErrNone
	}
	switch c.kind {
	case 1:
		p, err := m.staked[c.baker].join(c.owner, c.n)
		m.staked[c.baker] = p
		return 0, err
	case 3:
		return 0, m.leave(c)
	case 4:
		return 0, m.add(c)
	}
	return m.slash(c)
}

func (m *model) leave(c call) error {
	if cycles[c.at] < 0 || cycles[c.at] > last {
		return api.ErrBound
	}
	p, err := m.staked[c.baker].take(c.owner, c.n)
	if err != nil {
		return err
	}
	w, err := m.waiting[c.baker][c.at].join(c.owner, c.n)
	if err != nil {
		return err
	}
	m.staked[c.baker], m.waiting[c.baker][c.at] = p, w
	return nil
}

func (m *model) add(c call) error {
	p := &m.staked[c.baker]
	switch {
	case c.n < 0 || c.n > most:
		return api.ErrBound
	case p.all == 0:
		return api.ErrNone
	case p.total+c.n > most:
		return api.ErrBound
	}
	p.total += c.n
	return nil
}

func (m *model) slash(c call) (int, error) {
	if c.percent < 0 || c.percent > 100 {
		return 0, api.ErrBound
	}
	p, sum := m.staked[c.baker].slash(c.percent)
	m.staked[c.baker] = p
	for i := range cycles {
		if cycles[i] >= cycles[c.at] {
			w, n := m.waiting[c.baker][i].slash(c.percent)
			m.waiting[c.baker][i] = w
			sum += n
		}
	}
	return sum, nil
}

func (m *model) free(owner, cycle int) (int, error) {
	if owner < 0 || owner > 5 || cycle < 0 || cycle > last {
		return 0, api.ErrBound
	}
	sum, err := 0, api.ErrNone
	for b := range m.waiting {
		for i, c := range cycles {
			if c+2 < cycle && m.waiting[b][i].shares[owner] > 0 {
				p, n := m.waiting[b][i].leave(owner)
				m.waiting[b][i] = p
				sum += n
				err = nil
			}
		}
	}
	return sum, err
}

func (m *model) look() state {
	var now state
	for b := range api.Bakers {
		now.is[b+1], now.staked[b+1] = m.is[b], m.staked[b].total
		now.total += m.staked[b].total
		for i := range cycles {
			now.total += m.waiting[b][i].total
		}
		for o := range api.Owners {
			now.value[b+1][o+1] = m.staked[b].value(o)
			for i := range cycles {
				now.waits[b+1][o+1][i] = m.waiting[b][i].value(o)
			}
		}
	}
	return now
}

func (c call) step(s *stake.Stakes) (int, error) {
	switch c.kind {
	case 0:
		return 0, s.Register(c.baker)
	case 1:
		return 0, s.Join(c.owner, c.baker, c.n)
	case 2:
		return s.Free(c.owner, cycles[c.at])
	case 3:
		return 0, s.Leave(c.owner, c.baker, c.n, cycles[c.at])
	case 4:
		return 0, s.Add(c.baker, c.n)
	}
	return s.Slash(c.baker, cycles[c.at], c.percent)
}

// makeCall: mostly of numbers that are bakers, owners and amounts, and more joins and leaves than others.
func makeCall(next func(int) int, scale int) call {
	c := call{
		kind:    []int{0, 1, 1, 1, 1, 2, 2, 3, 3, 3, 3, 3, 4, 4, 5}[next(15)],
		owner:   next(6),
		baker:   next(3),
		n:       (next(20) + 1) * scale,
		at:      next(9) + 1,
		percent: []int{0, 1, 10, 33, 50, 99, 100}[next(7)],
	}
	switch next(25) {
	case 0:
		c.owner = next(8) - 1
	case 1:
		c.baker = next(5) - 1
	case 2:
		c.n = []int{-1, 0, most, most + 1}[next(4)]
	case 3:
		c.percent = []int{-1, 101}[next(2)]
	case 4, 5, 6:
		c.at = next(len(cycles))
	}
	return c
}

// P60 to P64: after any calls stakes tell what the model tells.
func TestManyCalls(t *testing.T) {
	lcg := uint64(6)
	next := func(n int) int {
		lcg = lcg*6364136223846793005 + 1442695040888963407
		return int(lcg >> 33 % uint64(n))
	}
	told := map[int]map[error]int{}
	for kind := range 6 {
		told[kind] = map[error]int{}
	}
	for range 600 {
		s, m := stake.New(), &model{}
		scale := []int{1, 3, 1000, most / 40, most / 20}[next(5)]
		for range 200 {
			c := makeCall(next, scale)
			want, wantErr := m.do(c)
			n, err := c.step(s)
			if n != want || err != wantErr {
				t.Fatalf("%v: %d, %v; want %d, %v", c, n, err, want, wantErr)
			}
			if look(s) != m.look() {
				t.Fatalf("%v: %v; want %v", c, look(s), m.look())
			}
			told[c.kind][err]++
		}
	}
	wantTold(t, told)
}

// wantTold: the calls were not too much of one kind.
func wantTold(t *testing.T, told map[int]map[error]int) {
	t.Helper()
	for kind, errs := range [][]error{
		{nil, api.ErrBound, api.ErrExist},
		{nil, api.ErrNone, api.ErrBound, api.ErrGone, api.ErrSmall},
		{nil, api.ErrBound, api.ErrNone},
		{nil, api.ErrNone, api.ErrBound, api.ErrShort, api.ErrGone},
		{nil, api.ErrNone, api.ErrBound},
		{nil, api.ErrNone, api.ErrBound},
	} {
		for _, err := range errs {
			if told[kind][err] < 20 {
				t.Errorf("kind %d: %v was told %d times", kind, err, told[kind][err])
			}
		}
	}
}
