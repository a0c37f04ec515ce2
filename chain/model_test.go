package chain_test

import (
	"testing"

	"bakehouse/api"
	"bakehouse/chain"
	"bakehouse/issue"
	"bakehouse/lots"
	"bakehouse/right"
	"bakehouse/stake"
)

// model is a chain told again: with supply as a number, a picture of each cycle that ever was, and all evidence in one list.
type model struct {
	seed                 uint64
	has                  [api.Owners]int
	supply               int
	stakes               *stake.Stakes
	cycle, level, bonus  int
	pictures             [][]int
	evidence             []api.Evidence
	owners               []int // who brought the evidence
	judged               int   // so many of them
	rewards, unrewarded  int
	emptyCycles, punched int
}

func newModel(seed uint64) *model {
	m := &model{seed: seed, supply: 60000, stakes: stake.New()}
	for o := range m.has {
		m.has[o] = 10000
	}
	for b := range 3 {
		m.has[b] = 9000
		m.stakes.Register(b)
		m.stakes.Join(b, b, 1000)
	}
	for range 3 {
		m.pictures = append(m.pictures, []int{1000, 1000, 1000})
	}
	return m
}

func isOwner(o int) bool { return o >= 0 && o < 6 }

func (m *model) pay(from, to, n int) error {
	if !isOwner(from) || !isOwner(to) || n < 0 || n > most {
		return api.ErrBound
	}
	if m.has[from] < n {
		return api.ErrShort
	}
	m.has[from] -= n
	m.has[to] += n
	return nil
}

func (m *model) stake(owner, baker, n int) error {
	if !isOwner(owner) || n < 0 || n > most {
		return api.ErrBound
	}
	if m.has[owner] < n {
		return api.ErrShort
	}
	err := m.stakes.Join(owner, baker, n)
	if err == nil {
		m.has[owner] -= n
	}
	return err
}

func (m *model) free(owner int) (int, error) {
	n, err := m.stakes.Free(owner, m.cycle)
	if err == nil {
		m.has[owner] += n
	}
	return n, err
}

func (m *model) accuse(owner int, e api.Evidence) error {
	if !isOwner(owner) || e.Baker < 0 || e.Baker > 2 || e.Number < 0 {
		return api.ErrBound
	}
	if e.Cycle < 0 || e.Cycle > m.cycle || e.Cycle+2 < m.cycle {
		return api.ErrOld
	}
	for _, x := range m.evidence {
		if x == e {
			return api.ErrExist
		}
	}
	m.evidence = append(m.evidence, e)
	m.owners = append(m.owners, owner)
	return nil
}

func (m *model) ratio() int {
	ratio, err := issue.Ratio(m.stakes.Staked(0)+m.stakes.Staked(1)+m.stakes.Staked(2), m.supply)
	if err != nil {
		panic(err)
	}
	return ratio
}

func (m *model) turn(round int) (int, error) {
	return right.Baker(m.pictures[m.cycle], m.seed, m.cycle, m.level, round)
}

func (m *model) bake(baker, round int) (int, error) {
	k, err := m.turn(round)
	if err != nil {
		return 0, err
	}
	if k != baker {
		return 0, api.ErrTurn
	}
	rate, _ := issue.Rate(m.ratio(), m.bonus)
	n, err := issue.Reward(m.supply, rate)
	if err != nil {
		panic(err)
	}
	if m.supply+n > most || m.stakes.Add(k, n) != nil {
		n = 0
		m.unrewarded++
	}
	m.supply += n
	m.rewards++
	m.level++
	if m.level%4 == 0 {
		m.end()
	}
	return n, nil
}

func (m *model) end() {
	for ; m.judged < len(m.evidence); m.judged++ {
		e := m.evidence[m.judged]
		percent := 5 + 45*(e.Number%2)
		lost, _ := m.stakes.Slash(e.Baker, e.Cycle, percent)
		m.has[m.owners[m.judged]] += lost / 7
		m.supply -= lost - lost/7
		m.punched++
	}
	m.bonus, _ = issue.Bonus(m.bonus, m.ratio())
	m.cycle++
	now := right.Picture(m.stakes)
	if now[0]+now[1]+now[2] == 0 {
		now = m.pictures[m.cycle+1]
		m.emptyCycles++
	}
	m.pictures = append(m.pictures, now)
}

func (m *model) look() seen {
	now := seen{cycle: m.cycle, level: m.level, bonus: m.bonus, supply: m.supply, total: m.stakes.Total()}
	copy(now.has[1:], m.has[:])
	for b := range 3 {
		now.staked[b+1] = m.stakes.Staked(b)
		for o := range m.has {
			now.value[b+1][o+1] = m.stakes.Value(o, b)
			for k := range now.waits[b+1][o+1] {
				now.waits[b+1][o+1][k] = m.stakes.Waits(o, b, m.cycle-k)
			}
		}
	}
	for r := range now.turns {
		now.turns[r].baker, now.turns[r].err = m.turn(r - 1)
	}
	return now
}

type call struct{ kind, owner, other, n, round, cycle, number int }

// both does a call to the chain and to the model.
func (x call) both(c *chain.Chain, m *model) (got, want int, err, wantErr error) {
	e := of(x.other, m.cycle+x.cycle, x.number)
	switch x.kind {
	case 0:
		return 0, 0, c.Pay(x.owner, x.other, x.n), m.pay(x.owner, x.other, x.n)
	case 1:
		return 0, 0, c.Stake(x.owner, x.other, x.n), m.stake(x.owner, x.other, x.n)
	case 2:
		return 0, 0, c.Unstake(x.owner, x.other, x.n), m.stakes.Leave(x.owner, x.other, x.n, m.cycle)
	case 3:
		got, err = c.Free(x.owner)
		want, wantErr = m.free(x.owner)
		return got, want, err, wantErr
	case 4:
		return 0, 0, c.Accuse(x.owner, e), m.accuse(x.owner, e)
	}
	baker, _ := m.turn(x.round)
	if x.n%9 == 0 {
		baker = x.other
	}
	got, err = c.Bake(baker, x.round)
	want, wantErr = m.bake(baker, x.round)
	return got, want, err, wantErr
}

// makeCall: mostly of numbers that are owners, bakers and rounds; all that an owner has, now and then.
func makeCall(below func(int) int, m *model) call {
	x := call{
		kind:   []int{0, 1, 1, 1, 2, 2, 2, 3, 4, 5, 5, 5, 5, 5}[below(14)],
		owner:  below(6),
		other:  below(3),
		n:      below(3000),
		round:  below(api.MaxRounds),
		cycle:  -below(4),
		number: below(4),
	}
	switch below(16) {
	case 0:
		x.owner = below(8) - 1
	case 1:
		x.other = below(5) - 1
	case 2:
		x.round = below(10) - 1
	case 3:
		x.n = []int{-1, 0, 1, most, most + 1}[below(5)]
	case 4:
		x.number = below(3) - 1
		x.cycle = 1
	case 5, 6, 7, 8:
		x.n = m.stakes.Value(x.owner, x.other)
	case 9, 10:
		x.n = m.has[x.owner]
	}
	return x
}

// leaveAll: nothing is staked then, so that there are pictures without weight.
func leaveAll(c *chain.Chain, m *model) {
	for b := range 3 {
		call{kind: 2, owner: b, other: b, n: 1000}.both(c, m)
	}
}

// P100 to P104: after any calls a chain tells what the model tells.
func TestManyCalls(t *testing.T) {
	l := lots.New(100)
	below := func(n int) int {
		k, _ := l.Below(n)
		return k
	}
	told := map[int]map[error]int{}
	for kind := range 6 {
		told[kind] = map[error]int{}
	}
	var sums model
	for i := range 150 {
		seed := l.Next()
		c, m := chain.New(seed), newModel(seed)
		poor := i%3 == 0
		if poor {
			leaveAll(c, m)
		}
		for range 300 {
			x := makeCall(below, m)
			if poor && x.kind == 1 {
				x.n %= 30
			}
			got, want, err, wantErr := x.both(c, m)
			if got != want || err != wantErr {
				t.Fatalf("%v: %d, %v; want %d, %v", x, got, err, want, wantErr)
			}
			if now, should := look(c), m.look(); now != should {
				t.Fatalf("%v: %v; want %v", x, now, should)
			}
			wantSum(t, c)
			told[x.kind][err]++
		}
		sums.rewards += m.rewards
		sums.unrewarded += m.unrewarded
		sums.emptyCycles += m.emptyCycles
		sums.punched += m.punched
	}
	if sums.rewards < 5000 || sums.unrewarded < 50 || sums.emptyCycles < 10 || sums.punched < 500 {
		t.Error(sums.rewards, sums.unrewarded, sums.emptyCycles, sums.punched)
	}
	wantTold(t, told)
}

// wantTold: the calls were not too much of one kind.
func wantTold(t *testing.T, told map[int]map[error]int) {
	t.Helper()
	for kind, errs := range [][]error{
		{nil, api.ErrBound, api.ErrShort},
		{nil, api.ErrBound, api.ErrShort, api.ErrNone, api.ErrSmall},
		{nil, api.ErrNone, api.ErrBound, api.ErrShort},
		{nil, api.ErrBound, api.ErrNone},
		{nil, api.ErrBound, api.ErrOld, api.ErrExist},
		{nil, api.ErrBound, api.ErrTurn},
	} {
		for _, err := range errs {
			if told[kind][err] < 5 {
				t.Errorf("kind %d: %v was told %d times", kind, err, told[kind][err])
			}
		}
	}
}
