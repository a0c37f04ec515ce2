package script

import (
	"strconv"

	"bakehouse/api"
	"bakehouse/chain"
)

// player of a script: the commands are calls to its chain.
type player struct{ *chain.Chain }

// command of a script.
type command struct {
	form string // of the words behind its name: D a digit, N a number
	do   func(n []int) (string, error)
}

func newPlayer(seed uint64) player { return player{chain.New(seed)} }

// commands by their names, all of them on this player's chain.
func (p player) commands() map[string]command {
	s := p.Stakes()
	return map[string]command{
		"pay":     {"DDN", done(func(n []int) error { return p.Pay(n[0], n[1], n[2]) })},
		"stake":   {"DDN", done(func(n []int) error { return p.Stake(n[0], n[1], n[2]) })},
		"unstake": {"DDN", done(func(n []int) error { return p.Unstake(n[0], n[1], n[2]) })},
		"accuse":  {"DDNN", done(func(n []int) error { return p.Accuse(n[0], evidence(n[1:])) })},
		"free":    {"D", told(func(n []int) (int, error) { return p.Free(n[0]) })},
		"bake":    {"D", func(n []int) (string, error) { return pair(p.bake(n[0])) }},
		"cycle":   {"", done(func([]int) error { return p.finishCycle() })},
		"turn":    {"D", told(func(n []int) (int, error) { return p.Turn(n[0]) })},
		"has":     {"D", seen(func(n []int) int { return p.Has(n[0]) })},
		"staked":  {"D", seen(func(n []int) int { return s.Staked(n[0]) })},
		"value":   {"DD", seen(func(n []int) int { return s.Value(n[0], n[1]) })},
		"waits":   {"DDN", seen(func(n []int) int { return s.Waits(n[0], n[1], n[2]) })},
		"supply":  {"", seen(func([]int) int { return p.Supply() })},
		"bonus":   {"", seen(func([]int) int { return p.Bonus() })},
		"at":      {"", func([]int) (string, error) { return pair(p.Cycle(), p.Level(), nil) }},
	}
}

// bake by whose turn it is: who, and its reward.
func (p player) bake(round int) (baker, reward int, err error) {
	baker, err = p.Turn(round)
	if err != nil {
		return 0, 0, err
	}
	reward, err = p.Bake(baker, round)
	return baker, reward, err
}

func (p player) finishCycle() error {
	for range api.Blocks - p.Level()%api.Blocks {
		if _, _, err := p.bake(0); err != nil {
			return err
		}
	}
	return nil
}

func evidence(n []int) api.Evidence {
	return api.Evidence{Baker: n[0], Cycle: n[1], Number: n[2]}
}

// done: a call that tells nothing but its error.
func done(call func(n []int) error) func(n []int) (string, error) {
	return func(n []int) (string, error) { return "ok", call(n) }
}

// told: a call that tells a number, or its error.
func told(call func(n []int) (int, error)) func(n []int) (string, error) {
	return func(n []int) (string, error) {
		k, err := call(n)
		return strconv.Itoa(k), err
	}
}

// seen: a call that always tells a number.
func seen(call func(n []int) int) func(n []int) (string, error) {
	return func(n []int) (string, error) { return strconv.Itoa(call(n)), nil }
}

func pair(a, b int, err error) (string, error) {
	return strconv.Itoa(a) + " " + strconv.Itoa(b), err
}
