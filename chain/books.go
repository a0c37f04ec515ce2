package chain

import (
	"bakehouse/api"
	"bakehouse/court"
	"bakehouse/issue"
	"bakehouse/purse"
	"bakehouse/stake"
)

const (
	firstMoney = 10000 // of each owner
	firstStake = 1000  // of each baker with itself, of that
)

// books are a purse, and stakes that are just what is of nobody's in it.
// So whatever comes out of stakes, or goes into them, is moved in the purse, too, and no error can come of that.
type books struct {
	*purse.Purse
	stakes *stake.Stakes
}

func openBooks() books {
	b := books{Purse: purse.New(), stakes: stake.New()}
	for owner := range api.Owners {
		_ = b.Mint(owner, firstMoney)
	}
	for baker := range api.Bakers {
		_ = b.stakes.Register(baker)
		_ = b.stake(baker, baker, firstStake)
	}
	return b
}

func (b books) stake(owner, baker, n int) error {
	if err := b.Out(owner, n); err != nil {
		return err
	}
	if err := b.stakes.Join(owner, baker, n); err != nil {
		_ = b.In(owner, n)
		return err
	}
	return nil
}

func (b books) free(owner, cycle int) (int, error) {
	n, err := b.stakes.Free(owner, cycle)
	if err != nil {
		return 0, err
	}
	_ = b.In(owner, n)
	return n, nil
}

// ratio of what is staked with bakers; what waits is not counted.
func (b books) ratio() int {
	staked := 0
	for baker := range api.Bakers {
		staked += b.stakes.Staked(baker)
	}
	// No error can come: supply counts what is staked, and is never 0, as a slash by less than 100 percent leaves something.
	ratio, _ := issue.Ratio(staked, b.Supply())
	return ratio
}

// reward a baker's pool: how much it got.
func (b books) reward(baker, bonus int) int {
	// No error can come of either: ratio, bonus and supply are what they should be.
	rate, _ := issue.Rate(b.ratio(), bonus)
	n, _ := issue.Reward(b.Supply(), rate)
	if b.Grow(n) != nil {
		return 0
	}
	if b.stakes.Add(baker, n) != nil { // its pool has no shares
		_ = b.Burn(n)
		return 0
	}
	return n
}

func (b books) judge(due court.Case) {
	// No error can come: all bakers are registered.
	lost, _ := b.stakes.Slash(due.E.Baker, due.E.Cycle, court.Percent(due.E.Number))
	toOwner, burned := court.Share(lost)
	_ = b.In(due.Owner, toOwner)
	_ = b.Burn(burned)
}
