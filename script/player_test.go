package script

import (
	"testing"

	"bakehouse/api"
)

// P130, P131, P1: no script is long enough to come to the last level of all; a player that is there has blocks of a cycle left, and no turn for them.
func TestErrorEndsCycle(t *testing.T) {
	p := newPlayer(3)
	for baker := range api.Bakers { // without rewards amounts stay small
		if err := p.Unstake(baker, baker, 1000); err != nil {
			t.Fatal(err)
		}
	}
	commands := p.commands()
	want := func(line, told string) {
		t.Helper()
		if got := answer(commands, line); got != told {
			t.Fatalf("%q: %q; want %q", line, got, told)
		}
	}
	for p.Cycle() < api.MaxCycle {
		want("cycle", "ok")
	}
	want("at", "1048576 4194304")
	// The block that could be baked stays.
	want("cycle", "bakehouse: bound")
	want("at", "1048576 4194305")
	want("cycle", "bakehouse: bound")
	want("bake 0", "bakehouse: bound")
	want("turn 0", "bakehouse: bound")
	want("at", "1048576 4194305")
	want("accuse 3 0 1048576 0", "ok")
	want("free 0", "1000")
	want("pay 3 4 5", "ok")
}

// P131: a place is no part of an answer.
func TestNoPlace(t *testing.T) {
	commands := map[string]command{"fault": {"", func([]int) (string, error) { return "told", &api.Fault{At: 7, Err: api.ErrGone} }}}
	if got := answer(commands, "fault"); got != "bakehouse: gone" {
		t.Error(got)
	}
}
