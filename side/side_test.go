package side_test

import (
	"errors"
	"math"
	"reflect"
	"slices"
	"sync"
	"testing"

	"bakehouse/api"
	"bakehouse/chain"
	"bakehouse/lots"
	"bakehouse/play"
	"bakehouse/right"
	"bakehouse/side"
)

const (
	lastCycle = 1 << 20
	lastLevel = 1 << 22
)

// counts: how many seeds or levels: none, one, about as many as workers, and the most.
var counts = []int{0, 1, 2, 3, 15, 16, 17, 33, 99, 100}

// wrongWorkers: below 1 and beyond 16.
var wrongWorkers = []int{math.MinInt, -17, -16, -1, 0, 17, 18, 100, 101, math.MaxInt}

// below is a lot of 0 to n - 1.
func below(t *testing.T, l *lots.Lots, n int) int {
	t.Helper()
	k, err := l.Below(n)
	if err != nil {
		t.Fatal(err)
	}
	return k
}

func makeSeeds(l *lots.Lots, n int) []uint64 {
	seeds := make([]uint64, n)
	for k := range seeds {
		seeds[k] = l.Next()
	}
	return seeds
}

// makeScript has numbers of all calls, and some below 0.
func makeScript(t *testing.T, l *lots.Lots, n int) []int {
	t.Helper()
	script := make([]int, n)
	for k := range script {
		script[k] = below(t, l, 300000) - 3000
	}
	return script
}

func makeLevels(t *testing.T, l *lots.Lots, n int) []int {
	t.Helper()
	levels := make([]int, n)
	for k := range levels {
		levels[k] = below(t, l, lastLevel+1)
	}
	return levels
}

// playsByHand: one after the other, as the document says it.
func playsByHand(seeds []uint64, script []int) []side.Told {
	told := []side.Told{}
	for _, seed := range seeds {
		c := chain.New(seed)
		answers := play.Run(c, script)
		told = append(told, side.Told{Answers: answers, Sums: play.Add(c)})
	}
	return told
}

func rightsByHand(t *testing.T, w []int, seed uint64, cycle int, levels []int) [][]int {
	t.Helper()
	rights := [][]int{}
	for _, level := range levels {
		bakers, err := right.Rounds(w, seed, cycle, level)
		if err != nil {
			t.Fatal(err)
		}
		rights = append(rights, bakers)
	}
	return rights
}

func samePlays(a, b []side.Told) bool {
	return slices.EqualFunc(a, b, func(x, y side.Told) bool {
		return x.Sums == y.Sums && slices.Equal(x.Answers, y.Answers)
	})
}

func sameRights(a, b [][]int) bool { return slices.EqualFunc(a, b, slices.Equal[[]int]) }

func wantPlays(t *testing.T, seeds []uint64, script []int, workers int, want []side.Told) {
	t.Helper()
	if got, err := side.Plays(seeds, script, workers); err != nil || !samePlays(got, want) {
		t.Fatalf("%d seeds by %d: %v %v; want %v", len(seeds), workers, got, err, want)
	}
}

func wantRights(t *testing.T, w []int, seed uint64, cycle int, levels []int, workers int, want [][]int) {
	t.Helper()
	if got, err := side.Rights(w, seed, cycle, levels, workers); err != nil || !sameRights(got, want) {
		t.Fatalf("%d levels by %d: %v %v; want %v", len(levels), workers, got, err, want)
	}
}

// wantNoPlays, and just that error.
func wantNoPlays(t *testing.T, seeds []uint64, workers int, want error) {
	t.Helper()
	if got, err := side.Plays(seeds, []int{5}, workers); len(got) != 0 || err != want {
		t.Errorf("%d seeds by %d: %v %v; want %v", len(seeds), workers, got, err, want)
	}
}

// wantNoRights, and just that error.
func wantNoRights(t *testing.T, w, levels []int, workers int, want error) {
	t.Helper()
	if got, err := side.Rights(w, 1, 0, levels, workers); len(got) != 0 || err != want {
		t.Errorf("%d levels by %d: %v %v; want %v", len(levels), workers, got, err, want)
	}
}

// wantFault: no rights, and that error with that place, by however many.
func wantFault(t *testing.T, w []int, cycle int, levels []int, at int, want error) {
	t.Helper()
	for workers := 1; workers <= 16; workers++ {
		got, err := side.Rights(w, 1, cycle, levels, workers)
		var fault *api.Fault
		if !errors.As(err, &fault) || err != error(fault) || fault.At != at || fault.Err != want || len(got) != 0 {
			t.Fatalf("by %d: %v %#v; want %v at %d", workers, got, err, want, at)
		}
	}
}

// P120: what is told of a play has just these fields.
func TestToldFields(t *testing.T) {
	_ = side.Told{[]int{1}, play.Sums{Spend: 1, Staked: 2, Supply: 3}}
	if n := reflect.TypeFor[side.Told]().NumField(); n != 2 {
		t.Error(n)
	}
}

// P120: plays that were worked out by hand: new chains, and ones with a stake, a wait and a block.
func TestPlaysTold(t *testing.T) {
	wantPlays(t, []uint64{7}, nil, 1, []side.Told{{Sums: play.Sums{Spend: 57000, Staked: 3000, Supply: 60000}}})
	script := []int{8*(3+6*1+18*899) + 1, 8*(3+6*1+18*399) + 2, 8*3 + 3, -1}
	one := side.Told{Answers: []int{0, 0, 4, -1}, Sums: play.Sums{Spend: 56100, Staked: 3900, Supply: 60000}}
	wantPlays(t, []uint64{1, 2, 1}, script, 2, []side.Told{one, one, one})
	// The reward of a first block: what is staked is 50000 millionths of supply.
	block := side.Told{Answers: []int{0}, Sums: play.Sums{Spend: 57000, Staked: 3540, Supply: 60540}}
	wantPlays(t, []uint64{0, math.MaxUint64}, []int{5}, 16, []side.Told{block, block})
}

// P120, P121: each seed's play is that of a chain of its own, in the order of the seeds, by however many.
func TestPlays(t *testing.T) {
	l := lots.New(120)
	for _, n := range counts {
		seeds, script := makeSeeds(l, n), makeScript(t, l, 120)
		want := playsByHand(seeds, script)
		for workers := 1; workers <= 16; workers++ {
			wantPlays(t, seeds, script, workers, want)
		}
		if n > 2 && samePlays(want[:1], want[1:2]) {
			t.Error("the seeds are all one")
		}
	}
}

// P120: the same seed twice is two chains: none goes on where the other one ended.
func TestSameSeeds(t *testing.T) {
	seeds := slices.Repeat([]uint64{3}, 20)
	script := makeScript(t, lots.New(3), 300)
	want := slices.Repeat(playsByHand(seeds[:1], script), 20)
	for workers := 1; workers <= 16; workers++ {
		wantPlays(t, seeds, script, workers, want)
	}
}

// P120: a script is played up to MaxSteps; the most seeds of the longest script.
func TestLongScript(t *testing.T) {
	l := lots.New(7)
	seeds, script := makeSeeds(l, 100), makeScript(t, l, api.MaxSteps+10)
	want := playsByHand(seeds, script)
	if len(want[99].Answers) != api.MaxSteps {
		t.Fatal(len(want[99].Answers))
	}
	for _, workers := range []int{1, 5, 16} {
		wantPlays(t, seeds, script, workers, want)
	}
}

// P120, P3: workers ahead of the bound, both bare, and nothing with them.
func TestPlaysErrors(t *testing.T) {
	for _, workers := range wrongWorkers {
		for _, n := range []int{0, 1, 100, 101, 5000} {
			wantNoPlays(t, make([]uint64, n), workers, api.ErrShape)
		}
	}
	for workers := 1; workers <= 16; workers++ {
		wantNoPlays(t, make([]uint64, 101), workers, api.ErrBound)
		wantNoPlays(t, make([]uint64, 5000), workers, api.ErrBound)
		wantNoPlays(t, nil, workers, nil)
		wantNoPlays(t, []uint64{}, workers, nil)
	}
}

// P120: rights that were worked out by another program.
func TestRightsTold(t *testing.T) {
	wantRights(t, []int{3000, 0, 1000}, 5, 0, []int{1, 2}, 3, [][]int{{0, 0, 0, 0, 2, 0, 2, 0}, {0, 0, 0, 0, 2, 2, 2, 0}})
	wantRights(t, []int{0, 1}, 9, lastCycle, []int{0, lastLevel, 0}, 2, slices.Repeat([][]int{{1, 1, 1, 1, 1, 1, 1, 1}}, 3))
}

// P120, P121: each level's rights, in the order of the levels, by however many.
func TestRights(t *testing.T) {
	l := lots.New(121)
	for _, n := range counts {
		w := []int{below(t, l, 2000), 500, 0, below(t, l, 1<<30)}
		seed, cycle, levels := l.Next(), below(t, l, lastCycle+1), makeLevels(t, l, n)
		want := rightsByHand(t, w, seed, cycle, levels)
		for workers := 1; workers <= 16; workers++ {
			wantRights(t, w, seed, cycle, levels, workers, want)
		}
	}
}

// P120: levels may be the same, and go down.
func TestAnyLevels(t *testing.T) {
	w, levels := []int{1, 2, 3}, []int{9, 9, 8, lastLevel, 0, 9}
	want := rightsByHand(t, w, 4, 2, levels)
	if !slices.Equal(want[0], want[5]) || slices.Equal(want[0], want[2]) {
		t.Fatal(want)
	}
	for workers := 1; workers <= 16; workers++ {
		wantRights(t, w, 4, 2, levels, workers, want)
	}
}

// P120, P3: workers ahead of the bound, and both, bare, ahead of what a level has.
func TestRightsErrors(t *testing.T) {
	for _, workers := range wrongWorkers {
		for _, n := range []int{0, 1, 100, 101, 5000} {
			wantNoRights(t, []int{1}, make([]int, n), workers, api.ErrShape)
			wantNoRights(t, nil, make([]int, n), workers, api.ErrShape)
		}
	}
	for workers := 1; workers <= 16; workers++ {
		wantNoRights(t, []int{1}, make([]int, 101), workers, api.ErrBound)
		wantNoRights(t, nil, slices.Repeat([]int{-1}, 5000), workers, api.ErrBound)
	}
}

// P120: an error has the place of the first level that has one, whichever was made first.
func TestFirstFault(t *testing.T) {
	for _, wrong := range []int{-1, lastLevel + 1, math.MinInt, math.MaxInt} {
		for _, at := range []int{0, 1, 15, 16, 50, 98, 99} {
			levels := make([]int, 100)
			levels[at] = wrong
			wantFault(t, []int{1, 2}, 0, levels, at, api.ErrBound)
			for k := at + 1; k < 100; k += 3 {
				levels[k] = lastLevel + k
			}
			wantFault(t, []int{1, 2}, 0, levels, at, api.ErrBound)
		}
	}
	wantFault(t, []int{1}, 0, []int{0, lastLevel, lastLevel + 1, -1}, 2, api.ErrBound)
}

// P120: what is wrong with weights or the cycle is so with the first level; a weight's own place is not told.
func TestFaultOfAll(t *testing.T) {
	levels := []int{4, 5, 6}
	wantFault(t, nil, 0, levels, 0, api.ErrShape)
	wantFault(t, []int{}, 0, levels, 0, api.ErrShape)
	wantFault(t, slices.Repeat([]int{1}, 65), 0, levels, 0, api.ErrShape)
	wantFault(t, []int{1, 1, -1, 1}, 0, levels, 0, api.ErrBound)
	wantFault(t, []int{1, 1<<30 + 1}, 0, levels, 0, api.ErrBound)
	wantFault(t, []int{0, 0}, 0, levels, 0, api.ErrNone)
	wantFault(t, []int{1}, -1, levels, 0, api.ErrBound)
	wantFault(t, []int{1}, lastCycle+1, levels, 0, api.ErrBound)
	// A level's bound is asked ahead of the weights, and those of the levels ahead of it are told first.
	wantFault(t, nil, 0, []int{-1, 0}, 0, api.ErrBound)
	wantFault(t, nil, 0, []int{0, -1}, 0, api.ErrShape)
}

// P120, P3: without levels nothing is wrong with any of them.
func TestNoLevels(t *testing.T) {
	for workers := 1; workers <= 16; workers++ {
		wantNoRights(t, []int{1}, nil, workers, nil)
		wantNoRights(t, nil, []int{}, workers, nil)
		wantNoRights(t, []int{-1}, []int{-1, 4}[:0], workers, nil)
	}
}

// P3, P4: what is handed over is only read, and none of it behind its length.
func TestOnlyRead(t *testing.T) {
	seeds, script := []uint64{4, 5, 6, 7}, []int{5, -1, 8*3 + 1, 5, 5, 5}
	w, levels := []int{3, 4, -1, -1}, []int{1, 2, 3, -1, -1}
	told, err := side.Plays(seeds[:2], script[:3], 2)
	if err != nil || !samePlays(told, playsByHand([]uint64{4, 5}, []int{5, -1, 25})) {
		t.Error(told, err)
	}
	rights, err := side.Rights(w[:2], 1, 2, levels[:3], 2)
	if err != nil || !sameRights(rights, rightsByHand(t, []int{3, 4}, 1, 2, []int{1, 2, 3})) {
		t.Error(rights, err)
	}
	if !slices.Equal(seeds, []uint64{4, 5, 6, 7}) || !slices.Equal(script, []int{5, -1, 25, 5, 5, 5}) {
		t.Error(seeds, script)
	}
	if !slices.Equal(w, []int{3, 4, -1, -1}) || !slices.Equal(levels, []int{1, 2, 3, -1, -1}) {
		t.Error(w, levels)
	}
}

// spoil a list, and what lies behind it.
func spoil(l []int) {
	for k := range l {
		l[k] = -77
	}
	_ = append(l, -88)
}

// P4: answers are new memory: neither those of a later call nor the others of their own change with them.
func TestNewMemory(t *testing.T) {
	seeds, script, w, levels := []uint64{1, 1, 2}, []int{5, 5, -1}, []int{1, 2}, []int{3, 3, 4}
	plays, rights := playsByHand(seeds, script), rightsByHand(t, w, 1, 0, levels)
	for k := range 3 {
		told, err := side.Plays(seeds, script, 2)
		if err != nil {
			t.Fatal(err)
		}
		bakers, err := side.Rights(w, 1, 0, levels, 2)
		if err != nil {
			t.Fatal(err)
		}
		spoil(told[k].Answers)
		spoil(bakers[k])
		told[k], bakers[k] = plays[k], rights[k]
		if !samePlays(told, plays) || !sameRights(bakers, rights) {
			t.Error(k, told, bakers)
		}
		wantPlays(t, seeds, script, 2, plays)
		wantRights(t, w, 1, 0, levels, 2, rights)
	}
}

// P2, P121: the same, time and again, also while others make the same calls.
func TestManyAtOnce(t *testing.T) {
	l := lots.New(2)
	seeds, script, w, levels := makeSeeds(l, 30), makeScript(t, l, 60), []int{5, 0, 7}, makeLevels(t, l, 30)
	plays, rights := playsByHand(seeds, script), rightsByHand(t, w, 8, 3, levels)
	wrong := slices.Clone(levels)
	wrong[11], wrong[20] = -1, -1
	var group sync.WaitGroup
	for i := range 12 {
		group.Go(func() {
			for workers := 1; workers <= 16; workers++ {
				told, err := side.Plays(seeds, script, workers)
				if err != nil || !samePlays(told, plays) {
					t.Error(i, workers, err)
				}
				bakers, err := side.Rights(w, 8, 3, levels, workers)
				if err != nil || !sameRights(bakers, rights) {
					t.Error(i, workers, err)
				}
				var fault *api.Fault
				if _, err := side.Rights(w, 8, 3, wrong, workers); !errors.As(err, &fault) || fault.At != 11 {
					t.Error(i, workers, err)
				}
			}
		})
	}
	group.Wait()
}
