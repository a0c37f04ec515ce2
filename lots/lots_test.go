package lots_test

import (
	"math"
	"slices"
	"testing"

	"bakehouse/api"
	"bakehouse/lots"
)

// P40: the lots of some seeds, worked out by another program.
func TestNext(t *testing.T) {
	for _, c := range []struct {
		seed uint64
		want []uint64
	}{
		{0x0, []uint64{0xE220A8397B1DCDAF, 0x6E789E6AA1B965F4, 0x06C45D188009454F, 0xF88BB8A8724C81EC, 0x1B39896A51A8749B}},
		{0x1, []uint64{0x910A2DEC89025CC1, 0xBEEB8DA1658EEC67, 0xF893A2EEFB32555E, 0x71C18690EE42C90B, 0x71BB54D8D101B5B9}},
		{0x12D687, []uint64{0x599ED017FB08FC85, 0x2C73F08458540FA5, 0x883EBCE5A3F27C77, 0x3FBEF740E9177B3F, 0xE3B8346708CB5ECD}},
		{1 << 63, []uint64{0x481EC0A212A9F3DB, 0xC46FA638A6309012, 0x61A685FFC80A8140, 0x592E268383E356F9, 0x0C8881EE746884D3}},
		{math.MaxUint64, []uint64{0xE4D971771B652C20, 0xE99FF867DBF682C9, 0x382FF84CB27281E9, 0x6D1DB36CCBA982D2, 0xB4A0472E578069AE}},
		// Its state becomes 0: what is beyond 64 bits is lost.
		{0x61C8864680B583EB, []uint64{0, 0xE220A8397B1DCDAF, 0x6E789E6AA1B965F4, 0x06C45D188009454F, 0xF88BB8A8724C81EC}},
	} {
		l := lots.New(c.seed)
		for i, want := range c.want {
			if z := l.Next(); z != want {
				t.Errorf("seed %#x, lot %d: %#x, not %#x", c.seed, i, z, want)
			}
		}
	}
}

// P41: lots below a number, worked out by another program.
func TestBelow(t *testing.T) {
	for _, c := range []struct {
		seed uint64
		n    int
		want []int
	}{
		{0, 1, []int{0, 0, 0, 0, 0}},
		{0, 6, []int{3, 0, 3, 2, 3}},
		{0, 1000, []int{767, 850, 839, 222, 373}},
		{9, 7, []int{1, 1, 3, 0, 2}},
		{math.MaxUint64, 3, []int{1, 1, 0, 0, 0}},
		{1, api.MaxAmount - 1, []int{306721943797889, 500074631630352, 511786115221953, 214716003742397, 468857563179283}},
		{1, api.MaxAmount, []int{306721943793248, 500074631624243, 511786115213999, 214716003738757, 468857563175644}},
	} {
		l := lots.New(c.seed)
		for i, want := range c.want {
			if n, err := l.Below(c.n); n != want || err != nil {
				t.Errorf("seed %#x, below %d, lot %d: %d %v, not %d", c.seed, c.n, i, n, err, want)
			}
		}
	}
}

// P41: the last lot that is less than the greatest multiple is taken, the one behind it is not.
func TestBelowAtTheMultiple(t *testing.T) {
	for _, n := range []int{3, 5, 6, 7, 1000, 1<<49 + 1, api.MaxAmount/3 + 1, api.MaxAmount - 1} {
		end := lastMultiple(n)
		for bit := range uint64(2) { // Next over 2 is the same, whatever the last bit is
			l := lots.New(seedOf(2*(end-1) + bit))
			if got, err := l.Below(n); got != n-1 || err != nil {
				t.Errorf("below %d, ahead of the multiple: %d %v", n, got, err)
			}
			for _, z := range []uint64{end, 1<<63 - 1} {
				seed := seedOf(2*z + bit)
				l, by := lots.New(seed), lots.New(seed)
				by.Next()
				if got, err := l.Below(n); got != int(by.Next()/2%uint64(n)) || err != nil {
					t.Errorf("below %d, lot %#x: %d %v", n, z, got, err)
				}
				if l.Next() != by.Next() {
					t.Errorf("below %d, lot %#x: not two lots were asked for", n, z)
				}
			}
		}
	}
}

// P41: where 2^63 is a multiple of n itself, each lot is taken.
func TestBelowPowersOfTwo(t *testing.T) {
	seed := seedOf(math.MaxUint64)
	for n := 1; n <= api.MaxAmount; n *= 2 {
		l, by := lots.New(seed), lots.New(seed)
		by.Next()
		if got, err := l.Below(n); got != n-1 || err != nil || l.Next() != by.Next() {
			t.Errorf("below %d: %d %v", n, got, err)
		}
	}
}

// P41: it goes on as long as a lot is not less, not just once.
func TestBelowMoreThanOnceBeyond(t *testing.T) {
	n := api.MaxAmount/3*2 + 1
	end := lastMultiple(n)
	for z := end; z < 1<<63; z++ {
		seed := seedOf(2 * z)
		by := lots.New(seed)
		by.Next()
		if by.Next()/2 < end {
			continue
		}
		want := by.Next() / 2
		if want >= end {
			continue
		}
		l := lots.New(seed)
		if got, err := l.Below(n); got != int(want%uint64(n)) || err != nil || l.Next() != by.Next() {
			t.Errorf("seed %#x: %d %v, not %d", seed, got, err, want%uint64(n))
		}
		return
	}
	t.Error("no seed was found")
}

// P41, P3: wrong numbers are told, and no lot is asked for.
func TestBelowWrong(t *testing.T) {
	l, by := lots.New(5), lots.New(5)
	for _, n := range []int{math.MinInt, -api.MaxAmount, -1, 0, api.MaxAmount + 1, math.MaxInt} {
		if got, err := l.Below(n); got != 0 || err != api.ErrBound {
			t.Errorf("below %d: %d %v", n, got, err)
		}
		if l.Next() != by.Next() {
			t.Fatalf("below %d: a lot was asked for", n)
		}
	}
}

// P41: each answer is below its number, all of them come, about as often as each other.
func TestBelowIsEven(t *testing.T) {
	const n, each = 12, 1000
	l := lots.New(77)
	var often [n]int
	for range n * each {
		got, err := l.Below(n)
		if got < 0 || got >= n || err != nil {
			t.Fatal(got, err)
		}
		often[got]++
	}
	for k, o := range often {
		if o < each*8/10 || o > each*12/10 {
			t.Errorf("%d came %d times of %d", k, o, n*each)
		}
	}
}

// P41: numbers that are mixed into a seed, worked out by another program.
func TestMix(t *testing.T) {
	for _, c := range []struct {
		seed uint64
		l    []int
		want uint64
	}{
		{7, nil, 7},
		{7, []int{}, 7},
		{math.MaxUint64, nil, math.MaxUint64},
		{0, []int{0}, 0xE220A8397B1DCDAF},
		{3, []int{3}, 0xE220A8397B1DCDAF},
		{0, []int{0, 0}, 0xA706DD2F4D197E6F},
		{7, []int{1}, 0xBD64A5D9ADEFE000},
		{7, []int{1, 2}, 0x4237A47555758E0F},
		{7, []int{2, 1}, 0xE17B6D147DA182DA},
		{0, []int{-1}, 0xE4D971771B652C20},
		{math.MaxUint64, []int{-1}, 0xE220A8397B1DCDAF},
		{5, []int{1 << 62, math.MinInt, math.MaxInt}, 0x39EEE0054A4DCB81},
	} {
		if got := lots.Mix(c.seed, c.l...); got != c.want {
			t.Errorf("%#x and %v: %#x, not %#x", c.seed, c.l, got, c.want)
		}
	}
}

// P41: one by one, or all at once.
func TestMixInOrder(t *testing.T) {
	var l []int
	seed, one := uint64(11), uint64(11)
	for n := range 200 {
		n = n*n - 50
		l = append(l, n)
		one = lots.New(one ^ uint64(n)).Next()
		if all := lots.Mix(seed, l...); all != one {
			t.Fatalf("%d numbers: %#x, not %#x", len(l), all, one)
		}
	}
}

// P3, P4: a list is only read, and not behind its length.
func TestMixOnlyReads(t *testing.T) {
	l := []int{1, 2, 3, 4}
	if lots.Mix(7, l[:2]...) != lots.Mix(7, 1, 2) {
		t.Error("read behind its length")
	}
	if !slices.Equal(l, []int{1, 2, 3, 4}) {
		t.Error("changed", l)
	}
}

// P42, P2: the same seed has the same lots, whatever other lots are asked for between.
func TestSameSeed(t *testing.T) {
	for _, seed := range []uint64{0, 1, 1 << 40, math.MaxUint64} {
		a, b, other := lots.New(seed), lots.New(seed), lots.New(seed+1)
		var early []uint64
		for range 100 {
			early = append(early, a.Next())
		}
		for i, want := range early {
			other.Next()
			lots.Mix(seed, i)
			if z := b.Next(); z != want {
				t.Fatalf("seed %#x, lot %d: %#x, not %#x", seed, i, z, want)
			}
		}
		for n := 1; n < 1<<48; n = n*5 + 1 {
			x, err := a.Below(n)
			y, err2 := b.Below(n)
			if x != y || err != nil || err2 != nil {
				t.Fatalf("seed %#x, below %d: %d %d", seed, n, x, y)
			}
		}
	}
}

// lastMultiple is the greatest multiple of n that is at most 2^63.
func lastMultiple(n int) uint64 {
	return 1 << 63 / uint64(n) * uint64(n)
}

// seedOf is the seed whose first lot is z: Next, backwards.
func seedOf(z uint64) uint64 {
	z = unshift(z, 31) * inverse(0x94D049BB133111EB)
	z = unshift(z, 27) * inverse(0xBF58476D1CE4E5B9)
	return unshift(z, 30) - 0x9E3779B97F4A7C15
}

// unshift finds x of x xor x over 2^by: each round makes by more of its high bits right.
func unshift(z uint64, by int) uint64 {
	x := z
	for done := by; done < 64; done += by {
		x = z ^ x>>by
	}
	return x
}

// inverse of an odd number: each round makes twice as many of its low bits right.
func inverse(n uint64) uint64 {
	x := n
	for range 6 {
		x *= 2 - n*x
	}
	return x
}

// The tests above stand on seeds that have the lot that they are to have.
func TestSeedOf(t *testing.T) {
	for _, z := range []uint64{0, 1, 1 << 63, math.MaxUint64, 0xE220A8397B1DCDAF} {
		if got := lots.New(seedOf(z)).Next(); got != z {
			t.Errorf("%#x: %#x", z, got)
		}
	}
}
