package tests

import (
	"slices"
	"testing"

	"loop.example/ringsofsteps/impl"
)

func TestFreeSetsAreFoundBySearch(t *testing.T) {
	c := newFreeCalls(t)
	for n, s := range eachSteps() {
		got := freeFound{c.freeMost(n, s), c.freeMany(n, s), c.freeFull(n, s), c.freeWatch(n, s), c.freeNeat(n, s)}
		want := freeBySearch(n, s)
		same := got.most == want.most && got.many == want.many && got.full == want.full && got.watch == want.watch
		if !same || !slices.Equal(got.neat, want.neat) {
			t.Fatalf("%d and %d: %v, want %v", n, s, got, want)
		}
	}
}

func TestWaysOfColoursAreFoundBySearch(t *testing.T) {
	c := newFreeCalls(t)
	for n, s := range eachPaintedSteps() {
		for k := range mostColours + 1 {
			if got, want := c.freeWays(n, s, k), waysBySearch(n, s, k); got != want {
				t.Fatalf("FreeWays(%d, %d, %d) = %d, want %d", n, s, k, got, want)
			}
		}
	}
}

func TestColoursAreFoundBySets(t *testing.T) {
	c := newFreeCalls(t)
	for n, s := range eachPaintedSteps() {
		to, _ := arcsOf(n, s)
		if got, want := c.freeColours(n, s), coloursBySets(n, 1<<n-1, to); got != want {
			t.Fatalf("FreeColours(%d, %d) = %d, want %d", n, s, got, want)
		}
	}
}

func TestSumlessSetsAreFoundBySearch(t *testing.T) {
	c := newFreeCalls(t)
	for n := 1; n <= impl.RingMax; n++ {
		if got, want := c.freeSumless(n), sumlessBySearch(n); got != want {
			t.Errorf("FreeSumless(%d) = %d, want %d", n, got, want)
		}
	}
}

// TestFreeWithoutSteps writes out the set 0: no arc leads anywhere, so that each set is free, and only all places watch.
func TestFreeWithoutSteps(t *testing.T) {
	c := newFreeCalls(t)
	for n := 1; n <= impl.RingMax; n++ {
		if c.freeMost(n, 0) != n || c.freeMany(n, 0) != 1<<n || c.freeFull(n, 0) != 1 || c.freeWatch(n, 0) != n {
			t.Errorf("no steps of %d: most %d, many %d, full %d, watch %d", n, c.freeMost(n, 0), c.freeMany(n, 0), c.freeFull(n, 0), c.freeWatch(n, 0))
		}
		if got := c.freeNeat(n, 0); !slices.Equal(got, []int{1<<n - 1}) {
			t.Errorf("no steps of %d: neat %v", n, got)
		}
	}
	for n := 1; n <= mostPainted; n++ {
		if got := c.freeColours(n, 0); got != 1 {
			t.Errorf("no steps of %d: colours %d", n, got)
		}
		for k := range mostColours + 1 {
			if got := c.freeWays(n, 0, k); got != power(k, n) {
				t.Errorf("no steps of %d: %d ways with %d colours", n, got, k)
			}
		}
	}
}

// TestFreeWithAllSteps writes out the steps by which each place is joined by an arc to each other one.
func TestFreeWithAllSteps(t *testing.T) {
	c := newFreeCalls(t)
	for n := 1; n <= impl.RingMax; n++ {
		s := allSteps(n)
		if c.freeMost(n, s) != 1 || c.freeMany(n, s) != n+1 || c.freeFull(n, s) != n || c.freeWatch(n, s) != 1 {
			t.Errorf("all steps of %d: most %d, many %d, full %d, watch %d", n, c.freeMost(n, s), c.freeMany(n, s), c.freeFull(n, s), c.freeWatch(n, s))
		}
		var single []int
		for v := range n {
			single = append(single, 1<<v)
		}
		if got := c.freeNeat(n, s); !slices.Equal(got, single) {
			t.Errorf("all steps of %d: neat %v", n, got)
		}
	}
	for n := 1; n <= mostPainted; n++ {
		if got := c.freeColours(n, allSteps(n)); got != n {
			t.Errorf("all steps of %d: colours %d", n, got)
		}
		for k := range mostColours + 1 {
			want := 1
			for v := range n {
				want *= max(k-v, 0)
			}
			if got := c.freeWays(n, allSteps(n), k); got != want {
				t.Errorf("all steps of %d: %d ways with %d colours, want %d", n, got, k, want)
			}
		}
	}
}

// TestFreeByOneStep writes out a unit, which leads around the ring, alone and with it turned by -1.
// By both, free sets, full ones and fair colours are the same; sets that watch are not.
func TestFreeByOneStep(t *testing.T) {
	c := newFreeCalls(t)
	for n := 3; n <= impl.RingMax; n++ {
		full := 2
		if n == 3 {
			full = 3 // all places
		}
		for _, u := range unitsOf(n) {
			one, both := 1<<u, 1<<u|1<<(n-u)
			for _, s := range []int{one, both} {
				if c.freeMost(n, s) != n/2 || c.freeMany(n, s) != freeAround(n) || c.freeFull(n, s) != full {
					t.Errorf("%d and %d: most %d, many %d, full %d", n, s, c.freeMost(n, s), c.freeMany(n, s), c.freeFull(n, s))
				}
			}
			if c.freeWatch(n, one) != (n+1)/2 || c.freeWatch(n, both) != (n+2)/3 {
				t.Errorf("%d and %d: watch %d, by both steps %d", n, one, c.freeWatch(n, one), c.freeWatch(n, both))
			}
			if len(c.freeNeat(n, one)) != dividedBy(n, 2) || len(c.freeNeat(n, both)) != dividedBy(n, 3) {
				t.Errorf("%d and %d: neat %v, by both steps %v", n, one, c.freeNeat(n, one), c.freeNeat(n, both))
			}
			if n <= mostPainted {
				checkColoursAround(t, n, one)
				checkColoursAround(t, n, both)
			}
		}
	}
}

// freeAround is the number of free sets around a ring: that of one place less, and that of two places less, added up.
func freeAround(n int) int {
	less, many := 1, 3
	for range n - 2 {
		less, many = many, less+many
	}
	return many
}

// dividedBy is d if it divides n, and otherwise 0.
func dividedBy(n, d int) int {
	if n%d == 0 {
		return d
	}
	return 0
}

// checkColoursAround writes out the ways to give k colours around a ring: the power of n of 1 less than k, and this number more for even n, or less for odd n.
func checkColoursAround(t *testing.T, n, s int) {
	t.Helper()
	c := newFreeCalls(t)
	if got := c.freeColours(n, s); got != 2+n%2 {
		t.Errorf("FreeColours(%d, %d) = %d", n, s, got)
	}
	if got := c.freeWays(n, s, 0); got != 0 {
		t.Errorf("FreeWays(%d, %d, 0) = %d", n, s, got)
	}
	for k := 1; k <= mostColours; k++ {
		want := power(k-1, n) + (k - 1)
		if n%2 == 1 {
			want = power(k-1, n) - (k - 1)
		}
		if got := c.freeWays(n, s, k); got != want {
			t.Errorf("FreeWays(%d, %d, %d) = %d, want %d", n, s, k, got, want)
		}
	}
}

// TestFreeOfOnePlace writes out the ring whose only place is 0.
func TestFreeOfOnePlace(t *testing.T) {
	c := newFreeCalls(t)
	if c.freeMost(1, 0) != 1 || c.freeMany(1, 0) != 2 || c.freeFull(1, 0) != 1 || c.freeWatch(1, 0) != 1 || !slices.Equal(c.freeNeat(1, 0), []int{1}) {
		t.Errorf("most %d, many %d, full %d, watch %d, neat %v", c.freeMost(1, 0), c.freeMany(1, 0), c.freeFull(1, 0), c.freeWatch(1, 0), c.freeNeat(1, 0))
	}
	if c.freeColours(1, 0) != 1 || c.freeWays(1, 0, 0) != 0 || c.freeWays(1, 0, 1) != 1 || c.freeWays(1, 0, 4) != 4 {
		t.Errorf("colours %d, ways %d, %d, %d", c.freeColours(1, 0), c.freeWays(1, 0, 0), c.freeWays(1, 0, 1), c.freeWays(1, 0, 4))
	}
	// 0 and 0 is 0, so that only the empty set is sumless.
	if got := c.freeSumless(1); got != 0 {
		t.Errorf("sumless %d", got)
	}
}

func TestNeatSetsWrittenOut(t *testing.T) {
	c := newFreeCalls(t)
	for _, x := range []struct {
		name      string
		got, want []int
	}{
		{"by 1 of 2", c.freeNeat(2, 0b10), []int{0b01, 0b10}},
		{"by 1 of 5, which 2 does not divide", c.freeNeat(5, 0b00010), nil},
		{"by 1 of 6", c.freeNeat(6, 0b000010), []int{0b010101, 0b101010}},
		{"by 1 and 5 of 6", c.freeNeat(6, 0b100010), []int{0b001001, 0b010010, 0b100100}},
		{"by 2 of 6, in parts of three places", c.freeNeat(6, 0b000100), nil},
		{"by 3 of 6", c.freeNeat(6, 0b001000), []int{0b000111, 0b001110, 0b010101, 0b011100, 0b100011, 0b101010, 0b110001, 0b111000}},
		{"by 1 and 3 of 6, which 3 divides", c.freeNeat(6, 0b001010), nil},
		{"by 1 and 2 of 9", c.freeNeat(9, 0b000000110), []int{0b001001001, 0b010010010, 0b100100100}},
		{"by 1, 2 and 4 of 7", c.freeNeat(7, 0b0010110), nil},
		{"by 1, 4 and 7 of 8", c.freeNeat(8, 0b10010010), nil},
		{"by 1, 2 and 3 of 12", c.freeNeat(12, 0b1110), []int{0b000100010001, 0b001000100010, 0b010001000100, 0b100010001000}},
		{"by 1 and 11 of 12", c.freeNeat(12, 1<<1|1<<11), []int{0b001001001001, 0b010010010010, 0b100100100100}},
		{"by all but 6 of 12", c.freeNeat(12, allSteps(12)&^(1<<6)), nil},
		{"by 1 to 5 of 12", c.freeNeat(12, 0b111110), []int{1<<6 | 1, 1<<7 | 1<<1, 1<<8 | 1<<2, 1<<9 | 1<<3, 1<<10 | 1<<4, 1<<11 | 1<<5}},
	} {
		if !slices.Equal(x.got, x.want) {
			t.Errorf("%s: %v, want %v", x.name, x.got, x.want)
		}
	}
}

func TestFreeNumbersWrittenOut(t *testing.T) {
	c := newFreeCalls(t)
	for _, x := range []struct {
		name      string
		got, want int
	}{
		{"most by 1 and 2 of 8", c.freeMost(8, 0b00000110), 2},
		{"most by 1, 4 and 7 of 8", c.freeMost(8, 0b10010010), 3},
		{"most by 3 and 6 of 9, one of each part", c.freeMost(9, 1<<3|1<<6), 3},
		{"most by 1, 3 and 5 of 12", c.freeMost(12, 1<<1|1<<3|1<<5), 6},
		{"most by 1, 2 and 4 of 7", c.freeMost(7, 0b0010110), 1},
		{"many by 1 and 4 of 5", c.freeMany(5, 0b10010), 11},
		{"many by 1 of 5", c.freeMany(5, 0b00010), 11},
		{"many by 1, 3, 5 and 7 of 8, even places or odd ones", c.freeMany(8, 0b10101010), 31},
		{"many by 3 and 6 of 9, in parts", c.freeMany(9, 1<<3|1<<6), 64},
		{"many by 3 of 9, in the same parts", c.freeMany(9, 1<<3), 64},
		{"many by 6 of 12, in parts", c.freeMany(12, 1<<6), 729},
		{"many by 1 of 12", c.freeMany(12, 1<<1), 322},
		{"full by 1 and 2 of 8", c.freeFull(8, 0b00000110), 3},
		{"full by 1, 2 and 4 of 7, all of them", c.freeFull(7, 0b0010110), 7},
		{"full by 3 of 9", c.freeFull(9, 1<<3), 3},
		{"full by 1, 3 and 5 of 12", c.freeFull(12, 1<<1|1<<3|1<<5), 2},
		{"full by 2, 4 and 6 of 12", c.freeFull(12, 1<<2|1<<4|1<<6), 6},
		{"watch by 1 of 5", c.freeWatch(5, 0b00010), 3},
		{"watch by 4 of 5", c.freeWatch(5, 0b10000), 3},
		{"watch by 1 and 4 of 5", c.freeWatch(5, 0b10010), 2},
		{"watch by 1, 2 and 4 of 7", c.freeWatch(7, 0b0010110), 3},
		{"watch by 1, 3, 5 and 7 of 8", c.freeWatch(8, 0b10101010), 2},
		{"watch by 3 and 6 of 9, one of each part", c.freeWatch(9, 1<<3|1<<6), 3},
		{"watch by 3 of 9, two of each part", c.freeWatch(9, 1<<3), 6},
		{"watch by 1 to 5 of 12", c.freeWatch(12, 0b111110), 2},
		{"watch by all but 6 of 12", c.freeWatch(12, allSteps(12)&^(1<<6)), 2},
	} {
		if x.got != x.want {
			t.Errorf("%s: %d, want %d", x.name, x.got, x.want)
		}
	}
}

func TestColoursWrittenOut(t *testing.T) {
	c := newFreeCalls(t)
	for _, x := range []struct {
		name      string
		got, want int
	}{
		{"colours by 1 of 2", c.freeColours(2, 0b10), 2},
		{"colours by 1 of 5", c.freeColours(5, 0b00010), 3},
		{"colours by 1 and 4 of 5", c.freeColours(5, 0b10010), 3},
		{"colours by 1 and 2 of 5, all places", c.freeColours(5, 0b00110), 5},
		{"colours by 1 and 2 of 6", c.freeColours(6, 0b000110), 3},
		{"colours by 1 and 2 of 7", c.freeColours(7, 0b0000110), 4},
		{"colours by 1 and 2 of 8", c.freeColours(8, 0b00000110), 4},
		{"colours by 1, 4 and 7 of 8", c.freeColours(8, 0b10010010), 3},
		{"colours by 1, 3, 5 and 7 of 8", c.freeColours(8, 0b10101010), 2},
		{"colours by 1, 2 and 3 of 8, two places each", c.freeColours(8, 0b00001110), 4},
		{"ways by 1 and 4 of 5 with 3", c.freeWays(5, 0b10010, 3), 30},
		{"ways by 1 of 5 with 2", c.freeWays(5, 0b00010, 2), 0},
		{"ways by 3 of 6 with 2", c.freeWays(6, 0b001000, 2), 8},
		{"ways by 2 and 4 of 6 with 3, in parts", c.freeWays(6, 0b010100, 3), 36},
		{"ways by 2 of 6 with 4, in parts", c.freeWays(6, 0b000100, 4), 576},
		{"ways by 1, 2 and 3 of 8 with 4", c.freeWays(8, 0b00001110, 4), 24},
		{"ways by 4 of 8 with 4, in parts", c.freeWays(8, 0b00010000, 4), 20736},
		{"ways by 2 of 8 with 3, in parts", c.freeWays(8, 0b00000100, 3), 324},
		{"ways by 1, 3, 5 and 7 of 8 with 1", c.freeWays(8, 0b10101010, 1), 0},
		{"ways by 1, 3, 5 and 7 of 8 with 2", c.freeWays(8, 0b10101010, 2), 2},
		{"ways by 1 and 3 of 8 with 3", c.freeWays(8, 0b00001010, 3), 90},
		{"ways by 1 and 3 of 8 with 4", c.freeWays(8, 0b00001010, 4), 1812},
	} {
		if x.got != x.want {
			t.Errorf("%s: %d, want %d", x.name, x.got, x.want)
		}
	}
}

func TestSumlessWrittenOut(t *testing.T) {
	c := newFreeCalls(t)
	for i, want := range []int{0, 1, 1, 2, 2, 3, 2, 4, 3, 5, 4, 6} {
		if got := c.freeSumless(i + 1); got != want {
			t.Errorf("FreeSumless(%d) = %d, want %d", i+1, got, want)
		}
	}
}

// TestNeatSetsAreNew writes into a result, behind it as well, and asks again.
func TestNeatSetsAreNew(t *testing.T) {
	for n := 1; n <= impl.RingMax; n++ {
		for _, s := range []int{0, 0b10 & allSteps(n), allSteps(n)} {
			first, _ := impl.FreeNeat(n, s)
			want := slices.Clone(first)
			for i := range first[:cap(first)] {
				first[:cap(first)][i] = 99
			}
			if again, ok := impl.FreeNeat(n, s); !ok || !slices.Equal(again, want) {
				t.Errorf("FreeNeat(%d, %d) asked again: %v, %v, want %v", n, s, again, ok, want)
			}
		}
	}
}
