package tests

import (
	"slices"
	"testing"

	"loop.example/ringsofsteps/impl"
)

func TestWalksAreFoundBySearch(t *testing.T) {
	c := newWalkCalls(t)
	for n, s := range eachSteps() {
		for k := range mostCounted + 1 {
			want := walksBySearch(n, s, k)
			if got := c.counts(n, s, k); !slices.Equal(got, want) {
				t.Fatalf("WalkCounts(%d, %d, %d) = %v, want %v", n, s, k, got, want)
			}
			if got := c.closed(n, s, k); got != want[0] {
				t.Fatalf("WalkClosed(%d, %d, %d) = %d, want %d", n, s, k, got, want[0])
			}
		}
	}
}

func TestSetsOfWalksAreFoundBySearch(t *testing.T) {
	c := newWalkCalls(t)
	for n, s := range eachSteps() {
		sets := ledBySearch(n, s, mostLed)
		for _, k := range []int{0, 1, 2, 3, 4, 5, 7, 10, 11, 12, 13, 23, 50, 99, 100} {
			if got := c.led(n, s, k); got != sets[k] {
				t.Fatalf("WalkSet(%d, %d, %d) = %d, want %d", n, s, k, got, sets[k])
			}
		}
	}
}

func TestFullWalksAreFoundBySearch(t *testing.T) {
	for n, s := range eachSteps() {
		got, ok := impl.WalkFull(n, s)
		want := fullBySearch(n, s)
		if ok != (want >= 0) || ok && got != want || !ok && got != 0 {
			t.Fatalf("WalkFull(%d, %d) = %d, %v, want %d", n, s, got, ok, want)
		}
	}
}

func TestTurnsAreFoundBySearch(t *testing.T) {
	for n, s := range eachSteps() {
		got, ok := impl.WalkTurns(n, s)
		if want := turnsBySearch(n, s); got != want || ok != (want > 0) {
			t.Fatalf("WalkTurns(%d, %d) = %d, %v, want %d", n, s, got, ok, want)
		}
	}
}

func TestTreesAreFoundBySearch(t *testing.T) {
	c := newWalkCalls(t)
	for n, s := range eachTreeSteps() {
		if n > 7 {
			continue
		}
		if got, want := c.trees(n, s), treesBySearch(n, s); got != want {
			t.Fatalf("WalkTrees(%d, %d) = %d, want %d", n, s, got, want)
		}
	}
}

func TestTreesAreFoundByWaves(t *testing.T) {
	c := newWalkCalls(t)
	for n, s := range eachTreeSteps() {
		if got, want := c.trees(n, s), treesByWaves(n, s); got != want {
			t.Fatalf("WalkTrees(%d, %d) = %d, want %d", n, s, got, want)
		}
	}
}

// TestSquaresAreThoseOfBothRoads compares the two meanings that the document gives: squares, and walks that come back by steps turned by -1.
func TestSquaresAreThoseOfBothRoads(t *testing.T) {
	c := newWalkCalls(t)
	for n, s := range eachSteps() {
		for k := range mostSquared + 1 {
			there, back := walksBySearch(n, s, k), walksBySearch(n, turned(n, s, -1), k)
			squares := 0
			for _, ways := range there {
				squares += ways * ways
			}
			if got := c.squares(n, s, k); got != squares || got != together(there, back)[0] {
				t.Fatalf("WalkSquares(%d, %d, %d) = %d, want %d, by walks back %d", n, s, k, got, squares, together(there, back)[0])
			}
		}
	}
}

// TestWalksOfNoArcs writes out k as 0: from any ring and by any steps, the one walk stays at 0.
func TestWalksOfNoArcs(t *testing.T) {
	c := newWalkCalls(t)
	for n, s := range eachSteps() {
		want := make([]int, n)
		want[0] = 1
		if got := c.counts(n, s, 0); !slices.Equal(got, want) {
			t.Fatalf("WalkCounts(%d, %d, 0) = %v", n, s, got)
		}
		if c.closed(n, s, 0) != 1 || c.led(n, s, 0) != 1 || c.squares(n, s, 0) != 1 {
			t.Fatalf("%d and %d without arcs: closed %d, set %d, squares %d", n, s, c.closed(n, s, 0), c.led(n, s, 0), c.squares(n, s, 0))
		}
	}
}

// TestWalksWithoutSteps writes out the set 0: there is no arc to go along.
func TestWalksWithoutSteps(t *testing.T) {
	c := newWalkCalls(t)
	for n := 1; n <= impl.RingMax; n++ {
		for k := 1; k <= mostCounted; k++ {
			if got := c.counts(n, 0, k); !slices.Equal(got, make([]int, n)) || c.closed(n, 0, k) != 0 {
				t.Errorf("no steps of %d, %d arcs: %v, closed %d", n, k, got, c.closed(n, 0, k))
			}
		}
		for k := 1; k <= mostLed; k++ {
			if got := c.led(n, 0, k); got != 0 {
				t.Errorf("no steps of %d, %d arcs: set %d", n, k, got)
			}
		}
		for k := 1; k <= mostSquared; k++ {
			if got := c.squares(n, 0, k); got != 0 {
				t.Errorf("no steps of %d, %d arcs: squares %d", n, k, got)
			}
		}
		if full, ok := impl.WalkFull(n, 0); full != 0 || ok != (n == 1) {
			t.Errorf("no steps of %d: full %d, %v", n, full, ok)
		}
		if n > 1 && n <= mostTrees && c.trees(n, 0) != 0 {
			t.Errorf("no steps of %d: trees %d", n, c.trees(n, 0))
		}
	}
}

// TestWalksWithAllSteps writes out the steps by which an arc leads from each place to each other one:
// a walk ends at 0 as often as walks of one arc less end elsewhere.
func TestWalksWithAllSteps(t *testing.T) {
	c := newWalkCalls(t)
	for n := 2; n <= impl.RingMax; n++ {
		s, back, away := allSteps(n), 1, 0
		for k := range mostCounted + 1 {
			want := slices.Repeat([]int{away}, n)
			want[0] = back
			if got := c.counts(n, s, k); !slices.Equal(got, want) || c.closed(n, s, k) != back {
				t.Errorf("all steps of %d, %d arcs: %v, closed %d, want %v", n, k, got, c.closed(n, s, k), want)
			}
			if k <= mostSquared && c.squares(n, s, k) != back*back+(n-1)*away*away {
				t.Errorf("all steps of %d, %d arcs: squares %d", n, k, c.squares(n, s, k))
			}
			back, away = (n-1)*away, back+(n-2)*away
		}
		full, ok := impl.WalkFull(n, s)
		if ok != (n > 2) || ok && full != 2 {
			t.Errorf("all steps of %d: full %d, %v", n, full, ok)
		}
		// With 2 places, walks come back by even numbers of arcs alone.
		if got := c.turns(n, s); got != 1 && n > 2 || got != 2 && n == 2 {
			t.Errorf("all steps of %d: turns %d", n, got)
		}
	}
}

// TestWalksByOneStep writes out a step alone: its one walk goes on by it.
func TestWalksByOneStep(t *testing.T) {
	c := newWalkCalls(t)
	for n := 2; n <= impl.RingMax; n++ {
		for step := 1; step < n; step++ {
			for k := range mostLed + 1 {
				at := place(n, k*step)
				if got := c.led(n, 1<<step, k); got != 1<<at {
					t.Errorf("step %d of %d, %d arcs: set %d", step, n, k, got)
				}
				if k > mostCounted {
					continue
				}
				want := make([]int, n)
				want[at] = 1
				if got := c.counts(n, 1<<step, k); !slices.Equal(got, want) {
					t.Errorf("step %d of %d, %d arcs: %v", step, n, k, got)
				}
			}
			if full, ok := impl.WalkFull(n, 1<<step); ok || full != 0 {
				t.Errorf("step %d of %d: full %d, %v", step, n, full, ok)
			}
			if got, want := c.turns(n, 1<<step), n/c.parts(n, 1<<step); got != want {
				t.Errorf("step %d of %d: turns %d, want %d", step, n, got, want)
			}
		}
	}
}

// TestWalksOnOnePlace writes out the ring whose only place is 0.
func TestWalksOnOnePlace(t *testing.T) {
	c := newWalkCalls(t)
	if got := c.counts(1, 0, 0); !slices.Equal(got, []int{1}) {
		t.Errorf("counts without arcs: %v", got)
	}
	if got := c.counts(1, 0, 10); !slices.Equal(got, []int{0}) {
		t.Errorf("counts of 10 arcs: %v", got)
	}
	if c.led(1, 0, 0) != 1 || c.led(1, 0, 1) != 0 || c.led(1, 0, 100) != 0 {
		t.Errorf("sets %d, %d, %d", c.led(1, 0, 0), c.led(1, 0, 1), c.led(1, 0, 100))
	}
	if c.full(1, 0) != 0 || c.trees(1, 0) != 1 {
		t.Errorf("full %d, trees %d", c.full(1, 0), c.trees(1, 0))
	}
	if turns, ok := impl.WalkTurns(1, 0); ok || turns != 0 {
		t.Errorf("turns %d, %v", turns, ok)
	}
}

// TestWalkListsWrittenOut holds single results, written out by hand, against the program.
func TestWalkListsWrittenOut(t *testing.T) {
	c := newWalkCalls(t)
	for _, x := range []struct {
		name      string
		got, want []int
	}{
		{"2 arcs by 1 and 2 of 5", c.counts(5, 0b00110, 2), []int{0, 0, 1, 2, 1}},
		{"4 arcs by 1 and 3 of 4", c.counts(4, 0b1010, 4), []int{8, 0, 8, 0}},
		{"3 arcs by 1 and 5 of 6", c.counts(6, 0b100010, 3), []int{0, 3, 0, 2, 0, 3}},
		{"9 arcs by 1 of 2", c.counts(2, 0b10, 9), []int{0, 1}},
		{"10 arcs by 1 and 2 of 3", c.counts(3, 0b110, 10), []int{342, 341, 341}},
		{"10 arcs by 1 and 2 of 11", c.counts(11, 0b110, 10), []int{10, 45, 120, 210, 252, 210, 120, 45, 10, 1, 1}},
		{"10 arcs by 6 of 12", c.counts(12, 1<<6, 10), []int{1, 0, 0, 0, 0, 0, 0, 0, 0, 0, 0, 0}},
		{"2 arcs by 4 and 6 of 12", c.counts(12, 1<<4|1<<6, 2), []int{1, 0, 0, 0, 0, 0, 0, 0, 1, 0, 2, 0}},
		{"10 arcs by all of 12", c.counts(12, allSteps(12), 10), append([]int{2161452051}, slices.Repeat([]int{2161452050}, 11)...)},
	} {
		if !slices.Equal(x.got, x.want) {
			t.Errorf("%s: %v, want %v", x.name, x.got, x.want)
		}
	}
}

func TestWalkNumbersWrittenOut(t *testing.T) {
	c := newWalkCalls(t)
	for _, x := range []struct {
		name      string
		got, want int
	}{
		{"closed of 3 by 1, 2 and 4 of 7", c.closed(7, 0b0010110, 3), 6},
		{"closed of 5 by 1 and 4 of 5", c.closed(5, 0b10010, 5), 2},
		{"closed of 10 by 1 and 11 of 12", c.closed(12, 1<<1|1<<11, 10), 252},
		{"closed of 10 by 1 and 9 of 10, around the ring as well", c.closed(10, 1<<1|1<<9, 10), 254},
		{"closed of 10 by all of 12", c.closed(12, allSteps(12), 10), 2161452051},
		{"set of 2 by 1, 2 and 4 of 7", c.led(7, 0b0010110, 2), 0b1111110},
		{"set of 3 by 4 and 6 of 12", c.led(12, 1<<4|1<<6, 3), 1 | 1<<2 | 1<<4 | 1<<6},
		{"set of 99 by 1 and 3 of 8", c.led(8, 0b00001010, 99), 0b10101010},
		{"set of 100 by 1 and 3 of 8", c.led(8, 0b00001010, 100), 0b01010101},
		{"set of 100 by 2 of 7", c.led(7, 0b100, 100), 0b0010000},
		{"full by 1 and 2 of 3", c.full(3, 0b110), 2},
		{"full by 1 and 4 of 5", c.full(5, 0b10010), 4},
		{"full by 1, 2 and 4 of 7", c.full(7, 0b0010110), 3},
		{"full by 1 and 2 of 12", c.full(12, 0b110), 11},
		{"full by 3 and 4 of 12", c.full(12, 1<<3|1<<4), 11},
		{"turns by 1 of 2", c.turns(2, 0b10), 2},
		{"turns by 1 and 3 of 4", c.turns(4, 0b1010), 2},
		{"turns by 3 and 6 of 9", c.turns(9, 1<<3|1<<6), 1},
		{"turns by 1 of 12", c.turns(12, 1<<1), 12},
		{"turns by 1 and 7 of 12", c.turns(12, 1<<1|1<<7), 6},
		{"turns by 2 and 8 of 12", c.turns(12, 1<<2|1<<8), 3},
		{"turns by 1 and 2 of 12", c.turns(12, 0b110), 1},
		{"trees of 2", c.trees(2, 0b10), 1},
		{"trees by 1 and 3 of 4", c.trees(4, 0b1010), 4},
		{"trees by 2 of 4, in parts", c.trees(4, 0b0100), 0},
		{"trees by 1 and 2 of 5", c.trees(5, 0b00110), 125},
		{"trees by 1, 3 and 5 of 6", c.trees(6, 0b101010), 81},
		{"trees by 2 and 3 of 6", c.trees(6, 0b001100), 75},
		{"trees by 1 and 2 of 6", c.trees(6, 0b000110), 384},
		{"trees by 1 and 2 of 7", c.trees(7, 0b0000110), 1183},
		{"trees by 1 and 4 of 8, half around being one edge", c.trees(8, 0b00010010), 392},
		{"trees by 3 and 6 of 9, in parts", c.trees(9, 1<<3|1<<6), 0},
		{"trees by 1, 3 and 5 of 10", c.trees(10, 0b101010), 390625},
		{"trees by 10 of 11", c.trees(11, 1<<10), 11},
		{"trees by 1 and 2 of 11", c.trees(11, 0b110), 87131},
		{"trees by all of 11", c.trees(11, allSteps(11)), 2357947691},
		{"squares of 2 by 1 and 2 of 5", c.squares(5, 0b00110, 2), 6},
		{"squares of 5 by 1 and 11 of 12", c.squares(12, 1<<1|1<<11, 5), 252},
		{"squares of 5 by 1 and 9 of 10", c.squares(10, 1<<1|1<<9, 5), 254},
		{"squares of 5 by all of 12", c.squares(12, allSteps(12), 5), 13420*13420 + 11*13421*13421},
	} {
		if x.got != x.want {
			t.Errorf("%s: %d, want %d", x.name, x.got, x.want)
		}
	}
}

// TestWalkCountsAreNew writes into a result, behind it as well, and asks again.
func TestWalkCountsAreNew(t *testing.T) {
	for n := 1; n <= impl.RingMax; n++ {
		for _, k := range []int{0, 1, mostCounted} {
			first, _ := impl.WalkCounts(n, allSteps(n)&0b110, k)
			want := slices.Clone(first)
			for i := range first[:cap(first)] {
				first[:cap(first)][i] = 99
			}
			if again, ok := impl.WalkCounts(n, allSteps(n)&0b110, k); !ok || !slices.Equal(again, want) {
				t.Errorf("%d arcs on %d asked again: %v, %v, want %v", k, n, again, ok, want)
			}
		}
	}
}
