package tests

import (
	"slices"
	"testing"

	"loop.example/ringsofsteps/impl"
)

// The tests of this file hold promises 30 to 41 of the document, one each; of promises 30 and 31, the rest is in the files of chapters 2 and 3.

func newWalkCalls(t *testing.T) walkCalls {
	return walkCalls{farCalls{stepCalls{ringCalls{t}}}}
}

func TestPromise30HalvesHaveNoOddRounds(t *testing.T) {
	c := newWalkCalls(t)
	for n, s := range eachSteps() {
		if !impl.StepHalves(n, s) {
			continue
		}
		for _, k := range []int{1, 3, 5, 7} {
			if got := c.closed(n, s, k); got != 0 {
				t.Fatalf("StepHalves(%d, %d) holds, but WalkClosed of %d is %d", n, s, k, got)
			}
		}
	}
}

func TestPromise31WaysAreWalks(t *testing.T) {
	c := newWalkCalls(t)
	for n, s := range eachSteps() {
		ways, list := c.ways(n, s), c.list(n, s)
		for v, d := range list {
			if d < 0 || d > mostCounted {
				continue
			}
			if got := c.counts(n, s, d); got[v] != ways[v] {
				t.Fatalf("WalkCounts(%d, %d, %d) = %v, but FarWays %v: place %d", n, s, d, got, ways, v)
			}
		}
	}
}

func TestPromise32CountsAddUp(t *testing.T) {
	c := newWalkCalls(t)
	for n, s := range eachSteps() {
		for k := range mostCounted + 1 {
			if got, want := c.counts(n, s, k), power(size(s), k); total(got) != want {
				t.Fatalf("WalkCounts(%d, %d, %d) = %v: they add up to %d, not %d", n, s, k, got, total(got), want)
			}
		}
		for v, ways := range c.counts(n, s, 1) {
			if ways != s>>v&1 {
				t.Fatalf("WalkCounts(%d, %d, 1) = %v: place %d", n, s, c.counts(n, s, 1), v)
			}
		}
	}
}

func TestPromise33ClosedOfTurnedSteps(t *testing.T) {
	c := newWalkCalls(t)
	for n, s := range eachSteps() {
		for k := range mostCounted + 1 {
			got := c.closed(n, s, k)
			if k == 0 && got != 1 || k == 1 && got != 0 {
				t.Fatalf("WalkClosed(%d, %d, %d) = %d", n, s, k, got)
			}
			for _, m := range append(placesOf(c.units(n)), -1) {
				if of := c.closed(n, c.turn(n, s, m), k); of != got {
					t.Fatalf("WalkClosed(%d, %d, %d) = %d, of the steps turned by %d it is %d", n, s, k, got, m, of)
				}
			}
		}
	}
}

func TestPromise34SetsAreSums(t *testing.T) {
	c := newWalkCalls(t)
	for n, s := range eachSteps() {
		for k := 1; k <= mostLed; k++ {
			// The greater rings have many steps; what repeats by then is left out for them.
			if n > 8 && k > 2*n && k < mostLed-2 {
				continue
			}
			ahead, got := c.led(n, s, k-1), c.led(n, s, k)
			if want := c.sum(n, ahead, s); got != want {
				t.Fatalf("WalkSet(%d, %d, %d) = %d, but RingSum of that of 1 less, %d, and the steps is %d", n, s, k, got, ahead, want)
			}
		}
		for k := range mostCounted + 1 {
			set, counts := c.led(n, s, k), c.counts(n, s, k)
			for v, ways := range counts {
				if (set>>v&1 == 1) != (ways != 0) {
					t.Fatalf("WalkSet(%d, %d, %d) = %d, but WalkCounts %v", n, s, k, set, counts)
				}
			}
		}
	}
}

func TestPromise35FullWithoutTurns(t *testing.T) {
	c := newWalkCalls(t)
	for n, s := range eachSteps() {
		turns, ok := impl.WalkTurns(n, s)
		if !ok {
			continue
		}
		if _, full := impl.WalkFull(n, s); full != (turns == 1 && c.parts(n, s) == 1) {
			t.Fatalf("WalkTurns(%d, %d) = %d, StepParts %d, but WalkFull: %v", n, s, turns, c.parts(n, s), full)
		}
	}
}

func TestPromise36TurnsByDifferences(t *testing.T) {
	c := newWalkCalls(t)
	for n, s := range eachSteps() {
		if _, ok := impl.WalkTurns(n, s); !ok {
			continue
		}
		got, differ := c.turns(n, s), c.minus(n, s, s)&^1
		if got*c.parts(n, s) != c.parts(n, differ) {
			t.Fatalf("WalkTurns(%d, %d) = %d, StepParts %d, of the differences %d", n, s, got, c.parts(n, s), c.parts(n, differ))
		}
	}
}

func TestPromise37TreesOfBoth(t *testing.T) {
	c := newWalkCalls(t)
	for n, s := range eachTreeSteps() {
		got, both := c.trees(n, s), c.both(n, s)
		if of := c.trees(n, both); of != got || (got == 0) != (c.parts(n, s) > 1) {
			t.Fatalf("WalkTrees(%d, %d) = %d, of both steps %d, StepParts %d", n, s, got, of, c.parts(n, s))
		}
		if n >= 2 && both == allSteps(n) && got != power(n, n-2) {
			t.Fatalf("WalkTrees(%d, %d) = %d, but both are all steps", n, s, got)
		}
	}
}

// TestPromise38TreesOfOneRound reads the promise as of both steps that have just these two, which differ.
func TestPromise38TreesOfOneRound(t *testing.T) {
	c := newWalkCalls(t)
	for n, s := range eachTreeSteps() {
		both := c.both(n, s)
		if size(both) != 2 || c.parts(n, s) != 1 || c.turn(n, both&-both, -1) == both&-both {
			continue
		}
		if got := c.trees(n, s); got != n {
			t.Fatalf("WalkTrees(%d, %d) = %d", n, s, got)
		}
	}
}

func TestPromise39SquaresOfEvenSteps(t *testing.T) {
	c := newWalkCalls(t)
	for n, s := range eachSteps() {
		for k := range mostSquared + 1 {
			got, all := c.squares(n, s, k), power(size(s), k)
			if impl.StepEven(n, s) && got != c.closed(n, s, 2*k) {
				t.Fatalf("WalkSquares(%d, %d, %d) = %d, but WalkClosed of twice as many arcs %d", n, s, k, got, c.closed(n, s, 2*k))
			}
			if got*n < all*all {
				t.Fatalf("WalkSquares(%d, %d, %d) = %d, but there are %d walks", n, s, k, got, all)
			}
		}
	}
}

func TestPromise40FullIsNoLessThanMost(t *testing.T) {
	c := newWalkCalls(t)
	for n, s := range eachSteps() {
		if _, ok := impl.WalkFull(n, s); !ok {
			continue
		}
		full := c.full(n, s)
		if full >= n || full < c.most(n, s) {
			t.Fatalf("WalkFull(%d, %d) = %d, FarMost %d", n, s, full, c.most(n, s))
		}
		if s != 0 && c.led(n, s, full+1) != 1<<n-1 {
			t.Fatalf("WalkFull(%d, %d) = %d, but WalkSet of 1 more is %d", n, s, full, c.led(n, s, full+1))
		}
	}
}

func TestPromise41ClosedByHalves(t *testing.T) {
	c := newWalkCalls(t)
	for n, s := range eachSteps() {
		for k := range mostCounted/2 + 1 {
			counts := c.counts(n, s, k)
			want := 0
			for v, ways := range counts {
				want += ways * counts[place(n, -v)]
			}
			if got := c.closed(n, s, 2*k); got != want {
				t.Fatalf("WalkClosed(%d, %d, %d) = %d, by halves %v it is %d", n, s, 2*k, got, counts, want)
			}
		}
	}
}

// TestSetsRepeatByTurns holds what promises 34 and 35 leave open: far from the first arcs, sets of walks repeat after as many arcs as WalkTurns tells.
func TestSetsRepeatByTurns(t *testing.T) {
	c := newWalkCalls(t)
	for n, s := range eachSteps() {
		if s == 0 {
			continue
		}
		turns := c.turns(n, s)
		var last []int
		for k := mostLed - turns + 1; k <= mostLed; k++ {
			last = append(last, c.led(n, s, k))
			if set := c.led(n, s, k-turns); set != last[len(last)-1] {
				t.Fatalf("WalkTurns(%d, %d) = %d, but WalkSet of %d is %d, of so many less %d", n, s, turns, k, last[len(last)-1], set)
			}
		}
		slices.Sort(last)
		if len(slices.Compact(last)) != turns {
			t.Fatalf("WalkTurns(%d, %d) = %d, but sets of walks repeat earlier", n, s, turns)
		}
	}
}
