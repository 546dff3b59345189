package tests

import (
	"slices"
	"testing"

	"loop.example/ringsofsteps/impl"
)

// The tests of this file hold promises 50 to 57 of the document, one each.

func TestPromise50MostOfBoth(t *testing.T) {
	c := newFreeCalls(t)
	for n, s := range eachSteps() {
		got, full := c.freeMost(n, s), c.freeFull(n, s)
		if of := c.freeMost(n, c.both(n, s)); of != got || got*full > n || s != 0 && 2*got > n {
			t.Fatalf("FreeMost(%d, %d) = %d, of both steps %d, FreeFull %d", n, s, got, of, full)
		}
	}
}

func TestPromise51ManyAreNoFewer(t *testing.T) {
	c := newFreeCalls(t)
	for n, s := range eachSteps() {
		got, most := c.freeMany(n, s), c.freeMost(n, s)
		if got < power(2, most) || got < n+1 || (got == power(2, n)) != (s == 0) {
			t.Fatalf("FreeMany(%d, %d) = %d, FreeMost %d", n, s, got, most)
		}
	}
}

func TestPromise52FullIsFreeByOthers(t *testing.T) {
	c := newFreeCalls(t)
	for n, s := range eachSteps() {
		got, both := c.freeFull(n, s), c.both(n, s)
		if of := c.freeMost(n, c.other(n, both)); of != got || got > size(both)+1 {
			t.Fatalf("FreeFull(%d, %d) = %d, FreeMost of the other steps of both %d", n, s, got, of)
		}
	}
}

func TestPromise53ColoursOfSets(t *testing.T) {
	c := newFreeCalls(t)
	for n, s := range eachPaintedSteps() {
		got, most, full, both := c.freeColours(n, s), c.freeMost(n, s), c.freeFull(n, s), c.both(n, s)
		if got < full || got*most < n || got > size(both)+1 || (got <= 2) != impl.StepHalves(n, s) {
			t.Fatalf("FreeColours(%d, %d) = %d, FreeMost %d, FreeFull %d, both steps %d, StepHalves %v", n, s, got, most, full, both, impl.StepHalves(n, s))
		}
	}
}

func TestPromise54WaysOfColours(t *testing.T) {
	c := newFreeCalls(t)
	for n, s := range eachPaintedSteps() {
		colours := c.freeColours(n, s)
		for k := range mostColours + 1 {
			got := c.freeWays(n, s, k)
			if (got == 0) != (k < colours) || k > 0 && got%k != 0 || got > power(k, n) {
				t.Fatalf("FreeWays(%d, %d, %d) = %d, FreeColours %d", n, s, k, got, colours)
			}
		}
	}
}

func TestPromise55WatchIsNoLess(t *testing.T) {
	c := newFreeCalls(t)
	for n, s := range eachSteps() {
		got := c.freeWatch(n, s)
		if got*(size(s)+1) < n || (got == 1) != (s == allSteps(n)) {
			t.Fatalf("FreeWatch(%d, %d) = %d", n, s, got)
		}
		if both := c.both(n, s); c.freeWatch(n, both) > c.freeMost(n, s) {
			t.Fatalf("FreeWatch(%d, %d) = %d, but FreeMost is %d", n, both, c.freeWatch(n, both), c.freeMost(n, s))
		}
	}
}

func TestPromise56NeatSets(t *testing.T) {
	c := newFreeCalls(t)
	held := 0
	for n, s := range eachSteps() {
		neat := c.freeNeat(n, s)
		for _, set := range neat {
			held++
			if size(set)*(size(s)+1) != n || c.sum(n, set, s|1) != 1<<n-1 || c.freeWatch(n, s) != size(set) {
				t.Fatalf("FreeNeat(%d, %d) = %v: %d", n, s, neat, set)
			}
			for k := range n {
				if moved := c.shift(n, set, k); !slices.Contains(neat, moved) {
					t.Fatalf("FreeNeat(%d, %d) = %v: without %d, which is %d shifted by %d", n, s, neat, moved, set, k)
				}
			}
		}
	}
	if held == 0 {
		t.Error("no set is neat")
	}
}

func TestPromise57SumlessIsAtMostHalf(t *testing.T) {
	c := newFreeCalls(t)
	for n := 1; n <= impl.RingMax; n++ {
		if got := c.freeSumless(n); 2*got > n || (2*got == n) != (n%2 == 0) {
			t.Errorf("FreeSumless(%d) = %d", n, got)
		}
	}
}
