package tests

import (
	"slices"
	"testing"

	"loop.example/ringsofsteps/impl"
)

// The tests of this file hold promises 66 to 73 of the document, one each.

func TestPromise66PlaysTurnedAreTheOtherSteps(t *testing.T) {
	c := newPlayCalls(t)
	held := 0
	for n, set := range eachSet() {
		if !impl.PlayIn(n, set) {
			continue
		}
		held++
		back := c.turn(n, set, -1)
		if !impl.PlayIn(n, back) || c.other(n, set) != back || c.both(n, set) != allSteps(n) {
			t.Errorf("PlayIn(%d, %d) holds, turned by -1 %d: PlayIn %v, StepOther %d, StepBoth %d", n, set, back, impl.PlayIn(n, back), c.other(n, set), c.both(n, set))
		}
	}
	if held == 0 {
		t.Error("no set is a play")
	}
}

func TestPromise67AllPlays(t *testing.T) {
	c := newPlayCalls(t)
	for _, n := range playRings() {
		got := c.playAll(n)
		if len(got) != power(2, (n-1)/2) {
			t.Errorf("PlayAll(%d) = %v: %d sets", n, got, len(got))
		}
		for i, s := range got {
			if !impl.PlayIn(n, s) || i > 0 && got[i-1] >= s {
				t.Errorf("PlayAll(%d) = %v: PlayIn of %d %v", n, got, s, impl.PlayIn(n, s))
			}
		}
	}
}

func TestPromise68Threes(t *testing.T) {
	c := newPlayCalls(t)
	for n, s := range eachPlay() {
		if got := c.playThree(n, s); 24*got != (n+1)*n*(n-1) {
			t.Errorf("PlayThree(%d, %d) = %d", n, s, got)
		}
	}
}

func TestPromise69TwoArcsLeadEverywhere(t *testing.T) {
	c := newPlayCalls(t)
	for n, s := range eachPlay() {
		if got, most := c.playTwice(n, s), c.most(n, s); got != allSteps(n) || most != 2 {
			t.Errorf("PlayTwice(%d, %d) = %d, FarMost %d", n, s, got, most)
		}
	}
}

func TestPromise70EqualPlaysAreEven(t *testing.T) {
	c := newPlayCalls(t)
	held := 0
	for n, set := range eachSet() {
		got, ok := impl.PlayEqual(n, set)
		if !ok {
			continue
		}
		held++
		if even := c.diffEven(n, set); even != got || n != 4*got+3 {
			t.Errorf("PlayEqual(%d, %d) = %d, DiffEven %d", n, set, got, even)
		}
	}
	if held == 0 {
		t.Error("no play is equal")
	}
}

func TestPromise71EvenPlaysAreEqual(t *testing.T) {
	c := newPlayCalls(t)
	held := 0
	for n, s := range eachPlay() {
		even, ok := impl.DiffEven(n, s)
		if !ok {
			continue
		}
		held++
		if got := c.playEqual(n, s); got != even {
			t.Errorf("PlayEqual(%d, %d) = %d, DiffEven %d", n, s, got, even)
		}
	}
	if held == 0 {
		t.Error("no play is even")
	}
}

func TestPromise72ClassesOfPlays(t *testing.T) {
	c := newPlayCalls(t)
	for _, n := range playRings() {
		got, all := c.playClasses(n), len(c.playAll(n))
		if got*size(c.units(n)) < all || got > all {
			t.Errorf("PlayClasses(%d) = %d for %d plays and %d units", n, got, all, size(c.units(n)))
		}
	}
}

func TestPromise73OrdersOfPlays(t *testing.T) {
	c := newPlayCalls(t)
	for n, s := range eachOrderedPlay() {
		got := c.playOrder(n, s)
		for v := range n {
			if !slices.Contains(got, v) {
				t.Fatalf("PlayOrder(%d, %d) = %v: without %d", n, s, got, v)
			}
		}
		if got[0] != 0 || !goesAlongArcs(n, s, got) {
			t.Errorf("PlayOrder(%d, %d) = %v", n, s, got)
		}
	}
}
