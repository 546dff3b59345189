package tests

import (
	"testing"

	"loop.example/ringsofsteps/impl"
)

// The tests of this file hold promises 15 to 22 of the document, one each, and promise 30 as far as it speaks of chapter 2; the rest of it is held with chapter 4.

func TestPromise15StepsTurnedAndOther(t *testing.T) {
	c := stepCalls{ringCalls{t}}
	for n, set := range eachSet() {
		if got, want := impl.StepIn(n, set), set&1 == 0; got != want {
			t.Fatalf("StepIn(%d, %d) = %v, want %v", n, set, got, want)
		}
		if !impl.StepIn(n, set) {
			continue
		}
		if back := c.turn(n, set, -1); !impl.StepIn(n, back) {
			t.Fatalf("StepIn(%d, %d) holds, but not for %d, turned by -1", n, set, back)
		}
		if other := c.other(n, set); !impl.StepIn(n, other) {
			t.Fatalf("StepIn(%d, %d) holds, but not for %d, the other steps", n, set, other)
		}
	}
}

func TestPromise16EvenStepsAndOther(t *testing.T) {
	c := stepCalls{ringCalls{t}}
	even := make([]int, impl.RingMax+1)
	for n, set := range eachSet() {
		if !impl.StepEven(n, set) {
			continue
		}
		even[n]++
		if other := c.other(n, set); !impl.StepEven(n, other) || c.both(n, set) != set {
			t.Fatalf("StepEven(%d, %d) holds: other %d, both %d", n, set, other, c.both(n, set))
		}
	}
	// Even steps have a place and it turned by -1, or none of the two.
	for n := 1; n <= impl.RingMax; n++ {
		if want := 1 << (n / 2); even[n] != want {
			t.Errorf("StepEven holds for %d sets of %d, want %d", even[n], n, want)
		}
	}
}

func TestPromise17BothStepsAreEven(t *testing.T) {
	c := stepCalls{ringCalls{t}}
	for n, s := range eachSteps() {
		both := c.both(n, s)
		if !impl.StepEven(n, both) || both&s != s || c.both(n, both) != both {
			t.Fatalf("StepBoth(%d, %d) = %d, of it %d", n, s, both, c.both(n, both))
		}
	}
}

func TestPromise18OtherStepsLeadBack(t *testing.T) {
	c := stepCalls{ringCalls{t}}
	for n, s := range eachSteps() {
		other := c.other(n, s)
		if back := c.other(n, other); back != s || other&s != 0 || other|s != allSteps(n) {
			t.Fatalf("StepOther(%d, %d) = %d, of it %d", n, s, other, back)
		}
		if c.parts(n, s) != 1 && c.parts(n, other) != 1 {
			t.Fatalf("StepParts(%d, %d) = %d, of the other steps %d", n, s, c.parts(n, s), c.parts(n, other))
		}
	}
}

func TestPromise19NextIsShift(t *testing.T) {
	c := stepCalls{ringCalls{t}}
	for n, s := range eachSteps() {
		for v := range n {
			next := c.next(n, s, v)
			if moved := c.shift(n, s, v); next != moved || size(next) != size(s) {
				t.Fatalf("StepNext(%d, %d, %d) = %d, RingShift %d", n, s, v, next, moved)
			}
		}
	}
}

func TestPromise20PartHoldsItself(t *testing.T) {
	c := stepCalls{ringCalls{t}}
	for n, s := range eachSteps() {
		part := c.part(n, s)
		if parts := c.parts(n, s); size(part)*parts != n || c.holds(n, part) != part {
			t.Fatalf("StepPart(%d, %d) = %d, held by %d, StepParts %d", n, s, part, c.holds(n, part), parts)
		}
	}
}

func TestPromise21PartsDivide(t *testing.T) {
	c := stepCalls{ringCalls{t}}
	for n, s := range eachSteps() {
		parts := c.parts(n, s)
		if parts < 1 || n%parts != 0 || c.parts(n, c.both(n, s)) != parts {
			t.Fatalf("StepParts(%d, %d) = %d, of both %d", n, s, parts, c.parts(n, c.both(n, s)))
		}
		for _, v := range placesOf(s) {
			if v%parts != 0 {
				t.Fatalf("StepParts(%d, %d) = %d does not divide %d", n, s, parts, v)
			}
		}
	}
}

func TestPromise22CutsOfOthers(t *testing.T) {
	c := stepCalls{ringCalls{t}}
	for n, s := range eachSteps() {
		all := 1<<n - 1
		if c.cuts(n, s, 0) != 0 || c.cuts(n, s, all) != 0 {
			t.Fatalf("StepCuts(%d, %d) of none = %d, of all %d", n, s, c.cuts(n, s, 0), c.cuts(n, s, all))
		}
		for _, set := range partners(n, s) {
			if got, others := c.cuts(n, s, set), c.cuts(n, s, all^set); got != others {
				t.Fatalf("StepCuts(%d, %d, %d) = %d, of all others %d", n, s, set, got, others)
			}
		}
	}
}

func TestPromise30HalvesOfBoth(t *testing.T) {
	c := stepCalls{ringCalls{t}}
	for n, s := range eachSteps() {
		if both := c.both(n, s); impl.StepHalves(n, s) && !impl.StepHalves(n, both) {
			t.Fatalf("StepHalves(%d, %d) holds, but not for both steps, %d", n, s, both)
		}
	}
}
