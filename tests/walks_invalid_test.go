package tests

import (
	"math"
	"testing"

	"loop.example/ringsofsteps/impl"
)

// walkCall gives a number of arcs to a function of chapter 4, most being the greatest one that it takes.
type walkCall struct {
	name string
	most int
	call func(n, s, k int) (int, bool)
}

func walkCallsOfArcs() []walkCall {
	return []walkCall{
		{"WalkCounts", mostCounted, func(n, s, k int) (int, bool) {
			got, ok := impl.WalkCounts(n, s, k)
			return len(got), ok
		}},
		{"WalkClosed", mostCounted, impl.WalkClosed},
		{"WalkSet", mostLed, impl.WalkSet},
		{"WalkSquares", mostSquared, impl.WalkSquares},
	}
}

func checkArcsFail(t *testing.T, x walkCall, n, s, k int) {
	t.Helper()
	if got, ok := x.call(n, s, k); ok || got != 0 {
		t.Errorf("%s(%d, %d, %d) = %d, %v", x.name, n, s, k, got, ok)
	}
}

func checkTreesFail(t *testing.T, n, s int) {
	t.Helper()
	if got, ok := impl.WalkTrees(n, s); ok || got != 0 {
		t.Errorf("WalkTrees(%d, %d) = %d, %v", n, s, got, ok)
	}
}

func checkFullFails(t *testing.T, n, s int) {
	t.Helper()
	if got, ok := impl.WalkFull(n, s); ok || got != 0 {
		t.Errorf("WalkFull(%d, %d) = %d, %v", n, s, got, ok)
	}
}

func checkTurnsFail(t *testing.T, n, s int) {
	t.Helper()
	if got, ok := impl.WalkTurns(n, s); ok || got != 0 {
		t.Errorf("WalkTurns(%d, %d) = %d, %v", n, s, got, ok)
	}
}

// checkWalksFail gives steps that are none, or that are steps of no ring.
func checkWalksFail(t *testing.T, n, s int) {
	t.Helper()
	for _, x := range walkCallsOfArcs() {
		for _, k := range []int{-1, 0, 1, x.most, x.most + 1} {
			checkArcsFail(t, x, n, s, k)
		}
	}
	checkFullFails(t, n, s)
	checkTurnsFail(t, n, s)
	checkTreesFail(t, n, s)
}

func TestWalksWithoutRing(t *testing.T) {
	for _, n := range []int{0, -1, -12, 13, 14, 63, 64, 65, 100, math.MaxInt, math.MinInt} {
		for _, s := range append(numbersOutside(), 0, 1, 2, 6, 4094) {
			checkWalksFail(t, n, s)
		}
	}
}

func TestWalksWithPlaceZero(t *testing.T) {
	for n, set := range eachSet() {
		if set&1 == 1 {
			checkWalksFail(t, n, set)
		}
	}
}

func TestWalksOutOfRing(t *testing.T) {
	for n := 1; n <= impl.RingMax; n++ {
		all := 1<<n - 1
		// The even ones fail for being no sets alone, not for the place 0.
		for _, s := range append(numbersOutside(), -2, -1-all, all+1, all+3, 2*all, 2*all+2, 2*all+1) {
			checkWalksFail(t, n, s)
		}
	}
}

func TestArcsOutOfRange(t *testing.T) {
	for n, s := range eachSteps() {
		for _, x := range walkCallsOfArcs() {
			for _, k := range append(numbersOutside(), -1, -2, -x.most, x.most+1, x.most+2, 2*x.most+1, 101, 128, 256) {
				checkArcsFail(t, x, n, s, k)
			}
			// Just inside of the range, nothing fails.
			for _, k := range []int{0, x.most} {
				if _, ok := x.call(n, s, k); !ok {
					t.Errorf("%s(%d, %d, %d) failed", x.name, n, s, k)
				}
			}
		}
	}
}

func TestTreesOfGreaterRings(t *testing.T) {
	for s := range 1 << impl.RingMax {
		checkTreesFail(t, impl.RingMax, s)
	}
	for n := 1; n <= mostTrees; n++ {
		if _, ok := impl.WalkTrees(n, 0); !ok {
			t.Errorf("WalkTrees(%d, 0) failed", n)
		}
		if _, ok := impl.WalkTrees(n, allSteps(n)); !ok {
			t.Errorf("WalkTrees(%d, %d) failed", n, allSteps(n))
		}
	}
}

func TestTurnsWithoutSteps(t *testing.T) {
	for n := 1; n <= impl.RingMax; n++ {
		checkTurnsFail(t, n, 0)
	}
}

// TestNeverFull gives steps that do not join all places, and steps that do, but by which all walks of one number of arcs end in one of some parts.
func TestNeverFull(t *testing.T) {
	for n, s := range eachSteps() {
		if !leadEverywhere(n, s) {
			checkFullFails(t, n, s)
		}
	}
	for n := 2; n <= impl.RingMax; n++ {
		checkFullFails(t, n, 0)
		checkFullFails(t, n, 1<<1)
		checkFullFails(t, n, 1<<(n-1))
		for half := 2; n%2 == 0 && half < n; half += 2 {
			checkFullFails(t, n, 1<<1|1<<(half+1))
		}
	}
}
