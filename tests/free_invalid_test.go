package tests

import (
	"math"
	"testing"

	"loop.example/ringsofsteps/impl"
)

// freeCall gives a ring and steps to a function of chapter 6, most being the greatest ring that it takes; lists are told by their lengths.
type freeCall struct {
	name string
	most int
	call func(n, s int) (int, bool)
}

func freeCallsOfSteps() []freeCall {
	calls := []freeCall{
		{"FreeMost", impl.RingMax, impl.FreeMost},
		{"FreeMany", impl.RingMax, impl.FreeMany},
		{"FreeFull", impl.RingMax, impl.FreeFull},
		{"FreeWatch", impl.RingMax, impl.FreeWatch},
		{"FreeNeat", impl.RingMax, func(n, s int) (int, bool) {
			got, ok := impl.FreeNeat(n, s)
			return len(got), ok
		}},
		{"FreeColours", mostPainted, impl.FreeColours},
	}
	for k := range mostColours + 1 {
		calls = append(calls, freeCall{"FreeWays", mostPainted, func(n, s int) (int, bool) { return impl.FreeWays(n, s, k) }})
	}
	return calls
}

func checkFreeFails(t *testing.T, x freeCall, n, s int) {
	t.Helper()
	if got, ok := x.call(n, s); ok || got != 0 {
		t.Errorf("%s(%d, %d) = %d, %v", x.name, n, s, got, ok)
	}
}

func checkFreeWaysFail(t *testing.T, n, s, k int) {
	t.Helper()
	if got, ok := impl.FreeWays(n, s, k); ok || got != 0 {
		t.Errorf("FreeWays(%d, %d, %d) = %d, %v", n, s, k, got, ok)
	}
}

// checkAllFreeFail gives steps that are none, or that are steps of no ring.
func checkAllFreeFail(t *testing.T, n, s int) {
	t.Helper()
	for _, x := range freeCallsOfSteps() {
		checkFreeFails(t, x, n, s)
	}
	checkFreeWaysFail(t, n, s, -1)
	checkFreeWaysFail(t, n, s, mostColours+1)
}

func TestFreeWithoutRing(t *testing.T) {
	for _, n := range []int{0, -1, -8, -12, 13, 14, 63, 64, 65, 100, math.MaxInt, math.MinInt} {
		for _, s := range append(numbersOutside(), 0, 1, 2, 6, 4094) {
			checkAllFreeFail(t, n, s)
		}
		if got, ok := impl.FreeSumless(n); ok || got != 0 {
			t.Errorf("FreeSumless(%d) = %d, %v", n, got, ok)
		}
	}
}

func TestFreeWithPlaceZero(t *testing.T) {
	for n, set := range eachSet() {
		if set&1 == 1 {
			checkAllFreeFail(t, n, set)
		}
	}
}

func TestFreeOutOfRing(t *testing.T) {
	for n := 1; n <= impl.RingMax; n++ {
		all := 1<<n - 1
		// The even ones fail for being no sets alone, not for the place 0.
		for _, s := range append(numbersOutside(), -1-all, all+1, all+3, 2*all, 2*all+2, 2*all+1) {
			checkAllFreeFail(t, n, s)
		}
	}
}

// TestFreeJustInside gives the least ring, the greatest one that a function takes, and the one behind this.
func TestFreeJustInside(t *testing.T) {
	for _, x := range freeCallsOfSteps() {
		for _, n := range []int{1, 2, x.most - 1, x.most} {
			for _, s := range []int{0, allSteps(n), allSteps(n) & 0b10} {
				if _, ok := x.call(n, s); !ok {
					t.Errorf("%s(%d, %d) failed", x.name, n, s)
				}
			}
		}
		for _, s := range []int{0, allSteps(x.most + 1), allSteps(x.most), 0b10} {
			checkFreeFails(t, x, x.most+1, s)
		}
	}
	for n := 1; n <= impl.RingMax; n++ {
		if _, ok := impl.FreeSumless(n); !ok {
			t.Errorf("FreeSumless(%d) failed", n)
		}
	}
}

// TestColoursOfGreaterRings gives rings to which no colours are given, though the other functions take them.
func TestColoursOfGreaterRings(t *testing.T) {
	for n, s := range eachSteps() {
		if n <= mostPainted {
			continue
		}
		if got, ok := impl.FreeColours(n, s); ok || got != 0 {
			t.Errorf("FreeColours(%d, %d) = %d, %v", n, s, got, ok)
		}
		for k := -1; k <= mostColours+1; k++ {
			checkFreeWaysFail(t, n, s, k)
		}
	}
}

func TestColoursOutOfRange(t *testing.T) {
	for n, s := range eachPaintedSteps() {
		for _, k := range append(numbersOutside(), 5, 6, 8, 9, -3, -4, -5, 63, 64, 65) {
			checkFreeWaysFail(t, n, s, k)
		}
		for k := range mostColours + 1 {
			if _, ok := impl.FreeWays(n, s, k); !ok {
				t.Errorf("FreeWays(%d, %d, %d) failed", n, s, k)
			}
		}
	}
}
