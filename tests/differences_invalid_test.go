package tests

import (
	"math"
	"testing"

	"loop.example/ringsofsteps/impl"
)

func checkDifferencesFail(t *testing.T, n, set int) {
	t.Helper()
	if got, ok := impl.DiffTable(n, set); ok || len(got) != 0 {
		t.Errorf("DiffTable(%d, %d) = %v, %v", n, set, got, ok)
	}
	checkEvenFails(t, n, set)
	if impl.DiffThin(n, set) {
		t.Errorf("DiffThin(%d, %d) holds", n, set)
	}
	if got, ok := impl.DiffCarries(n, set); ok || got != 0 {
		t.Errorf("DiffCarries(%d, %d) = %d, %v", n, set, got, ok)
	}
}

func checkEvenFails(t *testing.T, n, set int) {
	t.Helper()
	if got, ok := impl.DiffEven(n, set); ok || got != 0 {
		t.Errorf("DiffEven(%d, %d) = %d, %v", n, set, got, ok)
	}
}

func checkFindFails(t *testing.T, n, k int) {
	t.Helper()
	if got, ok := impl.DiffFind(n, k); ok || got != 0 {
		t.Errorf("DiffFind(%d, %d) = %d, %v", n, k, got, ok)
	}
}

func TestDifferencesWithoutRing(t *testing.T) {
	for _, n := range []int{0, -1, -7, -12, 13, 14, 63, 64, 65, 100, math.MaxInt, math.MinInt} {
		for _, x := range append(numbersOutside(), 0, 1, 2, 3, 11, 4095, n-1) {
			checkDifferencesFail(t, n, x)
			checkFindFails(t, n, x)
		}
		if got, ok := impl.DiffThinMost(n); ok || got != 0 {
			t.Errorf("DiffThinMost(%d) = %d, %v", n, got, ok)
		}
		if got, ok := impl.DiffWhole(n); ok || got != 0 {
			t.Errorf("DiffWhole(%d) = %d, %v", n, got, ok)
		}
	}
}

func TestDifferencesOutOfRing(t *testing.T) {
	for n := 1; n <= impl.RingMax; n++ {
		all := 1<<n - 1
		for _, set := range append(numbersOutside(), -1-all, all+1, all+2, 2*all, 2*all+1, 2*all+2) {
			checkDifferencesFail(t, n, set)
		}
	}
}

// TestDifferencesJustInside gives the least set and the greatest one of each ring.
func TestDifferencesJustInside(t *testing.T) {
	c := newDiffCalls(t)
	for n := 1; n <= impl.RingMax; n++ {
		for _, set := range []int{0, 1<<n - 1} {
			c.diffTable(n, set)
			c.diffCarries(n, set)
			if n > 1 {
				c.diffEven(n, set)
			}
		}
		if !impl.DiffThin(n, 0) || impl.DiffThin(n, 1<<n-1) != (n == 1) {
			t.Errorf("DiffThin of no place of %d %v, of all places %v", n, impl.DiffThin(n, 0), impl.DiffThin(n, 1<<n-1))
		}
		c.diffThinMost(n)
		c.diffWhole(n)
	}
}

// TestEvenOfOnePlace gives the ring of one place, for which the document tells no even sets.
func TestEvenOfOnePlace(t *testing.T) {
	checkEvenFails(t, 1, 0)
	checkEvenFails(t, 1, 1)
	for _, k := range append(numbersOutside(), 0, 1, 2) {
		checkFindFails(t, 1, k)
	}
}

func TestFindOutOfRange(t *testing.T) {
	c := newDiffCalls(t)
	for n := 2; n <= impl.RingMax; n++ {
		for _, k := range append(numbersOutside(), 0, n, n+1, 2*n-1, 13, 64) {
			checkFindFails(t, n, k)
		}
		c.diffFind(n, 1)
		c.diffFind(n, n-1)
	}
}

// TestFindWithoutEvenSets gives k for which k times k - 1 is no multiple of n - 1, so that no number of ways would do.
func TestFindWithoutEvenSets(t *testing.T) {
	held := 0
	for n, k := range eachFound() {
		if k*(k-1)%(n-1) != 0 {
			checkFindFails(t, n, k)
			held++
		}
	}
	if held == 0 {
		t.Error("each k has even sets")
	}
}
