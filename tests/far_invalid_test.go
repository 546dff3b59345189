package tests

import (
	"math"
	"testing"

	"loop.example/ringsofsteps/impl"
)

// farListCalls are the functions of a ring and steps that return a list, with a place and a unit told where they are asked for.
func farListCalls() map[string]func(n, s int) ([]int, bool) {
	return map[string]func(n, s int) ([]int, bool){
		"FarList":             impl.FarList,
		"FarWays":             impl.FarWays,
		"FarWord of 0":        func(n, s int) ([]int, bool) { return impl.FarWord(n, s, 0) },
		"FarLayers":           impl.FarLayers,
		"FarTurned by 1":      func(n, s int) ([]int, bool) { return impl.FarTurned(n, s, 1) },
		"FarTurned by 0 of 1": func(n, s int) ([]int, bool) { return impl.FarTurned(n, s, 0) },
	}
}

// checkFarFails gives steps that are none, or that are steps of no ring.
func checkFarFails(t *testing.T, n, s int) {
	t.Helper()
	for name, call := range farListCalls() {
		if got, ok := call(n, s); ok || len(got) != 0 {
			t.Errorf("%s of %d and %d = %v, %v", name, n, s, got, ok)
		}
	}
	checkNotEverywhere(t, n, s)
}

func checkNotEverywhere(t *testing.T, n, s int) {
	t.Helper()
	if got, ok := impl.FarMost(n, s); ok || got != 0 {
		t.Errorf("FarMost(%d, %d) = %d, %v", n, s, got, ok)
	}
	if got, ok := impl.FarSum(n, s); ok || got != 0 {
		t.Errorf("FarSum(%d, %d) = %d, %v", n, s, got, ok)
	}
}

func checkWordFails(t *testing.T, n, s, v int) {
	t.Helper()
	if got, ok := impl.FarWord(n, s, v); ok || len(got) != 0 {
		t.Errorf("FarWord(%d, %d, %d) = %v, %v", n, s, v, got, ok)
	}
}

func checkTurnedFails(t *testing.T, n, s, m int) {
	t.Helper()
	if got, ok := impl.FarTurned(n, s, m); ok || len(got) != 0 {
		t.Errorf("FarTurned(%d, %d, %d) = %v, %v", n, s, m, got, ok)
	}
}

func checkBestFails(t *testing.T, n, k int) {
	t.Helper()
	if got, ok := impl.FarBest(n, k); ok || got != 0 {
		t.Errorf("FarBest(%d, %d) = %d, %v", n, k, got, ok)
	}
}

func TestFarWithoutRing(t *testing.T) {
	for _, n := range []int{0, -1, -12, 13, 14, 63, 64, 65, 100, math.MaxInt, math.MinInt} {
		for _, s := range append(numbersOutside(), 0, 1, 2, 6, 4094) {
			checkFarFails(t, n, s)
			checkWordFails(t, n, s, -1)
			checkWordFails(t, n, s, n)
			checkTurnedFails(t, n, s, -1)
			checkTurnedFails(t, n, s, n)
		}
	}
}

func TestFarWithPlaceZero(t *testing.T) {
	for n, set := range eachSet() {
		if set&1 == 1 {
			checkFarFails(t, n, set)
			checkWordFails(t, n, set, n-1)
			checkTurnedFails(t, n, set, n-1)
		}
	}
}

func TestFarOutOfRing(t *testing.T) {
	for n := 1; n <= impl.RingMax; n++ {
		all := 1<<n - 1
		// The even ones fail for being no sets alone, not for the place 0.
		for _, s := range append(numbersOutside(), -1-all, all+1, all+3, 2*all, 2*all+2, 2*all+1) {
			checkFarFails(t, n, s)
			checkWordFails(t, n, s, n-1)
			checkWordFails(t, n, s, -1)
			checkTurnedFails(t, n, s, n-1)
			checkTurnedFails(t, n, s, -1)
		}
	}
}

func TestWordsOfNoPlace(t *testing.T) {
	for n, s := range eachSteps() {
		for _, v := range append(numbersOutside(), n, n+1, 2*n, -n, 12, 63, 64, 65) {
			checkWordFails(t, n, s, v)
		}
	}
}

func TestNoWayLeadsThere(t *testing.T) {
	for n, s := range eachSteps() {
		if !leadEverywhere(n, s) {
			checkNotEverywhere(t, n, s)
		}
		there := reached(n, s)[0]
		for v := range n {
			if there&(1<<v) == 0 {
				checkWordFails(t, n, s, v)
			}
		}
	}
}

func TestTurnedByNoUnit(t *testing.T) {
	for n, s := range eachSteps() {
		for v := range n {
			if !isUnit(n, v) {
				checkTurnedFails(t, n, s, v)
			}
		}
		// A unit is a place: other numbers with the rest of one are none.
		for _, m := range append(numbersOutside(), -n-1, -n, 1-2*n, n, n+1, 2*n-1, 2*n+1, 63, 64, 65) {
			checkTurnedFails(t, n, s, m)
		}
	}
}

func TestBestOutOfRange(t *testing.T) {
	for _, n := range append(numbersOutside(), 0, 1, 10, 11, 12, 13, 14, 63, 64, 65) {
		for k := -1; k <= 12; k++ {
			checkBestFails(t, n, k)
		}
		checkBestFails(t, n, n)
		checkBestFails(t, n, n-1)
		checkBestFails(t, n, math.MaxInt)
		checkBestFails(t, n, math.MinInt)
	}
	for n := 2; n <= 9; n++ {
		for _, k := range append(numbersOutside(), 0, n, n+1, 2*n, -n, 12, 63, 64, 65) {
			checkBestFails(t, n, k)
		}
	}
}
