package tests

import (
	"math"
	"testing"

	"loop.example/ringsofsteps/impl"
)

// setCalls are the functions of a ring and one set, with k and m told where they are asked for.
func setCalls() map[string]func(n, set int) (int, bool) {
	return map[string]func(n, set int) (int, bool){
		"RingShift": func(n, set int) (int, bool) { return impl.RingShift(n, set, 1) },
		"RingTurn":  func(n, set int) (int, bool) { return impl.RingTurn(n, set, 1) },
		"RingHolds": impl.RingHolds,
		"RingLeast": impl.RingLeast,
		"RingFirst": impl.RingFirst,
	}
}

func checkSetFails(t *testing.T, n, set int) {
	t.Helper()
	if impl.RingIn(n, set) {
		t.Errorf("RingIn(%d, %d) holds", n, set)
	}
	for name, call := range setCalls() {
		if got, ok := call(n, set); ok || got != 0 {
			t.Errorf("%s of %d and %d = %d, %v", name, n, set, got, ok)
		}
	}
}

func checkPairFails(t *testing.T, n, a, b int) {
	t.Helper()
	if got, ok := impl.RingSum(n, a, b); ok || got != 0 {
		t.Errorf("RingSum(%d, %d, %d) = %d, %v", n, a, b, got, ok)
	}
	if got, ok := impl.RingCounts(n, a, b); ok || len(got) != 0 {
		t.Errorf("RingCounts(%d, %d, %d) = %v, %v", n, a, b, got, ok)
	}
	if got, ok := impl.RingMinus(n, a, b); ok || got != 0 {
		t.Errorf("RingMinus(%d, %d, %d) = %d, %v", n, a, b, got, ok)
	}
	if impl.RingAlike(n, a, b) {
		t.Errorf("RingAlike(%d, %d, %d) holds", n, a, b)
	}
}

func TestNoRing(t *testing.T) {
	for _, n := range []int{0, -1, -12, 13, 14, 63, 64, 65, 100, math.MaxInt, math.MinInt} {
		if got, ok := impl.RingUnits(n); ok || got != 0 {
			t.Errorf("RingUnits(%d) = %d, %v", n, got, ok)
		}
		if got, ok := impl.RingClasses(n); ok || got != 0 {
			t.Errorf("RingClasses(%d) = %d, %v", n, got, ok)
		}
		for _, set := range []int{0, 1, 3, -1, 4095, 4096, math.MaxInt, math.MinInt} {
			checkSetFails(t, n, set)
			checkPairFails(t, n, set, 1)
			checkPairFails(t, n, 0, set)
			checkPairFails(t, n, set, set)
		}
	}
}

func TestNoSet(t *testing.T) {
	for n := 1; n <= impl.RingMax; n++ {
		all := 1<<n - 1
		for _, set := range []int{-1, -2, -1 - all, all + 1, all + 2, 2*all + 1, 2*all + 2, 1 << 32, math.MaxInt, math.MinInt} {
			checkSetFails(t, n, set)
			checkPairFails(t, n, set, set)
			for _, valid := range []int{0, 1, all} {
				checkPairFails(t, n, set, valid)
				checkPairFails(t, n, valid, set)
			}
			for _, k := range []int{0, 100, -100, 101, -101} {
				checkMoveFails(t, n, set, k)
			}
		}
	}
}

func checkMoveFails(t *testing.T, n, set, k int) {
	t.Helper()
	if got, ok := impl.RingShift(n, set, k); ok || got != 0 {
		t.Errorf("RingShift(%d, %d, %d) = %d, %v", n, set, k, got, ok)
	}
	if got, ok := impl.RingTurn(n, set, k); ok || got != 0 {
		t.Errorf("RingTurn(%d, %d, %d) = %d, %v", n, set, k, got, ok)
	}
}

func TestMovesOutOfRange(t *testing.T) {
	for n, set := range eachSet() {
		for _, k := range []int{101, -101, 102, -102, 200, -200, math.MaxInt32, math.MinInt32, math.MaxInt, math.MinInt} {
			checkMoveFails(t, n, set, k)
		}
	}
}

func TestMovesWithoutRing(t *testing.T) {
	for _, n := range []int{0, -1, 13, math.MaxInt, math.MinInt} {
		for _, k := range []int{0, 1, -1, 100, -100, 101, -101, math.MaxInt, math.MinInt} {
			checkMoveFails(t, n, 1, k)
		}
	}
}
