package tests

import (
	"math"
	"testing"

	"loop.example/ringsofsteps/impl"
)

// numberCalls are the functions of a ring and steps that return a number, with a place and a set told where they are asked for.
func numberCalls() map[string]func(n, s int) (int, bool) {
	return map[string]func(n, s int) (int, bool){
		"StepBoth":  impl.StepBoth,
		"StepOther": impl.StepOther,
		"StepNext":  func(n, s int) (int, bool) { return impl.StepNext(n, s, 0) },
		"StepPart":  impl.StepPart,
		"StepParts": impl.StepParts,
		"StepCuts":  func(n, s int) (int, bool) { return impl.StepCuts(n, s, 1) },
	}
}

func checkStepsFail(t *testing.T, n, s int) {
	t.Helper()
	if impl.StepIn(n, s) || impl.StepEven(n, s) || impl.StepHalves(n, s) {
		t.Errorf("%d and %d: in %v, even %v, halves %v", n, s, impl.StepIn(n, s), impl.StepEven(n, s), impl.StepHalves(n, s))
	}
	for name, call := range numberCalls() {
		if got, ok := call(n, s); ok || got != 0 {
			t.Errorf("%s of %d and %d = %d, %v", name, n, s, got, ok)
		}
	}
}

func checkNextFails(t *testing.T, n, s, v int) {
	t.Helper()
	if got, ok := impl.StepNext(n, s, v); ok || got != 0 {
		t.Errorf("StepNext(%d, %d, %d) = %d, %v", n, s, v, got, ok)
	}
}

func checkCutsFail(t *testing.T, n, s, set int) {
	t.Helper()
	if got, ok := impl.StepCuts(n, s, set); ok || got != 0 {
		t.Errorf("StepCuts(%d, %d, %d) = %d, %v", n, s, set, got, ok)
	}
}

// numbersOutside are no places and no sets of any ring.
func numbersOutside() []int {
	return []int{-1, -2, -12, -4096, 4096, 4097, 1 << 32, math.MaxInt32, math.MinInt32, math.MaxInt - 1, math.MaxInt, math.MinInt}
}

func TestStepsWithoutRing(t *testing.T) {
	for _, n := range []int{0, -1, -12, 13, 14, 63, 64, 65, 100, math.MaxInt, math.MinInt} {
		for _, s := range append(numbersOutside(), 0, 1, 2, 6, 4094) {
			checkStepsFail(t, n, s)
			checkNextFails(t, n, s, -1)
			checkNextFails(t, n, s, n)
			checkCutsFail(t, n, s, 0)
			checkCutsFail(t, n, s, -1)
		}
	}
}

func TestStepsWithPlaceZero(t *testing.T) {
	for n, set := range eachSet() {
		if set&1 == 1 {
			checkStepsFail(t, n, set)
			checkNextFails(t, n, set, n-1)
			checkCutsFail(t, n, set, 0)
		}
	}
}

func TestStepsOutOfRing(t *testing.T) {
	for n := 1; n <= impl.RingMax; n++ {
		all := 1<<n - 1
		// The even ones fail for being no sets alone, not for the place 0.
		for _, s := range append(numbersOutside(), -1-all, all+1, all+3, 2*all, 2*all+2, 2*all+1) {
			checkStepsFail(t, n, s)
			checkNextFails(t, n, s, n-1)
			checkNextFails(t, n, s, -1)
			checkCutsFail(t, n, s, all)
			checkCutsFail(t, n, s, s)
		}
	}
}

func TestPlacesOutOfRing(t *testing.T) {
	for n, s := range eachSteps() {
		for _, v := range append(numbersOutside(), n, n+1, 2*n, -n, 12, 63, 64, 65) {
			checkNextFails(t, n, s, v)
		}
	}
}

func TestCutsOfNoSet(t *testing.T) {
	for n, s := range eachSteps() {
		all := 1<<n - 1
		for _, set := range append(numbersOutside(), all+1, all+2, 2*all+1, -1-all) {
			checkCutsFail(t, n, s, set)
		}
	}
}
