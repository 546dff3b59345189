package tests

import (
	"math"
	"slices"
	"testing"

	"loop.example/ringsofsteps/impl"
)

func checkSearchFails(t *testing.T, n, s int) {
	t.Helper()
	if got, ok := impl.RoundFirst(n, s); ok || len(got) != 0 {
		t.Errorf("RoundFirst(%d, %d) = %v, %v", n, s, got, ok)
	}
	if got, ok := impl.RoundMany(n, s); ok || got != 0 {
		t.Errorf("RoundMany(%d, %d) = %d, %v", n, s, got, ok)
	}
}

// checkRoundsFail gives steps that are none, or that are steps of no ring, with lists that are rounds by right ones.
func checkRoundsFail(t *testing.T, n, s int) {
	t.Helper()
	checkSearchFails(t, n, s)
	for length := range 15 {
		if list := inOrder(length); impl.RoundIs(n, s, list) {
			t.Errorf("RoundIs(%d, %d, %v) holds", n, s, list)
		}
	}
}

// checkListFails gives a list that is no round of a ring by any steps.
func checkListFails(t *testing.T, n int, list []int) {
	t.Helper()
	for _, s := range []int{allSteps(max(n, 1)), 0, 0b10} {
		if impl.RoundIs(n, s, list) {
			t.Errorf("RoundIs(%d, %d, %v) holds", n, s, list)
		}
	}
	if got, ok := impl.RoundWord(n, list); ok || len(got) != 0 {
		t.Errorf("RoundWord(%d, %v) = %v, %v", n, list, got, ok)
	}
}

func checkByFails(t *testing.T, n int, word []int) {
	t.Helper()
	if got, ok := impl.RoundBy(n, word); ok || len(got) != 0 {
		t.Errorf("RoundBy(%d, %v) = %v, %v", n, word, got, ok)
	}
}

func checkTwoFails(t *testing.T, n, a, b int) {
	t.Helper()
	if impl.RoundTwo(n, a, b) || impl.RoundTwo(n, b, a) {
		t.Errorf("RoundTwo(%d, %d, %d) holds, or both exchanged", n, a, b)
	}
}

func checkOneFails(t *testing.T, n, k int) {
	t.Helper()
	if got, ok := impl.RoundOne(n, k); ok || got != 0 {
		t.Errorf("RoundOne(%d, %d) = %d, %v", n, k, got, ok)
	}
}

// inOrder returns the places of a ring of so many in their order, which are a round by the step 1.
func inOrder(length int) []int {
	list := make([]int, length)
	for v := range list {
		list[v] = v
	}
	return list
}

func TestRoundsWithoutRing(t *testing.T) {
	for _, n := range []int{0, -1, -2, -12, 13, 14, 63, 64, 65, 100, math.MaxInt, math.MinInt} {
		for _, s := range append(numbersOutside(), 0, 1, 2, 6, 4094) {
			checkRoundsFail(t, n, s)
		}
		for length := range 15 {
			// The greatest of these rings have no set of all their places as an int.
			if n < 60 {
				checkListFails(t, n, inOrder(length))
			}
			if got, ok := impl.RoundWord(n, inOrder(length)); ok || len(got) != 0 {
				t.Errorf("RoundWord(%d, %v) = %v, %v", n, inOrder(length), got, ok)
			}
			checkByFails(t, n, slices.Repeat([]int{1}, length))
			checkByFails(t, n, make([]int, length))
		}
		for _, k := range append(numbersOutside(), 0, 1, 2, 5, n-1, n) {
			checkOneFails(t, n, k)
			checkTwoFails(t, n, 1, k)
			checkTwoFails(t, n, 2, k)
		}
	}
}

// TestRoundsOfOnePlace gives a ring that has steps, the set 0, but no round.
func TestRoundsOfOnePlace(t *testing.T) {
	checkSearchFails(t, 1, 0)
	for _, v := range append(numbersOutside(), 0, 1, 2) {
		for _, list := range [][]int{nil, {}, {v}, {0, v}, {v, 0}, {1, v}} {
			checkListFails(t, 1, list)
			checkByFails(t, 1, list)
		}
		checkOneFails(t, 1, v)
		checkTwoFails(t, 1, 0, v)
		checkTwoFails(t, 1, 1, v)
	}
}

func TestRoundsWithPlaceZero(t *testing.T) {
	for n, set := range eachSet() {
		if set&1 == 1 {
			checkRoundsFail(t, n, set)
		}
	}
}

func TestRoundsOutOfRing(t *testing.T) {
	for n := 1; n <= impl.RingMax; n++ {
		all := 1<<n - 1
		// The even ones fail for being no sets alone, not for the place 0.
		for _, s := range append(numbersOutside(), -1-all, all+1, all+3, 2*all, 2*all+2, 2*all+1) {
			checkRoundsFail(t, n, s)
		}
	}
}

// TestRoundsOfGreaterRings gives rings in which rounds are not searched for, but may be told.
func TestRoundsOfGreaterRings(t *testing.T) {
	for n, s := range eachSteps() {
		if n > mostSearched {
			checkSearchFails(t, n, s)
		}
	}
	for n := mostSearched + 1; n <= impl.RingMax; n++ {
		if !impl.RoundIs(n, 0b10, inOrder(n)) || !impl.RoundTwo(n, 1, 2) {
			t.Errorf("a ring of %d has no round by 1", n)
		}
	}
}

func TestNoRoundByTheseSteps(t *testing.T) {
	for n, s := range eachSearchedSteps() {
		if leadEverywhere(n, s) {
			continue
		}
		if got, ok := impl.RoundFirst(n, s); ok || len(got) != 0 {
			t.Errorf("RoundFirst(%d, %d) = %v, %v", n, s, got, ok)
		}
		if got, ok := impl.RoundMany(n, s); !ok || got != 0 {
			t.Errorf("RoundMany(%d, %d) = %d, %v", n, s, got, ok)
		}
	}
	// By 2 and 3, ways lead everywhere.
	if got, ok := impl.RoundFirst(6, 0b001100); ok || len(got) != 0 {
		t.Errorf("RoundFirst by 2 and 3 of 6 = %v, %v", got, ok)
	}
}

func TestListsThatAreNoRounds(t *testing.T) {
	for n := 2; n <= impl.RingMax; n++ {
		list := inOrder(n)
		for _, wrong := range [][]int{
			nil,
			{},
			{0},
			list[1:],
			append(inOrder(n), 0),
			inOrder(n + 1),
			append(inOrder(n), inOrder(n)...),
			append(slices.Clone(list[1:]), 0),
			append([]int{0}, list[:n-1]...),
			append(slices.Clone(list[:n-1]), 0),
			make([]int, n),
		} {
			checkListFails(t, n, wrong)
		}
		if n > 2 {
			checkListFails(t, n, list[:n-1])
		}
		for i := range list {
			for _, v := range append(numbersOutside(), n, n+1, 2*n, i-n, i+n, 63, 64, 65) {
				wrong := slices.Clone(list)
				wrong[i] = v
				checkListFails(t, n, wrong)
			}
		}
	}
}

func TestWordsThatAreNoRounds(t *testing.T) {
	for n := 2; n <= impl.RingMax; n++ {
		ones := slices.Repeat([]int{1}, n)
		for _, wrong := range [][]int{
			nil,
			{},
			{1},
			ones[:n-1],
			slices.Repeat([]int{1}, n+1),
			slices.Repeat([]int{1}, 2*n),
			make([]int, n),
			slices.Repeat([]int{-1}, n),    // these have the rest of a step
			slices.Repeat([]int{n + 1}, n), // these, too
			slices.Repeat([]int{n}, n),
		} {
			checkByFails(t, n, wrong)
		}
		for i := range ones {
			others := append(numbersOutside(), 0, n, n+1, 1-n, 1-2*n, 1+4*n, 63, 64, 65, 1<<32+1)
			for v := 2; v < n; v++ {
				others = append(others, v) // with another last step, the places are a round, but the step does not lead back to 0
			}
			for _, v := range others {
				wrong := slices.Clone(ones)
				wrong[i] = v
				checkByFails(t, n, wrong)
			}
		}
	}
	// By 2 of 4, places come twice, though the word leads back to 0.
	checkByFails(t, 4, []int{2, 2, 2, 2})
	checkByFails(t, 4, []int{1, 3, 1, 3})
}

func TestTwoOutOfRange(t *testing.T) {
	for n := 1; n <= impl.RingMax; n++ {
		outside := append(numbersOutside(), 0, n, n+1, 2*n, 2*n+1, -n, 1-n, 63, 64, 65)
		for a := range n {
			checkTwoFails(t, n, a, a)
			checkTwoFails(t, n, a, 0)
			checkTwoFails(t, n, a, -a)
			checkTwoFails(t, n, a, a+n)
			for _, b := range outside {
				checkTwoFails(t, n, a, b)
			}
		}
		for _, a := range outside {
			for _, b := range outside {
				checkTwoFails(t, n, a, b)
			}
		}
	}
}

func TestOneOutOfRange(t *testing.T) {
	for n := 1; n <= impl.RingMax; n++ {
		for _, k := range append(numbersOutside(), 0, n, n+1, 2*n, -n, 1-n, 63, 64, 65) {
			checkOneFails(t, n, k)
		}
		// Just inside of the range, nothing fails.
		for _, k := range []int{1, n - 1} {
			if got, ok := impl.RoundOne(n, k); n > 1 && (!ok || got != n) {
				t.Errorf("RoundOne(%d, %d) = %d, %v", n, k, got, ok)
			}
		}
	}
}
