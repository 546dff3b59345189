package tests

import (
	"math"
	"testing"

	"loop.example/ringsofsteps/impl"
)

func checkPlayFails(t *testing.T, n, s int) {
	t.Helper()
	if impl.PlayIn(n, s) {
		t.Errorf("PlayIn(%d, %d) holds", n, s)
	}
	if got, ok := impl.PlayThree(n, s); ok || got != 0 {
		t.Errorf("PlayThree(%d, %d) = %d, %v", n, s, got, ok)
	}
	if got, ok := impl.PlayTwice(n, s); ok || got != 0 {
		t.Errorf("PlayTwice(%d, %d) = %d, %v", n, s, got, ok)
	}
	if got, ok := impl.PlayEqual(n, s); ok || got != 0 {
		t.Errorf("PlayEqual(%d, %d) = %d, %v", n, s, got, ok)
	}
	checkOrderFails(t, n, s)
}

func checkOrderFails(t *testing.T, n, s int) {
	t.Helper()
	if got, ok := impl.PlayOrder(n, s); ok || len(got) != 0 {
		t.Errorf("PlayOrder(%d, %d) = %v, %v", n, s, got, ok)
	}
}

func checkAllPlaysFail(t *testing.T, n int) {
	t.Helper()
	if got, ok := impl.PlayAll(n); ok || len(got) != 0 {
		t.Errorf("PlayAll(%d) = %v, %v", n, got, ok)
	}
	if got, ok := impl.PlayClasses(n); ok || got != 0 {
		t.Errorf("PlayClasses(%d) = %d, %v", n, got, ok)
	}
}

// TestPlaysWithoutRing gives odd numbers as well, which are out of their range alone.
func TestPlaysWithoutRing(t *testing.T) {
	for _, n := range []int{0, -1, -3, -5, -11, -12, 13, 14, 15, 17, 63, 64, 65, 101, math.MaxInt - 1, math.MaxInt, math.MinInt, math.MinInt + 1} {
		for _, s := range append(numbersOutside(), 0, 1, 2, 4, 6, 22, 62, 126, 254, n-1) {
			checkPlayFails(t, n, s)
		}
		checkAllPlaysFail(t, n)
	}
}

// TestRingsWithoutPlays gives all sets of even rings, and of the ring of one place, where a set that has of each place but 0 just one would be empty.
func TestRingsWithoutPlays(t *testing.T) {
	for _, n := range []int{1, 2, 4, 6, 8, 10, 12} {
		checkAllPlaysFail(t, n)
		for set := range 1 << n {
			checkPlayFails(t, n, set)
		}
	}
}

// TestSetsThatAreNoPlays gives steps with a place and it turned by -1, with neither of them, no steps, and sets with 0.
func TestSetsThatAreNoPlays(t *testing.T) {
	for n, set := range eachSet() {
		if !isPlayByWords(n, set) {
			checkPlayFails(t, n, set)
		}
	}
}

func TestPlaysOutOfRing(t *testing.T) {
	for n, s := range eachPlay() {
		all := 1<<n - 1
		for _, set := range append(numbersOutside(), -s, -1-s, s+all+1, s+2*all+2, s|1<<62, s|math.MinInt) {
			checkPlayFails(t, n, set)
		}
	}
}

// TestPlaysThatAreNotEqual gives all plays of rings whose n is not 3 more than a multiple of 4, and some others.
func TestPlaysThatAreNotEqual(t *testing.T) {
	for n, s := range eachPlay() {
		if n%4 != 3 || n > 3 && s == 1<<((n+1)/2)-2 {
			if got, ok := impl.PlayEqual(n, s); ok || got != 0 {
				t.Errorf("PlayEqual(%d, %d) = %d, %v", n, s, got, ok)
			}
		}
	}
}

// TestOrdersOfGreaterRings gives the plays of 11 places, of which all but an order is told.
func TestOrdersOfGreaterRings(t *testing.T) {
	c := newPlayCalls(t)
	for _, s := range playsOf(11) {
		checkOrderFails(t, 11, s)
		if !impl.PlayIn(11, s) || c.playThree(11, s) == 0 || c.playTwice(11, s) == 0 {
			t.Errorf("PlayIn(11, %d) %v, PlayThree %d, PlayTwice %d", s, impl.PlayIn(11, s), c.playThree(11, s), c.playTwice(11, s))
		}
	}
}

// TestPlaysJustInside gives the least and the greatest ring of each function.
func TestPlaysJustInside(t *testing.T) {
	c := newPlayCalls(t)
	for _, n := range []int{3, 11} {
		c.playAll(n)
		c.playClasses(n)
		c.playThree(n, 1<<((n+1)/2)-2)
		c.playTwice(n, 1<<((n+1)/2)-2)
	}
	c.playOrder(3, 0b010)
	c.playOrder(9, 0b000011110)
}
