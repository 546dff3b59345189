package tests

import (
	"slices"
	"testing"

	"loop.example/ringsofsteps/impl"
)

// The tests of this file hold promises 58 to 65 of the document, one each.

func TestPromise58TablesTurnedAndShifted(t *testing.T) {
	c := newDiffCalls(t)
	for n, set := range eachSet() {
		table := c.diffTable(n, set)
		for v, ways := range table {
			if back := table[place(n, -v)]; back != ways {
				t.Fatalf("DiffTable(%d, %d) = %v: %d and turned by -1 differ", n, set, table, v)
			}
		}
		if total(table) != size(set)*size(set) {
			t.Fatalf("DiffTable(%d, %d) = %v adds up to %d", n, set, table, total(table))
		}
		if next := c.diffTable(n, c.shift(n, set, 1)); !slices.Equal(next, table) {
			t.Fatalf("DiffTable(%d, %d) = %v, shifted by 1 %v", n, set, table, next)
		}
	}
}

func TestPromise59EvenSetsAndAllOtherPlaces(t *testing.T) {
	c := newDiffCalls(t)
	held := 0
	for n, set := range eachSet() {
		got, ok := impl.DiffEven(n, set)
		if !ok {
			continue
		}
		held++
		k := size(set)
		if got*(n-1) != k*(k-1) {
			t.Fatalf("DiffEven(%d, %d) = %d for %d places", n, set, got, k)
		}
		if others := c.diffEven(n, otherPlaces(n, set)); others != got+n-2*k {
			t.Fatalf("DiffEven(%d, %d) = %d, of all other places %d", n, set, got, others)
		}
	}
	if held == 0 {
		t.Error("no set is even")
	}
}

func TestPromise60FoundSetsAreEven(t *testing.T) {
	c := newDiffCalls(t)
	held := 0
	for n, k := range eachFound() {
		got, ok := impl.DiffFind(n, k)
		if !ok {
			continue
		}
		held++
		c.diffEven(n, got)
		c.diffFind(n, n-k)
		if size(got) != k {
			t.Errorf("DiffFind(%d, %d) = %d", n, k, got)
		}
	}
	if held == 0 {
		t.Error("no even set is found")
	}
}

func TestPromise61ThinSetsAreSmall(t *testing.T) {
	c := newDiffCalls(t)
	held := 0
	for n, set := range eachSet() {
		if !impl.DiffThin(n, set) {
			continue
		}
		held++
		k := size(set)
		if k*(k-1) > n-1 || k > c.diffThinMost(n) {
			t.Fatalf("DiffThin(%d, %d) holds for %d places, DiffThinMost %d", n, set, k, c.diffThinMost(n))
		}
		for _, moved := range []int{c.turn(n, set, -1), c.shift(n, set, 1)} {
			if !impl.DiffThin(n, moved) {
				t.Fatalf("DiffThin(%d, %d) holds, but not for %d", n, set, moved)
			}
		}
	}
	if held == 0 {
		t.Error("no set is thin")
	}
}

func TestPromise62MostOfThinSets(t *testing.T) {
	c := newDiffCalls(t)
	for n := 1; n <= impl.RingMax; n++ {
		got := c.diffThinMost(n)
		if got*(got-1) > n-1 || got*(got-1) == n-1 && c.diffWhole(n) != got {
			t.Errorf("DiffThinMost(%d) = %d, DiffWhole %d", n, got, c.diffWhole(n))
		}
	}
}

func TestPromise63LeastOfWholeSets(t *testing.T) {
	c := newDiffCalls(t)
	for n := 1; n <= impl.RingMax; n++ {
		if got := c.diffWhole(n); got*(got-1) < n-1 || 2*got > n+2 {
			t.Errorf("DiffWhole(%d) = %d", n, got)
		}
	}
}

func TestPromise64CarriersCarryThemselves(t *testing.T) {
	c := newDiffCalls(t)
	for n, set := range eachSet() {
		got := c.diffCarries(n, set)
		if one := place(n, 1); got>>one&1 == 0 || got&^c.units(n) != 0 {
			t.Fatalf("DiffCarries(%d, %d) = %d: without the unit %d, or not units alone", n, set, got, one)
		}
		for _, u := range placesOf(got) {
			if moved := c.turn(n, got, u); moved != got {
				t.Fatalf("DiffCarries(%d, %d) = %d, turned by %d it is %d", n, set, got, u, moved)
			}
		}
		if others := c.diffCarries(n, otherPlaces(n, set)); others != got {
			t.Fatalf("DiffCarries(%d, %d) = %d, of all other places %d", n, set, got, others)
		}
	}
}

func TestPromise65PrimesCarryEvenSets(t *testing.T) {
	c := newDiffCalls(t)
	held := 0
	for n, set := range eachSet() {
		ways, ok := impl.DiffEven(n, set)
		if !ok {
			continue
		}
		carriers, rest := c.diffCarries(n, set), size(set)-ways
		for _, p := range unitsOf(n) {
			if !isPrime(p) || rest%p != 0 || p <= ways {
				continue
			}
			held++
			if carriers>>p&1 == 0 {
				t.Fatalf("DiffCarries(%d, %d) = %d without %d, DiffEven %d", n, set, carriers, p, ways)
			}
		}
	}
	if held == 0 {
		t.Error("no prime is asked for")
	}
}
