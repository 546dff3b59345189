package tests

import (
	"testing"

	"loop.example/ringsofsteps/impl"
)

// The tests of this file hold promises 1 to 14 of the document, one each.

func TestPromise1OtherPlacesAndZeroAdded(t *testing.T) {
	c := ringCalls{t}
	for n, set := range eachSet() {
		other := 1<<n - 1 - set
		if !impl.RingIn(n, set) || !impl.RingIn(n, other) {
			t.Fatalf("RingIn does not hold for %d or %d of %d", set, other, n)
		}
		for _, x := range []int{set, other} {
			if got := c.sum(n, x, 1); got != x {
				t.Fatalf("RingSum(%d, %d, 1) = %d", n, x, got)
			}
			if got := c.sum(n, 1, x); got != x {
				t.Fatalf("RingSum(%d, 1, %d) = %d", n, x, got)
			}
		}
	}
}

func TestPromise2ShiftsLeadBack(t *testing.T) {
	c := ringCalls{t}
	for n, set := range eachSet() {
		for k := -100; k <= 100; k++ {
			moved := c.shift(n, set, k)
			if back := c.shift(n, moved, -k); back != set || size(moved) != size(set) {
				t.Fatalf("RingShift(%d, %d, %d) = %d, which leads back to %d", n, set, k, moved, back)
			}
		}
	}
}

func TestPromise3TurnsByUnitsKeepSizes(t *testing.T) {
	c := ringCalls{t}
	for n, set := range eachSet() {
		for m := -100; m <= 100; m++ {
			moved := c.turn(n, set, m)
			keeps := isUnit(n, place(n, m)) || size(set) <= 1
			if size(moved) > size(set) || keeps && size(moved) != size(set) {
				t.Fatalf("RingTurn(%d, %d, %d) = %d", n, set, m, moved)
			}
		}
	}
}

func TestPromise4SizesOfSums(t *testing.T) {
	c := ringCalls{t}
	for p := range eachPair() {
		got := c.sum(p.n, p.a, p.b)
		if back := c.sum(p.n, p.b, p.a); back != got {
			t.Fatalf("RingSum of %v = %d, exchanged %d", p, got, back)
		}
		if p.a == 0 || p.b == 0 {
			continue
		}
		if size(got) < max(size(p.a), size(p.b)) || size(got) > size(p.a)*size(p.b) {
			t.Fatalf("RingSum of %v = %d", p, got)
		}
	}
}

func TestPromise5SumsAndWhatHoldsThem(t *testing.T) {
	c := ringCalls{t}
	for p := range eachPair() {
		if p.a == 0 || p.b == 0 {
			continue
		}
		got := c.sum(p.n, p.a, p.b)
		held := c.holds(p.n, got)
		least := size(c.sum(p.n, p.a, held)) + size(c.sum(p.n, p.b, held)) - size(held)
		if size(got) < least {
			t.Fatalf("RingSum of %v = %d, held by %d, has less than %d places", p, got, held, least)
		}
	}
}

func TestPromise6CountsAddUp(t *testing.T) {
	c := ringCalls{t}
	for p := range eachPair() {
		counts := c.counts(p.n, p.a, p.b)
		set := c.sum(p.n, p.a, p.b)
		all := 0
		for v, ways := range counts {
			all += ways
			if (ways != 0) != (set&(1<<v) != 0) {
				t.Fatalf("RingCounts of %v = %v, RingSum %d", p, counts, set)
			}
		}
		if all != size(p.a)*size(p.b) {
			t.Fatalf("RingCounts of %v = %v add up to %d", p, counts, all)
		}
	}
}

func TestPromise7MinusExchanged(t *testing.T) {
	c := ringCalls{t}
	for p := range eachPair() {
		got := c.minus(p.n, p.a, p.b)
		if turned, exchanged := c.turn(p.n, got, -1), c.minus(p.n, p.b, p.a); turned != exchanged {
			t.Fatalf("RingMinus of %v = %d, turned %d, exchanged %d", p, got, turned, exchanged)
		}
		if (got&1 == 1) != (p.a&p.b != 0) {
			t.Fatalf("RingMinus of %v = %d: 0 is wrong", p, got)
		}
	}
}

func TestPromise8HoldsItself(t *testing.T) {
	c := ringCalls{t}
	for n, set := range eachSet() {
		held := c.holds(n, set)
		if held == 0 || c.sum(n, held, held) != held || c.sum(n, held, set) != set {
			t.Fatalf("RingHolds(%d, %d) = %d: sums", n, set, held)
		}
		if n%size(held) != 0 || size(set)%size(held) != 0 {
			t.Fatalf("RingHolds(%d, %d) = %d: size", n, set, held)
		}
	}
}

func TestPromise9UnitsTurnUnits(t *testing.T) {
	c := ringCalls{t}
	for n := 1; n <= impl.RingMax; n++ {
		units := c.units(n)
		if units == 0 {
			t.Errorf("RingUnits(%d) is empty", n)
		}
		for _, u := range placesOf(units) {
			if got := c.turn(n, units, u); got != units {
				t.Errorf("RingUnits(%d) = %d, turned by %d it is %d", n, units, u, got)
			}
		}
	}
}

func TestPromise10LeastOfShifts(t *testing.T) {
	c := ringCalls{t}
	for n, set := range eachSet() {
		least := c.least(n, set)
		if next := c.least(n, c.shift(n, set, 1)); next != least {
			t.Fatalf("RingLeast(%d, %d) = %d, shifted by 1 %d", n, set, least, next)
		}
		if least > set || !impl.RingAlike(n, least, set) {
			t.Fatalf("RingLeast(%d, %d) = %d", n, set, least)
		}
	}
}

func TestPromise11AlikeBothWays(t *testing.T) {
	for n, a := range eachSet() {
		all := 1<<n - 1
		if !impl.RingAlike(n, a, a) {
			t.Fatalf("RingAlike(%d, %d, %d) does not hold", n, a, a)
		}
		for _, b := range append(partners(n, a), likesOf(n, a)...) {
			if !impl.RingAlike(n, a, b) {
				continue
			}
			if !impl.RingAlike(n, b, a) || !impl.RingAlike(n, all^a, all^b) || size(a) != size(b) {
				t.Fatalf("RingAlike(%d, %d, %d) holds: exchanged %v, others %v", n, a, b, impl.RingAlike(n, b, a), impl.RingAlike(n, all^a, all^b))
			}
		}
	}
}

func TestPromise12FirstOfLikes(t *testing.T) {
	c := ringCalls{t}
	for n, set := range eachSet() {
		first := c.first(n, set)
		if again := c.first(n, first); again != first {
			t.Fatalf("RingFirst(%d, %d) = %d, of it %d", n, set, first, again)
		}
		if first > c.least(n, set) || !impl.RingAlike(n, first, set) {
			t.Fatalf("RingFirst(%d, %d) = %d, RingLeast %d", n, set, first, c.least(n, set))
		}
	}
}

func TestPromise13ClassesHaveOneFirstEach(t *testing.T) {
	c := ringCalls{t}
	for n := 1; n <= 8; n++ {
		own := 0
		for set := range 1 << n {
			if c.first(n, set) == set {
				own++
			}
		}
		if got := c.classes(n); got != own {
			t.Errorf("RingClasses(%d) = %d, but %d sets are the first ones", n, got, own)
		}
	}
}

func TestPromise14SumsOnPrimeRings(t *testing.T) {
	c := ringCalls{t}
	tight := map[int]bool{}
	for p := range eachPair() {
		if p.a == 0 || p.b == 0 || !isPrime(p.n) {
			continue
		}
		got, least := size(c.sum(p.n, p.a, p.b)), size(p.a)+size(p.b)-1
		if got < p.n && got < least {
			t.Fatalf("RingSum of %v has %d places, want %d at least", p, got, least)
		}
		tight[p.n] = tight[p.n] || got < p.n && got == least
	}
	// Without pairs that have just as many the promise would hardly be tested.
	for _, n := range []int{2, 3, 5, 7, 11} {
		if !tight[n] {
			t.Errorf("no sum of %d places has the least size", n)
		}
	}
}
