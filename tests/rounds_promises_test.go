package tests

import (
	"slices"
	"testing"

	"loop.example/ringsofsteps/impl"
)

// The tests of this file hold promises 42 to 49 of the document, one each.

func TestPromise42RoundsHaveWords(t *testing.T) {
	c := newRoundCalls(t)
	for n := 2; n <= impl.RingMax; n++ {
		for _, list := range someOrders(n) {
			held := 0
			for s := 0; s < 1<<n; s += 2 {
				if !impl.RoundIs(n, s, list) {
					continue
				}
				held++
				if word := c.wordOf(n, list); setOf(word)&^s != 0 {
					t.Fatalf("RoundIs(%d, %d, %v) holds, but RoundWord is %v", n, s, list, word)
				}
				if both := c.both(n, s); !impl.RoundIs(n, both, list) {
					t.Fatalf("RoundIs(%d, %d, %v) holds, but not for both steps, %d", n, s, list, both)
				}
			}
			if held == 0 {
				t.Fatalf("RoundIs holds for no steps of %d and %v", n, list)
			}
		}
	}
}

func TestPromise43FirstIsARound(t *testing.T) {
	c := newRoundCalls(t)
	for n, s := range eachSteps() {
		first, ok := impl.RoundFirst(n, s)
		if !ok {
			continue
		}
		if !impl.RoundIs(n, s, first) || c.parts(n, s) != 1 || c.many(n, s) < 1 {
			t.Fatalf("RoundFirst(%d, %d) = %v, StepParts %d, RoundMany %d", n, s, first, c.parts(n, s), c.many(n, s))
		}
	}
}

func TestPromise44ManyOfTurnedSteps(t *testing.T) {
	c := newRoundCalls(t)
	for n, s := range eachSteps() {
		got, ok := impl.RoundMany(n, s)
		if !ok {
			continue
		}
		if of := c.many(n, c.turn(n, s, -1)); of != got {
			t.Fatalf("RoundMany(%d, %d) = %d, of the steps turned by -1 %d", n, s, got, of)
		}
		if _, is := impl.RoundFirst(n, s); is != (got > 0) {
			t.Fatalf("RoundMany(%d, %d) = %d, but RoundFirst: %v", n, s, got, is)
		}
	}
	factorial := 1
	for n := 2; n <= mostSearched; n++ {
		factorial *= n - 1
		if got := c.many(n, allSteps(n)); got != factorial {
			t.Errorf("RoundMany(%d, %d) = %d, want %d", n, allSteps(n), got, factorial)
		}
	}
}

func TestPromise45TwoByBothRoads(t *testing.T) {
	for x := range eachTwo() {
		if x.n > mostSearched {
			continue
		}
		s := 1<<x.a | 1<<x.b
		if list, is := impl.RoundFirst(x.n, s); impl.RoundTwo(x.n, x.a, x.b) != is {
			t.Errorf("RoundTwo(%d, %d, %d) = %v, but RoundFirst %v, %v", x.n, x.a, x.b, !is, list, is)
		}
	}
}

func TestPromise46TwoExchangedAndTurned(t *testing.T) {
	held := 0
	for x := range eachTwo() {
		if !impl.RoundTwo(x.n, x.a, x.b) {
			continue
		}
		held++
		if !impl.RoundTwo(x.n, x.b, x.a) || !impl.RoundTwo(x.n, x.n-x.a, x.n-x.b) {
			t.Errorf("RoundTwo(%d, %d, %d) holds, but not for both exchanged or turned", x.n, x.a, x.b)
		}
	}
	if held == 0 {
		t.Error("RoundTwo holds for no steps")
	}
}

func TestPromise47OneIsAPart(t *testing.T) {
	c := newRoundCalls(t)
	for n := 2; n <= impl.RingMax; n++ {
		for k := 1; k < n; k++ {
			got, unit := c.one(n, k), c.units(n)>>k&1 == 1
			if part := c.part(n, 1<<k); got != size(part) || (got == n) != unit {
				t.Errorf("RoundOne(%d, %d) = %d, StepPart %d, a unit: %v", n, k, got, part, unit)
			}
		}
	}
}

func TestPromise48WordsLeadBack(t *testing.T) {
	c := newRoundCalls(t)
	for n := 2; n <= impl.RingMax; n++ {
		for _, list := range someOrders(n) {
			word := c.wordOf(n, list)
			if back := c.roundBy(n, word); !slices.Equal(back, list) || total(word)%n != 0 {
				t.Fatalf("RoundWord(%d, %v) = %v, RoundBy of it %v", n, list, word, back)
			}
			for _, broken := range brokenLists(list) {
				word, ok := impl.RoundWord(n, broken)
				if !ok {
					continue
				}
				if back := c.roundBy(n, word); !slices.Equal(back, broken) || total(word)%n != 0 {
					t.Fatalf("RoundWord(%d, %v) = %v, RoundBy of it %v", n, broken, word, back)
				}
			}
		}
	}
}

func TestPromise49WordsTurnedByOneArc(t *testing.T) {
	c := newRoundCalls(t)
	for n := 2; n <= impl.RingMax; n++ {
		for _, order := range someOrders(n) {
			word := alongList(n, order)
			c.roundBy(n, word) // so that the promise speaks of it
			for _, near := range append(brokenLists(word), word) {
				list, ok := impl.RoundBy(n, near)
				if !ok {
					continue
				}
				if of := c.wordOf(n, list); !slices.Equal(of, near) {
					t.Fatalf("RoundBy(%d, %v) = %v, RoundWord of it %v", n, near, list, of)
				}
				c.roundBy(n, append(slices.Clone(near[1:]), near[0]))
				c.roundBy(n, append(slices.Clone(near[n-1:]), near[:n-1]...))
			}
		}
	}
}
