package tests

import (
	"slices"
	"testing"

	"loop.example/ringsofsteps/impl"
)

// The tests of this file hold promises 23 to 29 of the document, one each, and promise 31 as far as it speaks of chapters 1 to 3; the rest of it is held with chapter 4.

func TestPromise23DistancesOfSums(t *testing.T) {
	c := farCalls{stepCalls{ringCalls{t}}}
	for n, s := range eachSteps() {
		list, part := c.list(n, s), c.part(n, s)
		if list[0] != 0 {
			t.Fatalf("FarList(%d, %d) = %v: not 0 for 0", n, s, list)
		}
		for v := range n {
			if list[v] < -1 || (list[v] == -1) == (part&(1<<v) != 0) {
				t.Fatalf("FarList(%d, %d) = %v, StepPart %d: place %d", n, s, list, part, v)
			}
			for w := range n {
				if list[v] >= 0 && list[w] >= 0 && list[place(n, v+w)] > list[v]+list[w] {
					t.Fatalf("FarList(%d, %d) = %v: the sum of %d and %d", n, s, list, v, w)
				}
			}
		}
	}
}

func TestPromise24MostIsTheLastLayer(t *testing.T) {
	c := farCalls{stepCalls{ringCalls{t}}}
	for n, s := range eachSteps() {
		if _, ok := impl.FarMost(n, s); !ok {
			continue
		}
		most := c.most(n, s)
		if of := c.most(n, c.both(n, s)); most >= n || most < of || most != len(c.layers(n, s))-1 {
			t.Fatalf("FarMost(%d, %d) = %d, of both steps %d, layers %v", n, s, most, of, c.layers(n, s))
		}
	}
}

func TestPromise25SumOfLayers(t *testing.T) {
	c := farCalls{stepCalls{ringCalls{t}}}
	for n, s := range eachSteps() {
		if _, ok := impl.FarSum(n, s); !ok {
			continue
		}
		want := 0
		for d, places := range c.layers(n, s) {
			want += d * places
		}
		got := c.total(n, s)
		if got != want || got < n-1 || (got == n-1) != (s == allSteps(n)) {
			t.Fatalf("FarSum(%d, %d) = %d, by layers %d", n, s, got, want)
		}
	}
}

func TestPromise26WordsAddUp(t *testing.T) {
	c := farCalls{stepCalls{ringCalls{t}}}
	for n, s := range eachSteps() {
		list := c.list(n, s)
		for v := range n {
			if _, ok := impl.FarWord(n, s, v); !ok {
				continue
			}
			word := c.word(n, s, v)
			if end(n, word) != v || !slices.IsSorted(word) || len(word) != list[v] {
				t.Fatalf("FarWord(%d, %d, %d) = %v, distance %d", n, s, v, word, list[v])
			}
			for _, step := range word {
				if s&(1<<step) == 0 {
					t.Fatalf("FarWord(%d, %d, %d) = %v: %d is no step", n, s, v, word, step)
				}
			}
		}
	}
}

func TestPromise27LayersAddUp(t *testing.T) {
	c := farCalls{stepCalls{ringCalls{t}}}
	for n, s := range eachSteps() {
		layers := c.layers(n, s)
		places := 0
		for _, layer := range layers {
			places += layer
		}
		if len(layers) == 0 || layers[0] != 1 || places != size(c.part(n, s)) {
			t.Fatalf("FarLayers(%d, %d) = %v, StepPart %d", n, s, layers, c.part(n, s))
		}
		if (len(layers) > 1) != (s != 0) || len(layers) > 1 && layers[1] != size(s) {
			t.Fatalf("FarLayers(%d, %d) = %v, but %d steps", n, s, layers, size(s))
		}
	}
}

func TestPromise28BestIsNoWorseThanTheFirstSteps(t *testing.T) {
	c := farCalls{stepCalls{ringCalls{t}}}
	for n, k := range eachBest() {
		best, first := c.best(n, k), 1<<(k+1)-2
		if !impl.StepIn(n, best) || size(best) != k {
			t.Fatalf("FarBest(%d, %d) = %d: not so many steps", n, k, best)
		}
		if c.most(n, best) > c.most(n, first) {
			t.Fatalf("FarBest(%d, %d) = %d, distance %d, but %d by %d", n, k, best, c.most(n, best), c.most(n, first), first)
		}
	}
}

func TestPromise29TurnedIsListOfTurn(t *testing.T) {
	c := farCalls{stepCalls{ringCalls{t}}}
	for n, s := range eachSteps() {
		for m := range n {
			if _, ok := impl.FarTurned(n, s, m); !ok {
				continue
			}
			if got, want := c.turnedList(n, s, m), c.list(n, c.turn(n, s, m)); !slices.Equal(got, want) {
				t.Fatalf("FarTurned(%d, %d, %d) = %v, FarList of RingTurn %v", n, s, m, got, want)
			}
		}
	}
}

func TestPromise31NoWaysWhereNoWayLeads(t *testing.T) {
	c := farCalls{stepCalls{ringCalls{t}}}
	for n, s := range eachSteps() {
		ways, list := c.ways(n, s), c.list(n, s)
		for v := range n {
			if ways[v] < 0 || (ways[v] == 0) != (list[v] == -1) {
				t.Fatalf("FarWays(%d, %d) = %v, FarList %v: place %d", n, s, ways, list, v)
			}
		}
	}
}
