package tests

import (
	"iter"
	"testing"

	"loop.example/ringsofsteps/impl"
)

// The greatest ring for FreeColours and FreeWays, and the greatest number of colours for FreeWays.
const (
	mostPainted = 8
	mostColours = 4
)

// The freeCalls call functions of chapter 6 as the roundCalls, which they embed, call those of chapter 5.
type freeCalls struct {
	roundCalls
}

func newFreeCalls(t *testing.T) freeCalls {
	return freeCalls{newRoundCalls(t)}
}

func (c freeCalls) freeMost(n, s int) int {
	got, ok := impl.FreeMost(n, s)
	c.must("FreeMost", ok, n, s)
	return got
}

func (c freeCalls) freeMany(n, s int) int {
	got, ok := impl.FreeMany(n, s)
	c.must("FreeMany", ok, n, s)
	return got
}

func (c freeCalls) freeFull(n, s int) int {
	got, ok := impl.FreeFull(n, s)
	c.must("FreeFull", ok, n, s)
	return got
}

func (c freeCalls) freeColours(n, s int) int {
	got, ok := impl.FreeColours(n, s)
	c.must("FreeColours", ok, n, s)
	return got
}

func (c freeCalls) freeWays(n, s, k int) int {
	got, ok := impl.FreeWays(n, s, k)
	c.must("FreeWays", ok, n, s, k)
	return got
}

func (c freeCalls) freeWatch(n, s int) int {
	got, ok := impl.FreeWatch(n, s)
	c.must("FreeWatch", ok, n, s)
	return got
}

func (c freeCalls) freeNeat(n, s int) []int {
	got, ok := impl.FreeNeat(n, s)
	c.must("FreeNeat", ok, n, s)
	return got
}

func (c freeCalls) freeSumless(n int) int {
	got, ok := impl.FreeSumless(n)
	c.must("FreeSumless", ok, n)
	return got
}

// eachPaintedSteps yields the steps of every ring that is small enough for colours.
func eachPaintedSteps() iter.Seq2[int, int] {
	return func(yield func(int, int) bool) {
		for n, s := range eachSteps() {
			if n <= mostPainted && !yield(n, s) {
				return
			}
		}
	}
}

// The functions from here on follow the words of chapter 6; the tests hold the program against them.

// arcsOf returns, for each place, the set of all places to which arcs lead from it, and the set of those from which they lead to it.
func arcsOf(n, s int) (to, from []int) {
	to, from = make([]int, n), make([]int, n)
	for v, w := range arcs(n, s) {
		to[v] |= 1 << w
		from[w] |= 1 << v
	}
	return to, from
}

// freeFound is what the document asks of all sets of a ring by some steps.
type freeFound struct {
	most, many, full, watch int
	neat                    []int
}

func freeBySearch(n, s int) freeFound {
	to, from := arcsOf(n, s)
	found := freeFound{watch: n + 1}
	for set := range 1 << n {
		if isFreeByArcs(n, set, to) {
			found.most = max(found.most, size(set))
			found.many++
		}
		if isFullByArcs(n, set, to, from) {
			found.full = max(found.full, size(set))
		}
		if watchesByArcs(n, set, from) {
			found.watch = min(found.watch, size(set))
		}
		if isNeatByArcs(n, set, from) {
			found.neat = append(found.neat, set)
		}
	}
	return found
}

func isFreeByArcs(n, set int, to []int) bool {
	for v := range n {
		if set>>v&1 == 1 && set&to[v] != 0 {
			return false
		}
	}
	return true
}

func isFullByArcs(n, set int, to, from []int) bool {
	for v := range n {
		others := set &^ (1 << v)
		if set>>v&1 == 1 && others&^(to[v]|from[v]) != 0 {
			return false
		}
	}
	return true
}

func watchesByArcs(n, set int, from []int) bool {
	for v := range n {
		if set>>v&1 == 0 && set&from[v] == 0 {
			return false
		}
	}
	return true
}

// isNeatByArcs counts the places of a set from which an arc leads to each place: none if it is in the set, and otherwise one.
func isNeatByArcs(n, set int, from []int) bool {
	for v := range n {
		if set>>v&1+size(set&from[v]) != 1 {
			return false
		}
	}
	return true
}

// waysBySearch goes through all lists of one of k colours for each place.
func waysBySearch(n, s, k int) int {
	colours := make([]int, k)
	for c := range colours {
		colours[c] = c
	}
	edges, ways := edgesOf(n, s), 0
	for list := range listsOf(colours, n) {
		if isFair(list, edges) {
			ways++
		}
	}
	return ways
}

func isFair(colours []int, edges []edge) bool {
	for _, e := range edges {
		if colours[e.low] == colours[e.high] {
			return false
		}
	}
	return true
}

// coloursBySets takes the places of one colour after the other out of a set: each time a free set that has the least place left.
func coloursBySets(n, set int, to []int) int {
	if set == 0 {
		return 0
	}
	least := n
	for colour := range set + 1 {
		if colour&^set == 0 && colour&set&-set != 0 && isFreeByArcs(n, colour, to) {
			least = min(least, 1+coloursBySets(n, set&^colour, to))
		}
	}
	return least
}

// sumlessBySearch goes through all sets, and through all pairs of their places.
func sumlessBySearch(n int) int {
	most := 0
	for set := range 1 << n {
		if isSumlessByPlaces(n, set) {
			most = max(most, size(set))
		}
	}
	return most
}

func isSumlessByPlaces(n, set int) bool {
	for _, v := range placesOf(set) {
		for _, w := range placesOf(set) {
			if set>>place(n, v+w)&1 == 1 {
				return false
			}
		}
	}
	return true
}
