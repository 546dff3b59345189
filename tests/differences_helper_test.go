package tests

import (
	"iter"
	"testing"

	"loop.example/ringsofsteps/impl"
)

// The diffCalls call functions of chapter 7 as the freeCalls, which they embed, call those of chapter 6.
type diffCalls struct {
	freeCalls
}

func newDiffCalls(t *testing.T) diffCalls {
	return diffCalls{newFreeCalls(t)}
}

func (c diffCalls) diffTable(n, set int) []int {
	got, ok := impl.DiffTable(n, set)
	c.must("DiffTable", ok, n, set)
	c.oneForEachPlace("DiffTable", got, n, set)
	return got
}

func (c diffCalls) diffEven(n, set int) int {
	got, ok := impl.DiffEven(n, set)
	c.must("DiffEven", ok, n, set)
	return got
}

func (c diffCalls) diffFind(n, k int) int {
	got, ok := impl.DiffFind(n, k)
	c.must("DiffFind", ok, n, k)
	return got
}

func (c diffCalls) diffThinMost(n int) int {
	got, ok := impl.DiffThinMost(n)
	c.must("DiffThinMost", ok, n)
	return got
}

func (c diffCalls) diffWhole(n int) int {
	got, ok := impl.DiffWhole(n)
	c.must("DiffWhole", ok, n)
	return got
}

func (c diffCalls) diffCarries(n, set int) int {
	got, ok := impl.DiffCarries(n, set)
	c.must("DiffCarries", ok, n, set)
	return got
}

// eachFound yields every ring and every k for which DiffFind may succeed.
func eachFound() iter.Seq2[int, int] {
	return func(yield func(int, int) bool) {
		for n := 2; n <= impl.RingMax; n++ {
			for k := 1; k < n; k++ {
				if !yield(n, k) {
					return
				}
			}
		}
	}
}

// otherPlaces returns the set of all places that a set has not.
func otherPlaces(n, set int) int {
	return 1<<n - 1 - set
}

// The functions from here on follow the words of chapter 7; the tests hold the program against them.

// differencesOf returns the differences of a set, one for each two different places of it and each order of them.
func differencesOf(n, set int) []int {
	var list []int
	for _, v := range placesOf(set) {
		for _, w := range placesOf(set) {
			if v != w {
				list = append(list, place(n, v-w))
			}
		}
	}
	return list
}

// waysOfDifferences returns, for each place, the number of ways in which it is a difference: none for 0.
func waysOfDifferences(n, set int) []int {
	ways := make([]int, n)
	for _, v := range differencesOf(n, set) {
		ways[v]++
	}
	return ways
}

func evenByWords(n, set int) (int, bool) {
	if n < 2 {
		return 0, false
	}
	ways := waysOfDifferences(n, set)
	for v := 1; v < n; v++ {
		if ways[v] != ways[1] {
			return 0, false
		}
	}
	return ways[1], true
}

// isThinByWords reports whether no two of the differences are the same.
func isThinByWords(n, set int) bool {
	list := differencesOf(n, set)
	return size(setOf(list)) == len(list)
}

func isWholeByWords(n, set int) bool {
	return set != 0 && setOf(differencesOf(n, set))|1 == 1<<n-1
}

func carriersByWords(n, set int) int {
	carriers := 0
	for _, u := range unitsOf(n) {
		for k := range n {
			if turned(n, set, u) == shifted(n, set, k) {
				carriers |= 1 << u
			}
		}
	}
	return carriers
}
