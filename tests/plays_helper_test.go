package tests

import (
	"iter"
	"slices"
	"testing"

	"loop.example/ringsofsteps/impl"
)

// mostOrdered is the greatest ring for PlayOrder.
const mostOrdered = 9

// The playCalls call functions of chapter 8 as the diffCalls, which they embed, call those of chapter 7.
type playCalls struct {
	diffCalls
}

func newPlayCalls(t *testing.T) playCalls {
	return playCalls{newDiffCalls(t)}
}

func (c playCalls) playAll(n int) []int {
	got, ok := impl.PlayAll(n)
	c.must("PlayAll", ok, n)
	return got
}

func (c playCalls) playThree(n, s int) int {
	got, ok := impl.PlayThree(n, s)
	c.must("PlayThree", ok, n, s)
	return got
}

func (c playCalls) playTwice(n, s int) int {
	got, ok := impl.PlayTwice(n, s)
	c.must("PlayTwice", ok, n, s)
	return got
}

func (c playCalls) playEqual(n, s int) int {
	got, ok := impl.PlayEqual(n, s)
	c.must("PlayEqual", ok, n, s)
	return got
}

func (c playCalls) playClasses(n int) int {
	got, ok := impl.PlayClasses(n)
	c.must("PlayClasses", ok, n)
	return got
}

func (c playCalls) playOrder(n, s int) []int {
	got, ok := impl.PlayOrder(n, s)
	c.must("PlayOrder", ok, n, s)
	c.oneForEachPlace("PlayOrder", got, n, s)
	return got
}

// playRings returns the rings that have plays.
func playRings() []int {
	return []int{3, 5, 7, 9, 11}
}

// eachPlay yields every ring that has plays with every play of it.
func eachPlay() iter.Seq2[int, int] {
	return func(yield func(int, int) bool) {
		for n, set := range eachSet() {
			if isPlayByWords(n, set) && !yield(n, set) {
				return
			}
		}
	}
}

// playsOf returns all plays of a ring.
func playsOf(n int) []int {
	var list []int
	for of, s := range eachPlay() {
		if of == n {
			list = append(list, s)
		}
	}
	return list
}

// eachOrderedPlay yields the plays of every ring that is small enough for PlayOrder.
func eachOrderedPlay() iter.Seq2[int, int] {
	return func(yield func(int, int) bool) {
		for n, s := range eachPlay() {
			if n <= mostOrdered && !yield(n, s) {
				return
			}
		}
	}
}

// The functions from here on follow the words of chapter 8; the tests hold the program against them.

func isPlayByWords(n, set int) bool {
	if n < 3 || n%2 == 0 || set&1 == 1 {
		return false
	}
	for v := 1; v < n; v++ {
		there, back := set>>v&1, set>>place(n, -v)&1
		if there+back != 1 {
			return false
		}
	}
	return true
}

// threesBySearch goes through all sets of three places.
func threesBySearch(n, s int) int {
	to, _ := arcsOf(n, s)
	count := 0
	for set := range 1 << n {
		if size(set) == 3 && eachBeatsAnother(set, to) {
			count++
		}
	}
	return count
}

func eachBeatsAnother(set int, to []int) bool {
	for _, v := range placesOf(set) {
		if to[v]&set == 0 {
			return false
		}
	}
	return true
}

// twiceByArcs goes along one arc from 0, and along two.
func twiceByArcs(n, s int) int {
	to, _ := arcsOf(n, s)
	beaten := to[0]
	for _, v := range placesOf(to[0]) {
		beaten |= to[v]
	}
	return beaten &^ 1
}

// equalByArcs asks of each two different places which ones they beat in common.
func equalByArcs(n, s int) (int, bool) {
	to, _ := arcsOf(n, s)
	common := size(to[0] & to[1])
	for v := range n {
		for w := range v {
			if size(to[v]&to[w]) != common {
				return 0, false
			}
		}
	}
	return common, true
}

// classesBySearch takes all plays out that turns by units make of one play, until none is left.
func classesBySearch(n int) int {
	classes := 0
	for left := playsOf(n); len(left) > 0; classes++ {
		first := left[0]
		left = slices.DeleteFunc(left, func(s int) bool {
			for _, u := range unitsOf(n) {
				if turned(n, first, u) == s {
					return true
				}
			}
			return false
		})
	}
	return classes
}

// orderBySearch goes through all lists of all places; those that begin with 0 are the first ones, and one of them is always found.
func orderBySearch(n, s int) []int {
	for list := range ordersOf(n) {
		if goesAlongArcs(n, s, list) {
			return slices.Clone(list)
		}
	}
	return nil
}

// goesAlongArcs reports whether each place of a list but the last one beats the next one.
func goesAlongArcs(n, s int, list []int) bool {
	for i := 1; i < len(list); i++ {
		if !leads(n, s, list[i-1], list[i]) {
			return false
		}
	}
	return true
}
