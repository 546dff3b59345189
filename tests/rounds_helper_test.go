package tests

import (
	"iter"
	"slices"
	"testing"

	"loop.example/ringsofsteps/impl"
)

// mostSearched is the greatest ring for RoundFirst and RoundMany.
const mostSearched = 9

// The roundCalls call functions of chapter 5 as the walkCalls, which they embed, call those of chapter 4.
type roundCalls struct {
	walkCalls
}

func newRoundCalls(t *testing.T) roundCalls {
	return roundCalls{newWalkCalls(t)}
}

func (c roundCalls) firstRound(n, s int) []int {
	got, ok := impl.RoundFirst(n, s)
	c.must("RoundFirst", ok, n, s)
	return got
}

func (c roundCalls) many(n, s int) int {
	got, ok := impl.RoundMany(n, s)
	c.must("RoundMany", ok, n, s)
	return got
}

func (c roundCalls) one(n, k int) int {
	got, ok := impl.RoundOne(n, k)
	c.must("RoundOne", ok, n, k)
	return got
}

func (c roundCalls) wordOf(n int, list []int) []int {
	got, ok := impl.RoundWord(n, list)
	c.must("RoundWord", ok, append([]int{n}, list...)...)
	c.oneForEachPlace("RoundWord", got, append([]int{n}, list...)...)
	return got
}

func (c roundCalls) roundBy(n int, word []int) []int {
	got, ok := impl.RoundBy(n, word)
	c.must("RoundBy", ok, append([]int{n}, word...)...)
	c.oneForEachPlace("RoundBy", got, append([]int{n}, word...)...)
	return got
}

// eachSearchedSteps yields the steps of every ring for which rounds are counted.
func eachSearchedSteps() iter.Seq2[int, int] {
	return func(yield func(int, int) bool) {
		for n, s := range eachSteps() {
			if n >= 2 && n <= mostSearched && !yield(n, s) {
				return
			}
		}
	}
}

// eachTwo yields every ring with two different places but 0.
func eachTwo() iter.Seq[ringPair] {
	return func(yield func(ringPair) bool) {
		for n := 2; n <= impl.RingMax; n++ {
			for a := 1; a < n; a++ {
				for b := 1; b < n; b++ {
					if a != b && !yield(ringPair{n, a, b}) {
						return
					}
				}
			}
		}
	}
}

// ordersOf yields all lists of all places that begin with 0, in order; a list is to be used before the next one.
func ordersOf(n int) iter.Seq[[]int] {
	return func(yield func([]int) bool) {
		orderOn([]int{0}, n, yield)
	}
}

func orderOn(list []int, n int, yield func([]int) bool) bool {
	if len(list) == n {
		return yield(list)
	}
	for v := range n {
		if !slices.Contains(list, v) && !orderOn(append(list, v), n, yield) {
			return false
		}
	}
	return true
}

// someOrders returns all lists of all places that begin with 0 if the ring is small, and otherwise those by one step and some others.
func someOrders(n int) [][]int {
	var orders [][]int
	if n <= 6 {
		for list := range ordersOf(n) {
			orders = append(orders, slices.Clone(list))
		}
		return orders
	}
	for _, u := range unitsOf(n) {
		orders = append(orders, alongWord(n, slices.Repeat([]int{u}, n)))
	}
	list := alongWord(n, slices.Repeat([]int{1}, n))
	for x := 1; len(orders) < 100; {
		for i := n - 1; i > 1; i-- {
			x = (x*1103515245 + 12345) & (1<<31 - 1)
			j := 1 + x>>8%i
			list[i], list[j] = list[j], list[i]
		}
		orders = append(orders, slices.Clone(list))
	}
	return orders
}

// brokenLists returns lists that are near to a list, most of which are no rounds.
func brokenLists(list []int) [][]int {
	last := len(list) - 1
	broken := [][]int{
		nil,
		list[:last],
		list[1:],
		append(slices.Clone(list), 0),
		append(slices.Clone(list), list[last]),
		append([]int{0}, list...),
		append(slices.Clone(list[1:]), 0), // begins elsewhere
	}
	for i := range list {
		for _, v := range append(numbersOutside(), 0, 1, list[last], len(list), len(list)+1, -len(list), list[i]+len(list), list[i]-len(list), 62, 63, 64, 65) {
			other := slices.Clone(list)
			other[i] = v
			broken = append(broken, other)
		}
	}
	return broken
}

// The functions from here on follow the words of chapter 5; the tests hold the program against them.

func isRoundByArcs(n, s int, list []int) bool {
	if n < 2 || len(list) != n || list[0] != 0 {
		return false
	}
	for v := range n {
		if !slices.Contains(list, v) {
			return false
		}
	}
	for i, v := range list {
		if !leads(n, s, v, list[(i+1)%n]) {
			return false
		}
	}
	return true
}

// leads reports whether an arc leads from one place to another one.
func leads(n, s, from, to int) bool {
	for _, step := range placesOf(s) {
		if place(n, from+step) == to {
			return true
		}
	}
	return false
}

// isWordByArcs reports whether steps that go on from 0 come to all places of a ring and back to 0.
func isWordByArcs(n int, word []int) bool {
	if n < 2 || len(word) != n {
		return false
	}
	for _, step := range word {
		if step < 1 || step > n-1 {
			return false
		}
	}
	return isRoundByArcs(n, allSteps(n), alongWord(n, word)) && end(n, word) == 0
}

// alongWord returns the list that begins with 0 and goes on by each step but the last one.
func alongWord(n int, word []int) []int {
	list := []int{0}
	for _, step := range word[:len(word)-1] {
		list = append(list, place(n, list[len(list)-1]+step))
	}
	return list
}

// alongList returns the steps of a round, found by trying all of them.
func alongList(n int, list []int) []int {
	var word []int
	for i, v := range list {
		for step := 1; step < n; step++ {
			if place(n, v+step) == list[(i+1)%n] {
				word = append(word, step)
			}
		}
	}
	return word
}

// setOf returns the set of all places that stand in a list.
func setOf(list []int) int {
	set := 0
	for _, v := range list {
		set |= 1 << v
	}
	return set
}

// rounds are those of some steps: how many there are, and the first one, nil if there is none.
type rounds struct {
	many  int
	first []int
}

// roundsBySearch goes through all lists of all places, for all steps of a ring at once; a list is a round by all steps that have its own ones.
func roundsBySearch(n int) map[int]rounds {
	own := map[int]rounds{}
	for list := range ordersOf(n) {
		s := setOf(alongList(n, list))
		if x := own[s]; x.many == 0 {
			own[s] = rounds{1, slices.Clone(list)}
		} else {
			own[s] = rounds{x.many + 1, x.first}
		}
	}
	found := map[int]rounds{}
	for s := 0; s < 1<<n; s += 2 {
		var x rounds
		for of, y := range own {
			if of&^s != 0 {
				continue
			}
			x.many += y.many
			if x.first == nil || slices.Compare(y.first, x.first) < 0 {
				x.first = y.first
			}
		}
		found[s] = x
	}
	return found
}

// twoBySearch goes through all lists of n steps each of which is one of two.
func twoBySearch(n, a, b int) bool {
	for word := range listsOf([]int{a, b}, n) {
		if isWordByArcs(n, word) {
			return true
		}
	}
	return false
}

// listOn returns the number of places of the list that goes on from a place by a step until it comes back.
func listOn(n, from, step int) int {
	count := 1
	for v := place(n, from+step); v != from; v = place(n, v+step) {
		count++
	}
	return count
}
