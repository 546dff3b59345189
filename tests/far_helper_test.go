package tests

import (
	"iter"
	"slices"

	"loop.example/ringsofsteps/impl"
)

// The farCalls call functions of chapter 3 as the stepCalls, which they embed, call those of chapter 2.
type farCalls struct {
	stepCalls
}

func (c farCalls) list(n, s int) []int {
	got, ok := impl.FarList(n, s)
	c.must("FarList", ok, n, s)
	c.oneForEachPlace("FarList", got, n, s)
	return got
}

func (c farCalls) most(n, s int) int {
	got, ok := impl.FarMost(n, s)
	c.must("FarMost", ok, n, s)
	return got
}

func (c farCalls) total(n, s int) int {
	got, ok := impl.FarSum(n, s)
	c.must("FarSum", ok, n, s)
	return got
}

func (c farCalls) ways(n, s int) []int {
	got, ok := impl.FarWays(n, s)
	c.must("FarWays", ok, n, s)
	c.oneForEachPlace("FarWays", got, n, s)
	return got
}

func (c farCalls) word(n, s, v int) []int {
	got, ok := impl.FarWord(n, s, v)
	c.must("FarWord", ok, n, s, v)
	return got
}

func (c farCalls) layers(n, s int) []int {
	got, ok := impl.FarLayers(n, s)
	c.must("FarLayers", ok, n, s)
	return got
}

func (c farCalls) best(n, k int) int {
	got, ok := impl.FarBest(n, k)
	c.must("FarBest", ok, n, k)
	return got
}

func (c farCalls) turnedList(n, s, m int) []int {
	got, ok := impl.FarTurned(n, s, m)
	c.must("FarTurned", ok, n, s, m)
	c.oneForEachPlace("FarTurned", got, n, s, m)
	return got
}

// oneForEachPlace ends the test if a list is too short or too long; the ring is the first one of the arguments.
func (c farCalls) oneForEachPlace(name string, list []int, arguments ...int) {
	if len(list) != arguments[0] {
		c.t.Helper()
		c.t.Fatalf("%s%v = %v: not one number for each place", name, arguments, list)
	}
}

// leadEverywhere reports whether ways lead from 0 to all places.
func leadEverywhere(n, s int) bool {
	return reached(n, s)[0] == 1<<n-1
}

// eachBest yields every ring and number of steps for which the document tells FarBest.
func eachBest() iter.Seq2[int, int] {
	return func(yield func(int, int) bool) {
		for n := 2; n <= 9; n++ {
			for k := 1; k <= n-1; k++ {
				if !yield(n, k) {
					return
				}
			}
		}
	}
}

// The functions from here on follow the words of chapter 3; the tests hold the program against them.

// shortest is what the document asks of the words of a place with the fewest steps; the distance is -1 if there are none.
type shortest struct {
	distance, ways int
	first          []int
}

// shortestWords goes through all lists of steps, shorter ones first and those of one length in order, until each place that ways lead to has a word.
func shortestWords(n, s int) []shortest {
	found := make([]shortest, n)
	for v := range found {
		found[v].distance = -1
	}
	left := size(reached(n, s)[0])
	for length := 0; left > 0; length++ {
		for list := range listsOf(placesOf(s), length) {
			x := &found[end(n, list)]
			if x.distance < 0 {
				*x = shortest{distance: length, first: slices.Clone(list)}
				left--
			}
			if x.distance == length {
				x.ways++
			}
		}
	}
	return found
}

// listsOf yields all lists of a length, in order; a list is to be used before the next one.
func listsOf(numbers []int, length int) iter.Seq[[]int] {
	return func(yield func([]int) bool) {
		extend(nil, numbers, length, yield)
	}
}

func extend(list, numbers []int, length int, yield func([]int) bool) bool {
	if length == 0 {
		return yield(list)
	}
	for _, x := range numbers {
		if !extend(append(list, x), numbers, length-1, yield) {
			return false
		}
	}
	return true
}

// end returns the place to which steps add up.
func end(n int, list []int) int {
	total := 0
	for _, step := range list {
		total += step
	}
	return place(n, total)
}

func distancesOf(words []shortest) []int {
	list := make([]int, len(words))
	for v, x := range words {
		list[v] = x.distance
	}
	return list
}

// bestBySearch goes through all sets of k steps with which ways lead everywhere, and keeps the least one of those with the least greatest distance.
func bestBySearch(n, k int) int {
	best, least := 0, n
	for s := range 1 << n {
		if s&1 == 1 || size(s) != k || !leadEverywhere(n, s) {
			continue
		}
		if most := slices.Max(distancesOf(shortestWords(n, s))); most < least {
			best, least = s, most
		}
	}
	return best
}
