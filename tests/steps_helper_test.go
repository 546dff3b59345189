package tests

import (
	"iter"

	"loop.example/ringsofsteps/impl"
)

// The stepCalls call functions of chapter 2 as the ringCalls, which they embed, call those of chapter 1.
type stepCalls struct {
	ringCalls
}

func (c stepCalls) both(n, s int) int {
	got, ok := impl.StepBoth(n, s)
	c.must("StepBoth", ok, n, s)
	return got
}

func (c stepCalls) other(n, s int) int {
	got, ok := impl.StepOther(n, s)
	c.must("StepOther", ok, n, s)
	return got
}

func (c stepCalls) next(n, s, v int) int {
	got, ok := impl.StepNext(n, s, v)
	c.must("StepNext", ok, n, s, v)
	return got
}

func (c stepCalls) part(n, s int) int {
	got, ok := impl.StepPart(n, s)
	c.must("StepPart", ok, n, s)
	return got
}

func (c stepCalls) parts(n, s int) int {
	got, ok := impl.StepParts(n, s)
	c.must("StepParts", ok, n, s)
	return got
}

func (c stepCalls) cuts(n, s, set int) int {
	got, ok := impl.StepCuts(n, s, set)
	c.must("StepCuts", ok, n, s, set)
	return got
}

// eachSteps yields every ring with all steps of it, no steps among them.
func eachSteps() iter.Seq2[int, int] {
	return func(yield func(int, int) bool) {
		for n, set := range eachSet() {
			if set&1 == 0 && !yield(n, set) {
				return
			}
		}
	}
}

// allSteps returns the steps that are all places but 0.
func allSteps(n int) int {
	return 1<<n - 2
}

// The functions from here on follow the words of chapter 2 place by place; the tests hold the program against them.

// arcs yields the two places of each arc.
func arcs(n, s int) iter.Seq2[int, int] {
	return func(yield func(int, int) bool) {
		for v := range n {
			for _, step := range placesOf(s) {
				if !yield(v, place(n, v+step)) {
					return
				}
			}
		}
	}
}

// reached returns, for each place, the set of all places to which ways lead from it, itself among them.
func reached(n, s int) []int {
	sets := make([]int, n)
	for v := range sets {
		sets[v] = 1 << v
	}
	for grown := true; grown; {
		grown = false
		for from, to := range arcs(n, s) {
			if more := sets[from] | sets[to]; more != sets[from] {
				sets[from] = more
				grown = true
			}
		}
	}
	return sets
}

// joinedClasses counts the places that are joined with none that is less.
func joinedClasses(n, s int) int {
	sets := reached(n, s)
	classes := 0
	for v := range n {
		first := true
		for w := range v {
			there, back := sets[v]&(1<<w) != 0, sets[w]&(1<<v) != 0
			first = first && !(there && back)
		}
		if first {
			classes++
		}
	}
	return classes
}

// hasTwoColours tries all ways to give two colours: the places of one of them are a set.
func hasTwoColours(n, s int) bool {
	for colour := range 1 << n {
		if differ(n, s, colour) {
			return true
		}
	}
	return false
}

func differ(n, s, colour int) bool {
	for from, to := range arcs(n, s) {
		if colour>>from&1 == colour>>to&1 {
			return false
		}
	}
	return true
}

// cutArcs counts the arcs from places of a set to places of another one.
func cutArcs(n, s, set, others int) int {
	count := 0
	for from, to := range arcs(n, s) {
		if set&(1<<from) != 0 && others&(1<<to) != 0 {
			count++
		}
	}
	return count
}
