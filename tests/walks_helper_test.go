package tests

import (
	"iter"
	"math"

	"loop.example/ringsofsteps/impl"
)

// The greatest numbers of arcs for WalkCounts and WalkClosed, for WalkSet and for WalkSquares, and the greatest ring for WalkTrees.
const (
	mostCounted = 10
	mostLed     = 100
	mostSquared = 5
	mostTrees   = 11
)

// The walkCalls call functions of chapter 4 as the farCalls, which they embed, call those of chapter 3.
type walkCalls struct {
	farCalls
}

func (c walkCalls) counts(n, s, k int) []int {
	got, ok := impl.WalkCounts(n, s, k)
	c.must("WalkCounts", ok, n, s, k)
	c.oneForEachPlace("WalkCounts", got, n, s, k)
	return got
}

func (c walkCalls) closed(n, s, k int) int {
	got, ok := impl.WalkClosed(n, s, k)
	c.must("WalkClosed", ok, n, s, k)
	return got
}

func (c walkCalls) led(n, s, k int) int {
	got, ok := impl.WalkSet(n, s, k)
	c.must("WalkSet", ok, n, s, k)
	return got
}

func (c walkCalls) full(n, s int) int {
	got, ok := impl.WalkFull(n, s)
	c.must("WalkFull", ok, n, s)
	return got
}

func (c walkCalls) turns(n, s int) int {
	got, ok := impl.WalkTurns(n, s)
	c.must("WalkTurns", ok, n, s)
	return got
}

func (c walkCalls) trees(n, s int) int {
	got, ok := impl.WalkTrees(n, s)
	c.must("WalkTrees", ok, n, s)
	return got
}

func (c walkCalls) squares(n, s, k int) int {
	got, ok := impl.WalkSquares(n, s, k)
	c.must("WalkSquares", ok, n, s, k)
	return got
}

// eachTreeSteps yields the steps of every ring that is small enough for WalkTrees.
func eachTreeSteps() iter.Seq2[int, int] {
	return func(yield func(int, int) bool) {
		for n, s := range eachSteps() {
			if n <= mostTrees && !yield(n, s) {
				return
			}
		}
	}
}

func power(x, k int) int {
	result := 1
	for range k {
		result *= x
	}
	return result
}

func total(list []int) int {
	added := 0
	for _, x := range list {
		added += x
	}
	return added
}

// The functions from here on follow the words of chapter 4; the tests hold the program against them.

// walksBySearch goes through all lists of k steps if they are few; if they are many, walks are put together from two halves, which meet at some place.
func walksBySearch(n, s, k int) []int {
	ways := make([]int, n)
	if power(size(s), k) <= 200 || k == 1 {
		for list := range listsOf(placesOf(s), k) {
			ways[end(n, list)]++
		}
		return ways
	}
	return together(walksBySearch(n, s, k/2), walksBySearch(n, s, k-k/2))
}

// together returns the number of walks that are one of the first ones followed by one of the second ones.
func together(first, second []int) []int {
	n := len(first)
	ways := make([]int, n)
	for v := range n {
		for w := range n {
			ways[place(n, v+w)] += first[v] * second[w]
		}
	}
	return ways
}

// ledBySearch returns, for k from 0 to most, the set of all places to which a walk of k arcs leads.
func ledBySearch(n, s, most int) []int {
	sets := []int{1}
	for k := range most {
		after := 0
		for from, to := range arcs(n, s) {
			if sets[k]&(1<<from) != 0 {
				after |= 1 << to
			}
		}
		sets = append(sets, after)
	}
	return sets
}

// fullBySearch is -1 if walks of no number of arcs lead to all places.
func fullBySearch(n, s int) int {
	for k, set := range ledBySearch(n, s, 60) {
		if set == 1<<n-1 {
			return k
		}
	}
	return -1
}

// turnsBySearch tries the numbers from the greatest one down. It is 0 for no steps, with which nothing leads back to 0.
func turnsBySearch(n, s int) int {
	var lengths []int
	for k, set := range ledBySearch(n, s, 60) {
		if k > 0 && set&1 == 1 {
			lengths = append(lengths, k)
		}
	}
	if len(lengths) == 0 {
		return 0
	}
	for divisor := lengths[0]; ; divisor-- {
		if dividesAll(divisor, lengths) {
			return divisor
		}
	}
}

func dividesAll(divisor int, numbers []int) bool {
	for _, x := range numbers {
		if x%divisor != 0 {
			return false
		}
	}
	return true
}

type edge struct {
	low, high int
}

// edgesOf returns each edge once, even if arcs lead along it both ways.
func edgesOf(n, s int) []edge {
	found := map[edge]bool{}
	for from, to := range arcs(n, s) {
		found[edge{min(from, to), max(from, to)}] = true
	}
	var list []edge
	for low := range n {
		for high := low + 1; high < n; high++ {
			if found[edge{low, high}] {
				list = append(list, edge{low, high})
			}
		}
	}
	return list
}

// treesBySearch goes through all sets of n - 1 edges.
func treesBySearch(n, s int) int {
	joined := make([]int, n)
	for v := range joined {
		joined[v] = 1 << v
	}
	return treesFrom(joined, edgesOf(n, s), n-1)
}

// treesFrom counts the sets of so many of the edges by which all places are joined, joined having for each place those joined with it by now.
func treesFrom(joined []int, edges []edge, more int) int {
	if more == 0 {
		if joined[0] == 1<<len(joined)-1 {
			return 1
		}
		return 0
	}
	if len(edges) < more {
		return 0
	}
	return treesFrom(joined, edges[1:], more) + treesFrom(joinedBy(joined, edges[0]), edges[1:], more-1)
}

func joinedBy(joined []int, e edge) []int {
	after := make([]int, len(joined))
	group := joined[e.low] | joined[e.high]
	for v := range after {
		after[v] = joined[v]
		if group&(1<<v) != 0 {
			after[v] = group
		}
	}
	return after
}

// treesByWaves is another road to the number of trees, for rings too big for a search:
// the product of what the matrix of edges makes of each wave around the ring but the flat one, over n.
func treesByWaves(n, s int) int {
	both := s | turned(n, s, -1)
	product := 1.0
	for wave := 1; wave < n; wave++ {
		factor := 0.0
		for _, step := range placesOf(both) {
			factor += 1 - math.Cos(2*math.Pi*float64(wave*step)/float64(n))
		}
		product *= factor
	}
	return int(math.Round(product / float64(n)))
}
