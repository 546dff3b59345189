package tests

import (
	"iter"
	"math"
	"math/bits"
	"testing"

	"loop.example/ringsofsteps/impl"
)

// ringCalls calls functions of chapter 1 with valid arguments; the test ends if one of them fails.
type ringCalls struct {
	t *testing.T
}

func (c ringCalls) must(name string, ok bool, arguments ...int) {
	if !ok {
		c.t.Helper()
		c.t.Fatalf("%s%v failed", name, arguments)
	}
}

func (c ringCalls) shift(n, set, k int) int {
	got, ok := impl.RingShift(n, set, k)
	c.must("RingShift", ok, n, set, k)
	return got
}

func (c ringCalls) turn(n, set, m int) int {
	got, ok := impl.RingTurn(n, set, m)
	c.must("RingTurn", ok, n, set, m)
	return got
}

func (c ringCalls) sum(n, a, b int) int {
	got, ok := impl.RingSum(n, a, b)
	c.must("RingSum", ok, n, a, b)
	return got
}

func (c ringCalls) counts(n, a, b int) []int {
	got, ok := impl.RingCounts(n, a, b)
	c.must("RingCounts", ok, n, a, b)
	if len(got) != n {
		c.t.Fatalf("RingCounts(%d, %d, %d) = %v: not one number for each place", n, a, b, got)
	}
	return got
}

func (c ringCalls) minus(n, a, b int) int {
	got, ok := impl.RingMinus(n, a, b)
	c.must("RingMinus", ok, n, a, b)
	return got
}

func (c ringCalls) holds(n, set int) int {
	got, ok := impl.RingHolds(n, set)
	c.must("RingHolds", ok, n, set)
	return got
}

func (c ringCalls) units(n int) int {
	got, ok := impl.RingUnits(n)
	c.must("RingUnits", ok, n)
	return got
}

func (c ringCalls) least(n, set int) int {
	got, ok := impl.RingLeast(n, set)
	c.must("RingLeast", ok, n, set)
	return got
}

func (c ringCalls) first(n, set int) int {
	got, ok := impl.RingFirst(n, set)
	c.must("RingFirst", ok, n, set)
	return got
}

func (c ringCalls) classes(n int) int {
	got, ok := impl.RingClasses(n)
	c.must("RingClasses", ok, n)
	return got
}

// eachSet yields every ring with every set of it.
func eachSet() iter.Seq2[int, int] {
	return func(yield func(int, int) bool) {
		for n := 1; n <= impl.RingMax; n++ {
			for set := range 1 << n {
				if !yield(n, set) {
					return
				}
			}
		}
	}
}

type ringPair struct {
	n, a, b int
}

// eachPair yields every ring with all pairs of sets if it is small, and otherwise every set with some others.
func eachPair() iter.Seq[ringPair] {
	return func(yield func(ringPair) bool) {
		for n, a := range eachSet() {
			for _, b := range partners(n, a) {
				if !yield(ringPair{n, a, b}) {
					return
				}
			}
		}
	}
}

func partners(n, a int) []int {
	var list []int
	if n <= 7 {
		for b := range 1 << n {
			list = append(list, b)
		}
		return list
	}
	all := 1<<n - 1
	list = append(list, a, all^a, shifted(n, a, 1), turned(n, a, -1))
	for k := 0; k <= n; k++ {
		list = append(list, 1<<k-1) // runs of places, which have few sums with each other
	}
	for d := 2; d < n; d++ {
		if n%d == 0 {
			list = append(list, multiples(n, d)) // these hold themselves, so that sums of them are as small as may be
		}
	}
	for x := a; len(list) < 40; {
		x = (x*1103515245 + 12345) & math.MaxInt32
		list = append(list, x>>8&all)
	}
	return list
}

func multiples(n, d int) int {
	set := 0
	for v := 0; v < n; v += d {
		set |= 1 << v
	}
	return set
}

// The functions from here on follow the words of the document place by place; the tests hold the program against them.

func size(set int) int {
	return bits.OnesCount(uint(set))
}

func placesOf(set int) []int {
	var list []int
	for v := range impl.RingMax {
		if set&(1<<v) != 0 {
			list = append(list, v)
		}
	}
	return list
}

func place(n, v int) int {
	for v < 0 {
		v += n
	}
	return v % n
}

func shifted(n, set, k int) int {
	moved := 0
	for _, v := range placesOf(set) {
		moved |= 1 << place(n, v+k)
	}
	return moved
}

func turned(n, set, m int) int {
	moved := 0
	for _, v := range placesOf(set) {
		moved |= 1 << place(n, v*m)
	}
	return moved
}

func waysOfSums(n, a, b int) []int {
	ways := make([]int, n)
	for _, v := range placesOf(a) {
		for _, w := range placesOf(b) {
			ways[place(n, v+w)]++
		}
	}
	return ways
}

func sums(n, a, b int) int {
	set := 0
	for v, ways := range waysOfSums(n, a, b) {
		if ways > 0 {
			set |= 1 << v
		}
	}
	return set
}

func differences(n, a, b int) int {
	set := 0
	for _, v := range placesOf(a) {
		for _, w := range placesOf(b) {
			set |= 1 << place(n, v-w)
		}
	}
	return set
}

func isUnit(n, v int) bool {
	for d := 2; d <= n; d++ {
		if n%d == 0 && v%d == 0 {
			return false
		}
	}
	return true
}

func unitsOf(n int) []int {
	var list []int
	for v := range n {
		if isUnit(n, v) {
			list = append(list, v)
		}
	}
	return list
}

// likesOf returns all sets that are alike to a set, some of them more than once.
func likesOf(n, set int) []int {
	var list []int
	for _, u := range unitsOf(n) {
		for k := range n {
			list = append(list, shifted(n, turned(n, set, u), k))
		}
	}
	return list
}

func isPrime(n int) bool {
	return n > 1 && len(unitsOf(n)) == n-1
}
