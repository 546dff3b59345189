package tests

import (
	"iter"
	"math"
	"math/bits"
	"slices"
	"testing"

	"loop.example/ringsofsteps/impl"
)

// mostInRow is the greatest length of a row, and mostInShort that of a row for ZeroLeast and ZeroParts.
const (
	mostInRow   = 12
	mostInShort = 8
)

// The zeroCalls call functions of chapter 9 as the playCalls, which they embed, call those of chapter 8.
type zeroCalls struct {
	playCalls
}

func newZeroCalls(t *testing.T) zeroCalls {
	return zeroCalls{newPlayCalls(t)}
}

func (c zeroCalls) mustRow(name string, ok bool, n int, row []int) {
	c.t.Helper()
	c.must(name, ok, append([]int{n}, row...)...)
}

func (c zeroCalls) zeroSum(n int, row []int) int {
	got, ok := impl.ZeroSum(n, row)
	c.mustRow("ZeroSum", ok, n, row)
	return got
}

func (c zeroCalls) zeroFirst(n int, row []int) int {
	got, ok := impl.ZeroFirst(n, row)
	c.mustRow("ZeroFirst", ok, n, row)
	return got
}

func (c zeroCalls) zeroCounts(n int, row []int) []int {
	got, ok := impl.ZeroCounts(n, row)
	c.mustRow("ZeroCounts", ok, n, row)
	if len(got) != n {
		c.t.Fatalf("ZeroCounts(%d, %v) = %v: not one number for each place", n, row, got)
	}
	return got
}

func (c zeroCalls) zeroOf(n int, row []int) int {
	got, ok := impl.ZeroOf(n, row)
	c.mustRow("ZeroOf", ok, n, row)
	return got
}

func (c zeroCalls) zeroLeast(n int, row []int) []int {
	got, ok := impl.ZeroLeast(n, row)
	c.mustRow("ZeroLeast", ok, n, row)
	return got
}

func (c zeroCalls) zeroParts(n int, row []int) int {
	got, ok := impl.ZeroParts(n, row)
	c.mustRow("ZeroParts", ok, n, row)
	return got
}

// eachRow yields every ring with rows of every length: all of them if they are few, and otherwise some. A row is to be used before the next one.
func eachRow() iter.Seq2[int, []int] {
	return func(yield func(int, []int) bool) {
		for n := 1; n <= impl.RingMax; n++ {
			for length := range mostInRow + 1 {
				for row := range rowsOf(n, length) {
					if !yield(n, row) {
						return
					}
				}
			}
		}
	}
}

// eachShortRow yields the rows that are short enough for ZeroLeast and ZeroParts.
func eachShortRow() iter.Seq2[int, []int] {
	return func(yield func(int, []int) bool) {
		for n, row := range eachRow() {
			if len(row) <= mostInShort && !yield(n, row) {
				return
			}
		}
	}
}

func rowsOf(n, length int) iter.Seq[[]int] {
	if power(n, length) <= 1000 {
		return listsOf(inOrder(n), length)
	}
	return slices.Values(someRows(n, length))
}

func someRows(n, length int) [][]int {
	var rows [][]int
	for v := range n {
		rows = append(rows, slices.Repeat([]int{v}, length))
	}
	for _, follow := range []func(i int) int{
		func(i int) int { return i },
		func(i int) int { return -i },
		func(i int) int { return i + 1 },
		func(i int) int { return i * i },
		func(i int) int { return i % 2 },
		func(i int) int { return 1 - i%2*2 },
		// Zeros, one less than n, and then ones: the longest row without n places of the sum 0 begins so.
		func(i int) int { return min(1, i/max(1, n-1)) },
	} {
		rows = append(rows, rowBy(n, length, follow))
	}
	x := n*100 + length
	for len(rows) < 30 {
		rows = append(rows, rowBy(n, length, func(int) int {
			x = (x*1103515245 + 12345) & math.MaxInt32
			return x >> 8
		}))
	}
	return rows
}

func rowBy(n, length int, follow func(i int) int) []int {
	row := make([]int, length)
	for i := range row {
		row[i] = place(n, follow(i))
	}
	return row
}

// The functions from here on follow the words of chapter 9; the tests hold the program against them.

// picked returns the places at the positions of a choice.
func picked(row []int, choice int) []int {
	var list []int
	for _, position := range placesOf(choice) {
		list = append(list, row[position])
	}
	return list
}

func sumPicked(n int, row []int, choice int) int {
	return end(n, picked(row, choice))
}

// zerosBySearch goes through all choices but the empty one.
func zerosBySearch(n int, row []int) []int {
	var zeros []int
	for choice := 1; choice < 1<<len(row); choice++ {
		if sumPicked(n, row, choice) == 0 {
			zeros = append(zeros, choice)
		}
	}
	return zeros
}

func countsBySearch(n int, row []int) []int {
	ways := make([]int, n)
	for choice := range 1 << len(row) {
		ways[sumPicked(n, row, choice)]++
	}
	return ways
}

// ofSize returns the first choice of so many positions, 0 if there is none.
func ofSize(zeros []int, positions int) int {
	for _, choice := range zeros {
		if bits.OnesCount(uint(choice)) == positions {
			return choice
		}
	}
	return 0
}

// leastOf returns the choices of which no other one is a part.
func leastOf(zeros []int) []int {
	var least []int
	for _, choice := range zeros {
		if !slices.ContainsFunc(zeros, func(part int) bool { return part != choice && part|choice == choice }) {
			least = append(least, choice)
		}
	}
	return least
}

// partsBySearch takes choices out of the positions that are left, one after the other, in all ways.
func partsBySearch(zeros []int, length int) int {
	most := make([]int, 1<<length)
	for left := range most {
		for _, choice := range zeros {
			if choice|left == left {
				most[left] = max(most[left], 1+most[left&^choice])
			}
		}
	}
	return most[1<<length-1]
}
