package tests

import (
	"math"
	"slices"
	"testing"

	"loop.example/ringsofsteps/impl"
)

func checkRowFails(t *testing.T, n int, row []int) {
	t.Helper()
	checkShortRowFails(t, n, row)
	if got, ok := impl.ZeroSum(n, row); ok || got != 0 {
		t.Errorf("ZeroSum(%d, %v) = %d, %v", n, row, got, ok)
	}
	if got, ok := impl.ZeroFirst(n, row); ok || got != 0 {
		t.Errorf("ZeroFirst(%d, %v) = %d, %v", n, row, got, ok)
	}
	if got, ok := impl.ZeroCounts(n, row); ok || len(got) != 0 {
		t.Errorf("ZeroCounts(%d, %v) = %v, %v", n, row, got, ok)
	}
	if got, ok := impl.ZeroOf(n, row); ok || got != 0 {
		t.Errorf("ZeroOf(%d, %v) = %d, %v", n, row, got, ok)
	}
	if impl.ZeroPlain(n, row) {
		t.Errorf("ZeroPlain(%d, %v) holds", n, row)
	}
}

// checkShortRowFails asks the functions alone that are for rows of at most 8 places.
func checkShortRowFails(t *testing.T, n int, row []int) {
	t.Helper()
	if got, ok := impl.ZeroLeast(n, row); ok || len(got) != 0 {
		t.Errorf("ZeroLeast(%d, %v) = %v, %v", n, row, got, ok)
	}
	if got, ok := impl.ZeroParts(n, row); ok || got != 0 {
		t.Errorf("ZeroParts(%d, %v) = %d, %v", n, row, got, ok)
	}
}

func TestRowsWithoutRing(t *testing.T) {
	for _, n := range []int{0, -1, -2, -12, 13, 14, 63, 64, 65, 100, math.MaxInt, math.MaxInt - 1, math.MinInt, math.MinInt + 1} {
		checkRowFails(t, n, nil)
		for length := range mostInRow + 2 {
			checkRowFails(t, n, make([]int, length))
			checkRowFails(t, n, inOrder(length))
			checkRowFails(t, n, slices.Repeat([]int{1}, length))
		}
		for _, v := range append(numbersOutside(), n-1, n, -n) {
			checkRowFails(t, n, []int{v})
		}
	}
}

// TestRowsWithOtherNumbers puts a number that is no place at each position of rows of every length, plain ones and others.
func TestRowsWithOtherNumbers(t *testing.T) {
	for n := 1; n <= impl.RingMax; n++ {
		for length := 1; length <= mostInRow; length++ {
			for position := range length {
				for _, v := range numbersThatAreNoPlaces(n) {
					for _, row := range [][]int{make([]int, length), onesOf(n, length)} {
						row[position] = v
						checkRowFails(t, n, row)
					}
				}
			}
		}
	}
}

func numbersThatAreNoPlaces(n int) []int {
	numbers := append(numbersOutside(), -1, -n, n, n+1, 2*n, 1<<n, math.MaxInt, math.MinInt)
	return slices.DeleteFunc(numbers, func(v int) bool { return 0 <= v && v < n })
}

func onesOf(n, length int) []int {
	return rowBy(n, length, func(int) int { return 1 })
}

// TestLongRows gives 13 places and more, of which the first 12 alone are a row.
func TestLongRows(t *testing.T) {
	c := newZeroCalls(t)
	for n := 1; n <= impl.RingMax; n++ {
		for length := mostInRow + 1; length <= 70; length++ {
			for _, row := range [][]int{make([]int, length), onesOf(n, length), rowBy(n, length, func(i int) int { return i })} {
				checkRowFails(t, n, row)
				c.zeroSum(n, row[:mostInRow])
				c.zeroFirst(n, row[:mostInRow]) // 12 places are n at least, and so not plain
			}
		}
	}
}

// TestRowsTooLongForLeastChoices gives 9 to 12 places, which the other functions take.
func TestRowsTooLongForLeastChoices(t *testing.T) {
	c := newZeroCalls(t)
	for n, row := range eachRow() {
		if len(row) <= mostInShort {
			continue
		}
		checkShortRowFails(t, n, row)
		c.zeroSum(n, row)
		c.zeroLeast(n, row[:mostInShort])
		c.zeroParts(n, row[:mostInShort])
	}
}

func TestRowsJustInside(t *testing.T) {
	c := newZeroCalls(t)
	for _, n := range []int{1, impl.RingMax} {
		for _, length := range []int{0, 1, mostInShort, mostInShort + 1, mostInRow} {
			row := slices.Repeat([]int{n - 1}, length)
			c.zeroSum(n, row)
			c.zeroCounts(n, row)
			if length <= mostInShort {
				c.zeroLeast(n, row)
				c.zeroParts(n, row)
			}
		}
	}
}
