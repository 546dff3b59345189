package tests

import (
	"slices"
	"testing"

	"loop.example/ringsofsteps/impl"
)

// The tests of this file hold promises 74 to 83 of the document, one each.

func TestPromise74SumsBackwards(t *testing.T) {
	c := newZeroCalls(t)
	for n, row := range eachRow() {
		backwards := slices.Clone(row)
		slices.Reverse(backwards)
		if got := c.zeroSum(n, row); got != c.zeroSum(n, backwards) || got != total(row)%n {
			t.Errorf("ZeroSum(%d, %v) = %d, backwards %d", n, row, got, c.zeroSum(n, backwards))
		}
	}
}

func TestPromise75FirstChoicesHaveTheSum0(t *testing.T) {
	found := 0
	for n, row := range eachRow() {
		got, ok := impl.ZeroFirst(n, row)
		if !ok {
			continue
		}
		found++
		if got <= 0 || got >= 1<<len(row) {
			t.Fatalf("ZeroFirst(%d, %v) = %d: no choice, or the empty one", n, row, got)
		}
		if total(picked(row, got))%n != 0 || impl.ZeroPlain(n, row) {
			t.Errorf("ZeroFirst(%d, %v) = %d: sum %d, ZeroPlain %v", n, row, got, total(picked(row, got)), impl.ZeroPlain(n, row))
		}
	}
	if found == 0 {
		t.Error("no row has a choice with the sum 0")
	}
}

func TestPromise76FirstChoicesAmongTheFirstPositions(t *testing.T) {
	c := newZeroCalls(t)
	for n, row := range eachRow() {
		c.zeroCounts(n, row)
		if len(row) < n {
			continue
		}
		if got := c.zeroFirst(n, row); got >= 1<<n {
			t.Errorf("ZeroFirst(%d, %v) = %d: a position behind the first %d", n, row, got, n)
		}
	}
}

func TestPromise77CountsAddUp(t *testing.T) {
	c := newZeroCalls(t)
	for n, row := range eachRow() {
		got := c.zeroCounts(n, row)
		if total(got) != power(2, len(row)) || (got[0] == 1) != impl.ZeroPlain(n, row) {
			t.Errorf("ZeroCounts(%d, %v) = %v, ZeroPlain %v", n, row, got, impl.ZeroPlain(n, row))
		}
	}
}

func TestPromise78CountsWithoutTheLastPlace(t *testing.T) {
	c := newZeroCalls(t)
	for n, row := range eachRow() {
		if len(row) == 0 {
			continue
		}
		last := len(row) - 1
		without, want := c.zeroCounts(n, row[:last]), make([]int, n)
		for v, ways := range without {
			want[v] += ways
			want[place(n, v+row[last])] += ways
		}
		if got := c.zeroCounts(n, row); !slices.Equal(got, want) {
			t.Errorf("ZeroCounts(%d, %v) = %v, without the last place %v", n, row, got, without)
		}
	}
}

func TestPromise79ChoicesOfNPositions(t *testing.T) {
	found := 0
	for n, row := range eachRow() {
		got, ok := impl.ZeroOf(n, row)
		if !ok {
			continue
		}
		found++
		if got <= 0 || got >= 1<<len(row) {
			t.Fatalf("ZeroOf(%d, %v) = %d: no choice, or the empty one", n, row, got)
		}
		if size(got) != n || total(picked(row, got))%n != 0 {
			t.Errorf("ZeroOf(%d, %v) = %d: %d positions, sum %d", n, row, got, size(got), total(picked(row, got)))
		}
	}
	if found == 0 {
		t.Error("no row has a choice of n positions")
	}
}

func TestPromise80LongRowsHaveNPositions(t *testing.T) {
	c := newZeroCalls(t)
	for n, row := range eachRow() {
		c.zeroSum(n, row)
		if len(row) >= 2*n-1 {
			c.zeroOf(n, row)
		}
	}
}

func TestPromise81PlainRowsAreShort(t *testing.T) {
	c := newZeroCalls(t)
	found := 0
	for n, row := range eachRow() {
		if !impl.ZeroPlain(n, row) {
			continue
		}
		found++
		counts := c.zeroCounts(n, row)
		if len(row) >= n || placesWithChoice(counts) < len(row)+1 {
			t.Errorf("ZeroPlain(%d, %v) holds, ZeroCounts %v", n, row, counts)
		}
	}
	if found == 0 {
		t.Error("no row is plain")
	}
}

func placesWithChoice(counts []int) int {
	places := 0
	for _, ways := range counts {
		if ways > 0 {
			places++
		}
	}
	return places
}

func TestPromise82LeastChoices(t *testing.T) {
	c := newZeroCalls(t)
	for n, row := range eachShortRow() {
		got := c.zeroLeast(n, row)
		if (len(got) == 0) != impl.ZeroPlain(n, row) {
			t.Errorf("ZeroLeast(%d, %v) = %v, ZeroPlain %v", n, row, got, impl.ZeroPlain(n, row))
		}
		for i, choice := range got {
			if size(choice) > n {
				t.Errorf("ZeroLeast(%d, %v) = %v: %d has %d positions", n, row, got, choice, size(choice))
			}
			for j, part := range got {
				if i != j && part|choice == choice {
					t.Errorf("ZeroLeast(%d, %v) = %v: %d is a part of %d", n, row, got, part, choice)
				}
			}
		}
	}
}

func TestPromise83Parts(t *testing.T) {
	c := newZeroCalls(t)
	for n, row := range eachShortRow() {
		got := c.zeroParts(n, row)
		if n*got+n-1 < len(row) || (got == 0) != impl.ZeroPlain(n, row) {
			t.Errorf("ZeroParts(%d, %v) = %d, ZeroPlain %v", n, row, got, impl.ZeroPlain(n, row))
		}
	}
}
