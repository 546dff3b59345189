package tests

import (
	"slices"
	"testing"

	"loop.example/ringsofsteps/impl"
)

func TestChoicesOfRowsAreFoundBySearch(t *testing.T) {
	c := newZeroCalls(t)
	for n, row := range eachRow() {
		zeros := zerosBySearch(n, row)
		if got, want := impl.ZeroPlain(n, row), len(zeros) == 0; got != want {
			t.Errorf("ZeroPlain(%d, %v) = %v", n, row, got)
		}
		got, ok := impl.ZeroFirst(n, row)
		checkChoice(t, "ZeroFirst", n, row, got, ok, append(zeros, 0)[0])
		got, ok = impl.ZeroOf(n, row)
		checkChoice(t, "ZeroOf", n, row, got, ok, ofSize(zeros, n))
		if got, want := c.zeroCounts(n, row), countsBySearch(n, row); !slices.Equal(got, want) {
			t.Errorf("ZeroCounts(%d, %v) = %v, want %v", n, row, got, want)
		}
	}
}

// checkChoice takes 0, the empty choice, as what is found if there is none.
func checkChoice(t *testing.T, name string, n int, row []int, got int, ok bool, want int) {
	t.Helper()
	if got != want || ok != (want != 0) {
		t.Errorf("%s(%d, %v) = %d, %v, want %d", name, n, row, got, ok, want)
	}
}

func TestChoicesOfShortRowsAreFoundBySearch(t *testing.T) {
	c := newZeroCalls(t)
	for n, row := range eachShortRow() {
		zeros := zerosBySearch(n, row)
		if got, want := c.zeroLeast(n, row), leastOf(zeros); !slices.Equal(got, want) {
			t.Errorf("ZeroLeast(%d, %v) = %v, want %v", n, row, got, want)
		}
		if got, want := c.zeroParts(n, row), partsBySearch(zeros, len(row)); got != want {
			t.Errorf("ZeroParts(%d, %v) = %d, want %d", n, row, got, want)
		}
	}
}

func TestRowsWithoutPlaces(t *testing.T) {
	c := newZeroCalls(t)
	for n := 1; n <= impl.RingMax; n++ {
		counts := make([]int, n)
		counts[0] = 1 // the empty choice
		for _, row := range [][]int{nil, {}, inOrder(n)[:0], inOrder(n)[n:]} {
			first, found := impl.ZeroFirst(n, row)
			checkChoice(t, "ZeroFirst", n, row, first, found, 0)
			of, found := impl.ZeroOf(n, row)
			checkChoice(t, "ZeroOf", n, row, of, found, 0)
			if !impl.ZeroPlain(n, row) || c.zeroSum(n, row) != 0 || c.zeroParts(n, row) != 0 {
				t.Errorf("%d, %v: ZeroPlain %v, ZeroSum %d, ZeroParts %d", n, row, impl.ZeroPlain(n, row), c.zeroSum(n, row), c.zeroParts(n, row))
			}
			if !slices.Equal(c.zeroCounts(n, row), counts) || len(c.zeroLeast(n, row)) != 0 {
				t.Errorf("%d, %v: ZeroCounts %v, ZeroLeast %v", n, row, c.zeroCounts(n, row), c.zeroLeast(n, row))
			}
		}
	}
}

func TestRowsOfZeros(t *testing.T) {
	c := newZeroCalls(t)
	for n := 1; n <= impl.RingMax; n++ {
		for length := 1; length <= mostInRow; length++ {
			row, counts := make([]int, length), make([]int, n)
			counts[0] = 1 << length
			if impl.ZeroPlain(n, row) || c.zeroSum(n, row) != 0 || c.zeroFirst(n, row) != 1 || !slices.Equal(c.zeroCounts(n, row), counts) {
				t.Errorf("%d, %v: ZeroPlain %v, ZeroSum %d, ZeroFirst %d, ZeroCounts %v", n, row, impl.ZeroPlain(n, row), c.zeroSum(n, row), c.zeroFirst(n, row), c.zeroCounts(n, row))
			}
			of, found := impl.ZeroOf(n, row)
			if length < n {
				checkChoice(t, "ZeroOf", n, row, of, found, 0)
			} else {
				checkChoice(t, "ZeroOf", n, row, of, found, 1<<n-1)
			}
			if length <= mostInShort {
				checkSingles(c, n, row)
			}
		}
	}
}

// checkSingles gives a row of which each place is a least choice.
func checkSingles(c zeroCalls, n int, row []int) {
	c.t.Helper()
	var singles []int
	for position := range row {
		singles = append(singles, 1<<position)
	}
	if got, parts := c.zeroLeast(n, row), c.zeroParts(n, row); !slices.Equal(got, singles) || parts != len(row) {
		c.t.Errorf("%d, %v: ZeroLeast %v, ZeroParts %d", n, row, got, parts)
	}
}

// TestRowsOfOnes gives the longest plain row of each ring, and the one that is longer by one place.
func TestRowsOfOnes(t *testing.T) {
	c := newZeroCalls(t)
	for n := 2; n <= impl.RingMax; n++ {
		plain, row := slices.Repeat([]int{1}, n-1), slices.Repeat([]int{1}, n)
		first, found := impl.ZeroFirst(n, plain)
		checkChoice(t, "ZeroFirst", n, plain, first, found, 0)
		if !impl.ZeroPlain(n, plain) || impl.ZeroPlain(n, row) {
			t.Errorf("ZeroPlain(%d, %v) %v, ZeroPlain(%d, %v) %v", n, plain, impl.ZeroPlain(n, plain), n, row, impl.ZeroPlain(n, row))
		}
		if c.zeroFirst(n, row) != 1<<n-1 || c.zeroOf(n, row) != 1<<n-1 {
			t.Errorf("%d, %v: ZeroFirst %d, ZeroOf %d", n, row, c.zeroFirst(n, row), c.zeroOf(n, row))
		}
		if n <= mostInShort && (!slices.Equal(c.zeroLeast(n, row), []int{1<<n - 1}) || c.zeroParts(n, row) != 1) {
			t.Errorf("%d, %v: ZeroLeast %v, ZeroParts %d", n, row, c.zeroLeast(n, row), c.zeroParts(n, row))
		}
	}
}

// TestNPositionsAsLateAsCanBe gives zeros and ones, one less than n of both, and then one place more.
func TestNPositionsAsLateAsCanBe(t *testing.T) {
	c := newZeroCalls(t)
	for n := 2; 2*n-1 <= mostInRow; n++ {
		row := append(make([]int, n-1), slices.Repeat([]int{1}, n-1)...)
		of, found := impl.ZeroOf(n, row)
		checkChoice(t, "ZeroOf", n, row, of, found, 0)
		if got := c.zeroOf(n, append(row, 0)); got != 1<<(2*n-2)|1<<(n-1)-1 {
			t.Errorf("ZeroOf(%d, %v) = %d", n, append(row, 0), got)
		}
		if got := c.zeroOf(n, append(row, 1)); got != 1<<(2*n-1)-1<<(n-1) {
			t.Errorf("ZeroOf(%d, %v) = %d", n, append(row, 1), got)
		}
	}
}

func TestRowSumsWrittenOut(t *testing.T) {
	c := newZeroCalls(t)
	for _, x := range []struct {
		n    int
		row  []int
		want int
	}{
		{1, []int{0, 0}, 0},
		{2, []int{1}, 1},
		{5, []int{1, 2, 3}, 1},
		{7, []int{6, 6, 6}, 4},
		{12, []int{11}, 11},
		{12, []int{0, 1, 2, 3, 4, 5, 6, 7, 8, 9, 10, 11}, 6},
		{12, slices.Repeat([]int{11}, 12), 0},
		{11, slices.Repeat([]int{10}, 12), 10},
	} {
		if got := c.zeroSum(x.n, x.row); got != x.want {
			t.Errorf("ZeroSum(%d, %v) = %d, want %d", x.n, x.row, got, x.want)
		}
	}
}

func TestFirstChoicesWrittenOut(t *testing.T) {
	for _, x := range []struct {
		name string
		n    int
		row  []int
		want int
	}{
		{"2 and 3 of 5", 5, []int{1, 2, 3}, 0b110},
		{"0 alone, behind 1", 4, []int{1, 0}, 0b10},
		{"2 twice", 4, []int{2, 2}, 0b11},
		{"1 four times", 4, []int{1, 1, 1, 1}, 0b1111},
		{"3 twice, with 1 between them", 6, []int{3, 1, 3, 2}, 0b101},
		{"1, 2 and 3, although 3 stands there twice", 6, []int{1, 2, 3, 3}, 0b111},
		{"6 and 4, more places being less numbers", 10, []int{3, 6, 5, 4}, 0b1010},
		{"a sum of more than n", 7, []int{5, 4, 5}, 0b111},
		{"the last of all", 12, slices.Repeat([]int{1}, 12), 1<<12 - 1},
		{"the last place alone", 12, []int{1, 1, 1, 1, 1, 1, 1, 1, 1, 1, 1, 0}, 1 << 11},
		{"a ring of one place", 1, []int{0, 0, 0}, 0b1},
		{"plain, just short of n", 8, []int{1, 2, 4}, 0},
		{"plain, 1 five times of 6", 6, []int{1, 1, 1, 1, 1}, 0},
		{"plain, one place", 12, []int{6}, 0},
	} {
		got, ok := impl.ZeroFirst(x.n, x.row)
		checkChoice(t, x.name+": ZeroFirst", x.n, x.row, got, ok, x.want)
		if plain := impl.ZeroPlain(x.n, x.row); plain != (x.want == 0) {
			t.Errorf("%s: ZeroPlain %v", x.name, plain)
		}
	}
}

func TestChoicesOfNPositionsWrittenOut(t *testing.T) {
	for _, x := range []struct {
		name string
		n    int
		row  []int
		want int
	}{
		{"three zeros of 3", 3, []int{0, 1, 1, 0, 0}, 0b11001},
		{"each place of 3 once", 3, []int{0, 1, 2}, 0b111},
		{"1 twice, 0 between them", 2, []int{1, 0, 1}, 0b101},
		{"one position of a ring of one place", 1, []int{0, 0}, 0b1},
		{"four ones of 4, without the zero", 4, []int{1, 1, 1, 0, 1}, 0b10111},
		{"six ones of 6, behind five zeros", 6, []int{0, 0, 0, 0, 0, 1, 1, 1, 1, 1, 1}, 0b11111100000},
		{"each place of 11 once", 11, inOrder(11), 1<<11 - 1},
		{"12 ones", 12, slices.Repeat([]int{1}, 12), 1<<12 - 1},
		{"none, the sum of 12 places being 6", 12, inOrder(12), 0},
		{"none, one zero and one of 2 places", 2, []int{0, 1}, 0},
		{"none, two zeros and ones of 3 places", 3, []int{0, 0, 1, 1}, 0},
		{"none of a shorter row, although 1 and 2 have the sum 0", 3, []int{1, 2}, 0},
		{"none of a shorter row, of zeros", 12, make([]int, 11), 0},
	} {
		got, ok := impl.ZeroOf(x.n, x.row)
		checkChoice(t, x.name+": ZeroOf", x.n, x.row, got, ok, x.want)
	}
}

func TestCountsOfChoicesWrittenOut(t *testing.T) {
	c := newZeroCalls(t)
	for _, x := range []struct {
		n         int
		row, want []int
	}{
		{1, []int{0, 0, 0}, []int{8}},
		{2, []int{1}, []int{1, 1}},
		{3, []int{1, 1}, []int{1, 2, 1}},
		{4, []int{2, 2}, []int{2, 0, 2, 0}},
		{5, []int{1, 2, 3}, []int{2, 2, 1, 2, 1}},
		{6, []int{0}, []int{2, 0, 0, 0, 0, 0}},
		{12, []int{11}, []int{1, 0, 0, 0, 0, 0, 0, 0, 0, 0, 0, 1}},
		{2, slices.Repeat([]int{1}, 12), []int{2048, 2048}},
		{11, slices.Repeat([]int{1}, 12), []int{1 + 12, 12 + 1, 66, 220, 495, 792, 924, 792, 495, 220, 66}},
	} {
		if got := c.zeroCounts(x.n, x.row); !slices.Equal(got, x.want) {
			t.Errorf("ZeroCounts(%d, %v) = %v, want %v", x.n, x.row, got, x.want)
		}
	}
}

func TestLeastChoicesWrittenOut(t *testing.T) {
	c := newZeroCalls(t)
	for _, x := range []struct {
		name  string
		n     int
		row   []int
		want  []int
		parts int
	}{
		{"2 and 3 of 5", 5, []int{1, 2, 3}, []int{0b110}, 1},
		{"1 twice, and 0", 2, []int{1, 1, 0}, []int{0b011, 0b100}, 2},
		{"1 three times, or one 1 and 2", 3, []int{1, 1, 1, 2}, []int{0b0111, 0b1001, 0b1010, 0b1100}, 1},
		{"three choices that meet", 4, []int{2, 1, 1, 2}, []int{0b0111, 0b1001, 0b1110}, 1},
		{"all pairs", 2, []int{1, 1, 1, 1}, []int{0b0011, 0b0101, 0b0110, 0b1001, 0b1010, 0b1100}, 2},
		{"three pairs, although 3, 1 and 2 come ahead of them", 6, []int{3, 1, 2, 3, 5, 4}, []int{0b000111, 0b001001, 0b001110, 0b010010, 0b100100, 0b110001, 0b111000}, 3},
		{"3 and 1 and 2, or 3 twice", 6, []int{1, 2, 3, 3}, []int{0b0111, 0b1011, 0b1100}, 1},
		{"all of a row", 8, slices.Repeat([]int{1}, 8), []int{0b11111111}, 1},
		{"a plain row", 9, slices.Repeat([]int{1}, 8), nil, 0},
		{"a plain row of one place", 12, []int{1}, nil, 0},
	} {
		if got := c.zeroLeast(x.n, x.row); !slices.Equal(got, x.want) {
			t.Errorf("%s: ZeroLeast(%d, %v) = %b, want %b", x.name, x.n, x.row, got, x.want)
		}
		if got := c.zeroParts(x.n, x.row); got != x.parts {
			t.Errorf("%s: ZeroParts(%d, %v) = %d, want %d", x.name, x.n, x.row, got, x.parts)
		}
	}
}

// TestRowsOfLongerSlices has numbers ahead of a row and behind it that are no places; neither these nor the row are written into.
func TestRowsOfLongerSlices(t *testing.T) {
	for n, row := range eachRow() {
		whole := slices.Concat([]int{99, -1}, row, []int{77, -2, 0, 88})
		before := slices.Clone(whole)
		part := whole[2 : 2+len(row)]
		if got, want := resultsOf(n, part), resultsOf(n, slices.Clone(row)); !slices.Equal(got, want) {
			t.Errorf("%d, %v: %v as a part of a slice, %v alone", n, row, got, want)
		}
		if !slices.Equal(whole, before) {
			t.Fatalf("%d, %v: the slice is now %v", n, row, whole)
		}
	}
}

// resultsOf puts the results of all functions one behind the other.
func resultsOf(n int, row []int) []int {
	var all []int
	tell := func(ok bool, numbers ...int) {
		all = append(all, len(numbers))
		all = append(all, numbers...)
		if ok {
			all = append(all, 1)
		}
	}
	for _, f := range []func(int, []int) (int, bool){impl.ZeroSum, impl.ZeroFirst, impl.ZeroOf, impl.ZeroParts} {
		got, ok := f(n, row)
		tell(ok, got)
	}
	for _, f := range []func(int, []int) ([]int, bool){impl.ZeroCounts, impl.ZeroLeast} {
		got, ok := f(n, row)
		tell(ok, got...)
	}
	tell(impl.ZeroPlain(n, row))
	return all
}

// TestZeroListsAreNew writes into results, behind them as well, looks for it in the row, and asks again.
func TestZeroListsAreNew(t *testing.T) {
	c := newZeroCalls(t)
	for n, row := range eachShortRow() {
		own := slices.Clone(row)
		checkNew(t, func() []int { return c.zeroCounts(n, row) })
		checkNew(t, func() []int { return c.zeroLeast(n, row) })
		if !slices.Equal(row, own) {
			t.Fatalf("%d, %v: the row is now %v", n, own, row)
		}
	}
}
