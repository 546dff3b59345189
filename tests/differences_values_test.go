package tests

import (
	"slices"
	"testing"

	"loop.example/ringsofsteps/impl"
)

func TestDifferencesAreTakenPlaceByPlace(t *testing.T) {
	c := newDiffCalls(t)
	for n, set := range eachSet() {
		want := waysOfDifferences(n, set)
		want[0] = size(set)
		if got := c.diffTable(n, set); !slices.Equal(got, want) {
			t.Fatalf("DiffTable(%d, %d) = %v, want %v", n, set, got, want)
		}
	}
}

func TestEvenSetsFollowTheWords(t *testing.T) {
	for n, set := range eachSet() {
		got, ok := impl.DiffEven(n, set)
		if want, even := evenByWords(n, set); got != want || ok != even {
			t.Fatalf("DiffEven(%d, %d) = %d, %v, want %d, %v", n, set, got, ok, want, even)
		}
	}
}

func TestThinSetsFollowTheWords(t *testing.T) {
	for n, set := range eachSet() {
		if got, want := impl.DiffThin(n, set), isThinByWords(n, set); got != want {
			t.Fatalf("DiffThin(%d, %d) = %v", n, set, got)
		}
	}
}

func TestCarriersFollowTheWords(t *testing.T) {
	c := newDiffCalls(t)
	for n, set := range eachSet() {
		if got, want := c.diffCarries(n, set), carriersByWords(n, set); got != want {
			t.Fatalf("DiffCarries(%d, %d) = %d, want %d", n, set, got, want)
		}
	}
}

func TestEvenSetsAreFoundBySearch(t *testing.T) {
	for n, k := range eachFound() {
		want, found := 0, false
		for set := 0; set < 1<<n && !found; set++ {
			if _, even := evenByWords(n, set); even && size(set) == k {
				want, found = set, true
			}
		}
		if got, ok := impl.DiffFind(n, k); got != want || ok != found {
			t.Errorf("DiffFind(%d, %d) = %d, %v, want %d, %v", n, k, got, ok, want, found)
		}
	}
}

func TestThinAndWholeSizesAreFoundBySearch(t *testing.T) {
	c := newDiffCalls(t)
	for n := 1; n <= impl.RingMax; n++ {
		most, least := 0, n
		for set := range 1 << n {
			if isThinByWords(n, set) {
				most = max(most, size(set))
			}
			if isWholeByWords(n, set) {
				least = min(least, size(set))
			}
		}
		if c.diffThinMost(n) != most || c.diffWhole(n) != least {
			t.Errorf("%d places: DiffThinMost %d, want %d; DiffWhole %d, want %d", n, c.diffThinMost(n), most, c.diffWhole(n), least)
		}
	}
}

// checkDifferences holds results for a set against a table whose places but 0 all have the same number, and against the other numbers told.
func checkDifferences(t *testing.T, n, set, ways int, thin bool) {
	t.Helper()
	c := newDiffCalls(t)
	table := slices.Repeat([]int{ways}, n)
	table[0] = size(set)
	if got := c.diffTable(n, set); !slices.Equal(got, table) {
		t.Errorf("DiffTable(%d, %d) = %v, want %v", n, set, got, table)
	}
	got, ok := impl.DiffEven(n, set)
	if ok != (n > 1) || ok && got != ways || !ok && got != 0 {
		t.Errorf("DiffEven(%d, %d) = %d, %v, want %d", n, set, got, ok, ways)
	}
	if got := impl.DiffThin(n, set); got != thin {
		t.Errorf("DiffThin(%d, %d) = %v", n, set, got)
	}
	if got := c.diffCarries(n, set); got != setOf(unitsOf(n)) {
		t.Errorf("DiffCarries(%d, %d) = %d", n, set, got)
	}
}

// TestDifferencesOfNoPlace writes out the empty set: it has no difference, 0 not being one either, and each unit carries it.
func TestDifferencesOfNoPlace(t *testing.T) {
	for n := 1; n <= impl.RingMax; n++ {
		checkDifferences(t, n, 0, 0, true)
	}
}

func TestDifferencesOfOnePlace(t *testing.T) {
	for n := 1; n <= impl.RingMax; n++ {
		for v := range n {
			checkDifferences(t, n, 1<<v, 0, true)
		}
	}
}

// TestDifferencesOfAllPlaces writes out all places, each of which but 0 is a difference in as many ways as there are places.
func TestDifferencesOfAllPlaces(t *testing.T) {
	for n := 1; n <= impl.RingMax; n++ {
		checkDifferences(t, n, 1<<n-1, n, n == 1)
	}
}

func TestDifferencesOfAllPlacesButOne(t *testing.T) {
	for n := 2; n <= impl.RingMax; n++ {
		for v := range n {
			checkDifferences(t, n, 1<<n-1-1<<v, n-2, n < 4)
		}
	}
}

// TestWholeIsNotEmpty writes out the ring of one place, where the empty set alone would do without any difference.
func TestWholeIsNotEmpty(t *testing.T) {
	if got := newDiffCalls(t).diffWhole(1); got != 1 {
		t.Errorf("DiffWhole(1) = %d", got)
	}
}

func TestTablesWrittenOut(t *testing.T) {
	c := newDiffCalls(t)
	for _, x := range []struct {
		name      string
		got, want []int
	}{
		{"none of 1", c.diffTable(1, 0), []int{0}},
		{"0 of 1", c.diffTable(1, 1), []int{1}},
		{"0 and 1 of 2", c.diffTable(2, 0b11), []int{2, 2}},
		{"0 and 2 of 4", c.diffTable(4, 0b0101), []int{2, 0, 2, 0}},
		{"0 and 1 of 5", c.diffTable(5, 0b00011), []int{2, 1, 0, 0, 1}},
		{"1, 2 and 3 of 6", c.diffTable(6, 0b001110), []int{3, 2, 1, 0, 1, 2}},
		{"0, 1 and 3 of 7", c.diffTable(7, 0b0001011), []int{3, 1, 1, 1, 1, 1, 1}},
		{"0, 1 and 3 of 8", c.diffTable(8, 0b00001011), []int{3, 1, 1, 1, 0, 1, 1, 1}},
		{"1, 3, 4, 5 and 9 of 11", c.diffTable(11, 1<<1|1<<3|1<<4|1<<5|1<<9), []int{5, 2, 2, 2, 2, 2, 2, 2, 2, 2, 2}},
		{"0, 1, 4 and 6 of 12", c.diffTable(12, 1|1<<1|1<<4|1<<6), []int{4, 1, 1, 1, 1, 1, 2, 1, 1, 1, 1, 1}},
		{"0, 1, 3 and 11 of 12", c.diffTable(12, 1|1<<1|1<<3|1<<11), []int{4, 2, 2, 1, 1, 0, 0, 0, 1, 1, 2, 2}},
		{"0, 4 and 8 of 12", c.diffTable(12, 1|1<<4|1<<8), []int{3, 0, 0, 0, 3, 0, 0, 0, 3, 0, 0, 0}},
	} {
		if !slices.Equal(x.got, x.want) {
			t.Errorf("%s: %v, want %v", x.name, x.got, x.want)
		}
	}
}

func TestEvenSetsWrittenOut(t *testing.T) {
	for _, x := range []struct {
		name   string
		n, set int
		want   int
		ok     bool
	}{
		{"0 and 2 of 3", 3, 0b101, 1, true},
		{"0, 1 and 3 of 7", 7, 0b0001011, 1, true},
		{"1, 2 and 4 of 7", 7, 0b0010110, 1, true},
		{"0, 3, 5 and 6 of 7", 7, 0b1101001, 2, true},
		{"squares of 11", 11, 1<<1 | 1<<3 | 1<<4 | 1<<5 | 1<<9, 2, true},
		{"0 and what is no square of 11", 11, 1 | 1<<2 | 1<<6 | 1<<7 | 1<<8 | 1<<10, 3, true},
		{"0 and 1 of 4", 4, 0b0011, 0, false},
		{"0 and 2 of 4, where 1 and 3 have none", 4, 0b0101, 0, false},
		{"1 and 4 of 5", 5, 0b10010, 0, false},
		{"0, 1 and 2 of 7", 7, 0b0000111, 0, false},
		{"0, 1 and 3 of 8, where 4 has none", 8, 0b00001011, 0, false},
		{"0, 1, 3 and 9 of 12", 12, 1 | 1<<1 | 1<<3 | 1<<9, 0, false},
		{"even places of 12", 12, 0b010101010101, 0, false},
	} {
		if got, ok := impl.DiffEven(x.n, x.set); got != x.want || ok != x.ok {
			t.Errorf("%s: %d, %v, want %d, %v", x.name, got, ok, x.want, x.ok)
		}
	}
}

// foundWrittenOut has the least even sets that are neither 0 alone nor all places but the last one: for n up to RingMax, there are four of them.
func foundWrittenOut() map[[2]int]int {
	return map[[2]int]int{
		{7, 3}:  0b0001011,
		{7, 4}:  0b0010111,
		{11, 5}: 1 | 1<<1 | 1<<2 | 1<<4 | 1<<7,
		{11, 6}: 1 | 1<<1 | 1<<2 | 1<<4 | 1<<5 | 1<<7,
	}
}

func TestFoundSetsWrittenOut(t *testing.T) {
	written := foundWrittenOut()
	for n, k := range eachFound() {
		want, found := written[[2]int{n, k}]
		switch k {
		case 1:
			want, found = 1, true
		case n - 1:
			want, found = 1<<(n-1)-1, true
		}
		if got, ok := impl.DiffFind(n, k); got != want || ok != found {
			t.Errorf("DiffFind(%d, %d) = %d, %v, want %d, %v", n, k, got, ok, want, found)
		}
	}
}

func TestThinSetsWrittenOut(t *testing.T) {
	for _, x := range []struct {
		name   string
		n, set int
		want   bool
	}{
		{"0 and 1 of 2, 1 in two ways", 2, 0b11, false},
		{"0 and 1 of 3", 3, 0b011, true},
		{"0 and 1 of 4", 4, 0b0011, true},
		{"0 and 2 of 4, 2 in two ways", 4, 0b0101, false},
		{"0, 1 and 2 of 6, 1 in two ways", 6, 0b000111, false},
		{"0, 1 and 3 of 6, 3 in two ways", 6, 0b001011, false},
		{"0, 1 and 3 of 7", 7, 0b0001011, true},
		{"1, 2 and 4 of 7", 7, 0b0010110, true},
		{"0, 1, 2 and 4 of 7, which is even", 7, 0b0010111, false},
		{"0, 1 and 3 of 8", 8, 0b00001011, true},
		{"0, 1 and 4 of 12", 12, 1 | 1<<1 | 1<<4, true},
		{"0 and 6 of 12, 6 in two ways", 12, 1 | 1<<6, false},
		{"0, 1, 4 and 6 of 12, 6 in two ways", 12, 1 | 1<<1 | 1<<4 | 1<<6, false},
	} {
		if got := impl.DiffThin(x.n, x.set); got != x.want {
			t.Errorf("%s: %v, want %v", x.name, got, x.want)
		}
	}
}

func TestThinAndWholeSizesWrittenOut(t *testing.T) {
	c := newDiffCalls(t)
	thin := []int{1, 1, 2, 2, 2, 2, 3, 3, 3, 3, 3, 3}
	whole := []int{1, 2, 2, 3, 3, 3, 3, 4, 4, 4, 4, 4}
	for i := range impl.RingMax {
		n := i + 1
		if c.diffThinMost(n) != thin[i] || c.diffWhole(n) != whole[i] {
			t.Errorf("%d places: DiffThinMost %d, want %d; DiffWhole %d, want %d", n, c.diffThinMost(n), thin[i], c.diffWhole(n), whole[i])
		}
	}
}

func TestCarriersWrittenOut(t *testing.T) {
	c := newDiffCalls(t)
	for _, x := range []struct {
		name      string
		got, want int
	}{
		{"none of 1", c.diffCarries(1, 0), 1},
		{"0 of 1", c.diffCarries(1, 1), 1},
		{"0 and 1 of 2", c.diffCarries(2, 0b11), 1 << 1},
		{"0 and 1 of 5", c.diffCarries(5, 0b00011), 1<<1 | 1<<4},
		{"0, 1 and 3 of 7, shifted by other places than 0", c.diffCarries(7, 0b0001011), 1<<1 | 1<<2 | 1<<4},
		{"1, 2 and 4 of 7", c.diffCarries(7, 0b0010110), 1<<1 | 1<<2 | 1<<4},
		{"0, 3, 5 and 6 of 7", c.diffCarries(7, 0b1101001), 1<<1 | 1<<2 | 1<<4},
		{"0, 1 and 2 of 7", c.diffCarries(7, 0b0000111), 1<<1 | 1<<6},
		{"0, 1 and 3 of 8", c.diffCarries(8, 0b00001011), 1<<1 | 1<<3},
		{"squares of 11", c.diffCarries(11, 1<<1|1<<3|1<<4|1<<5|1<<9), 1<<1 | 1<<3 | 1<<4 | 1<<5 | 1<<9},
		{"even places of 12", c.diffCarries(12, 0b010101010101), 1<<1 | 1<<5 | 1<<7 | 1<<11},
		{"0, 1 and 3 of 12", c.diffCarries(12, 1|1<<1|1<<3), 1 << 1},
		{"0 and 1 of 12", c.diffCarries(12, 1|1<<1), 1<<1 | 1<<11},
	} {
		if x.got != x.want {
			t.Errorf("%s: %d, want %d", x.name, x.got, x.want)
		}
	}
}

// TestTablesAreNew writes into a result, behind it as well, and asks again.
func TestTablesAreNew(t *testing.T) {
	for n, set := range eachSet() {
		first, _ := impl.DiffTable(n, set)
		want := slices.Clone(first)
		for i := range first[:cap(first)] {
			first[:cap(first)][i] = 99
		}
		if again, ok := impl.DiffTable(n, set); !ok || !slices.Equal(again, want) {
			t.Fatalf("DiffTable(%d, %d) asked again: %v, %v, want %v", n, set, again, ok, want)
		}
	}
}
