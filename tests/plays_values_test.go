package tests

import (
	"slices"
	"testing"

	"loop.example/ringsofsteps/impl"
)

func TestPlaysFollowTheWords(t *testing.T) {
	for n, set := range eachSet() {
		if got, want := impl.PlayIn(n, set), isPlayByWords(n, set); got != want {
			t.Fatalf("PlayIn(%d, %d) = %v", n, set, got)
		}
	}
}

func TestAllPlaysAndClassesAreFoundBySearch(t *testing.T) {
	c := newPlayCalls(t)
	for _, n := range playRings() {
		if got, want := c.playAll(n), playsOf(n); !slices.Equal(got, want) {
			t.Errorf("PlayAll(%d) = %v, want %v", n, got, want)
		}
		if got, want := c.playClasses(n), classesBySearch(n); got != want {
			t.Errorf("PlayClasses(%d) = %d, want %d", n, got, want)
		}
	}
}

func TestWhatPlaysBeatFollowsTheArcs(t *testing.T) {
	c := newPlayCalls(t)
	for n, s := range eachPlay() {
		if got, want := c.playThree(n, s), threesBySearch(n, s); got != want {
			t.Errorf("PlayThree(%d, %d) = %d, want %d", n, s, got, want)
		}
		if got, want := c.playTwice(n, s), twiceByArcs(n, s); got != want {
			t.Errorf("PlayTwice(%d, %d) = %d, want %d", n, s, got, want)
		}
		got, ok := impl.PlayEqual(n, s)
		if want, equal := equalByArcs(n, s); got != want || ok != equal {
			t.Errorf("PlayEqual(%d, %d) = %d, %v, want %d, %v", n, s, got, ok, want, equal)
		}
	}
}

func TestOrdersAreFoundBySearch(t *testing.T) {
	c := newPlayCalls(t)
	for n, s := range eachOrderedPlay() {
		if got, want := c.playOrder(n, s), orderBySearch(n, s); !slices.Equal(got, want) {
			t.Errorf("PlayOrder(%d, %d) = %v, want %v", n, s, got, want)
		}
	}
}

func TestPlaysWrittenOut(t *testing.T) {
	for _, x := range []struct {
		name string
		n, s int
		want bool
	}{
		{"1 of 3", 3, 0b010, true},
		{"2 of 3", 3, 0b100, true},
		{"none of 3", 3, 0b000, false},
		{"1 and 2 of 3, one the other one turned", 3, 0b110, false},
		{"0 and 1 of 3", 3, 0b011, false},
		{"1 and 2 of 5", 5, 0b00110, true},
		{"1 and 3 of 5", 5, 0b01010, true},
		{"1 and 4 of 5, with 4 as 1 turned and without 2 and 3", 5, 0b10010, false},
		{"1 of 5, without 2 and 3", 5, 0b00010, false},
		{"1, 2 and 3 of 5", 5, 0b01110, false},
		{"0, 1 and 2 of 5", 5, 0b00111, false},
		{"1, 2 and 4 of 7", 7, 0b0010110, true},
		{"1, 3 and 6 of 7", 7, 0b1001010, false},
		{"3, 6, 7 and 1 of 9, with 6 as 3 turned", 9, 1<<3 | 1<<6 | 1<<7 | 1<<1, false},
		{"1, 2, 3 and 4 of 9", 9, 0b000011110, true},
		{"5, 6, 7 and 8 of 9", 9, 0b111100000, true},
		{"squares of 11", 11, 1<<1 | 1<<3 | 1<<4 | 1<<5 | 1<<9, true},
		{"6, 7, 8, 9 and 10 of 11", 11, 0b11111000000, true},
		{"all of 11", 11, 0b11111111110, false},
	} {
		if got := impl.PlayIn(x.n, x.s); got != x.want {
			t.Errorf("%s: %v, want %v", x.name, got, x.want)
		}
	}
}

func TestPlayListsWrittenOut(t *testing.T) {
	c := newPlayCalls(t)
	for _, x := range []struct {
		name      string
		got, want []int
	}{
		{"all of 3", c.playAll(3), []int{0b010, 0b100}},
		{"all of 5", c.playAll(5), []int{0b00110, 0b01010, 0b10100, 0b11000}},
		{"all of 7", c.playAll(7), []int{14, 22, 42, 50, 76, 84, 104, 112}},
		{"least of 9", c.playAll(9)[:2], []int{0b000011110, 0b000101110}},
		{"greatest of 11", c.playAll(11)[31:], []int{0b11111000000}},
		{"order by 1 of 3", c.playOrder(3, 0b010), []int{0, 1, 2}},
		{"order by 2 of 3", c.playOrder(3, 0b100), []int{0, 2, 1}},
		{"order by 1 and 2 of 5", c.playOrder(5, 0b00110), []int{0, 1, 2, 3, 4}},
		{"order by 2 and 4 of 5, 0, 2 and 1 leading into none", c.playOrder(5, 0b10100), []int{0, 2, 4, 1, 3}},
		{"order by 3 and 4 of 5, 2 not beating 0", c.playOrder(5, 0b11000), []int{0, 3, 1, 4, 2}},
		{"order by 2, 4 and 6 of 7", c.playOrder(7, 0b1010100), []int{0, 2, 1, 3, 5, 4, 6}},
		{"order by 3, 5 and 6 of 7", c.playOrder(7, 0b1101000), []int{0, 3, 1, 6, 2, 5, 4}},
		{"order by 1, 2, 3 and 4 of 9", c.playOrder(9, 0b000011110), []int{0, 1, 2, 3, 4, 5, 6, 7, 8}},
		{"order by 5, 6, 7 and 8 of 9", c.playOrder(9, 0b111100000), []int{0, 5, 1, 6, 2, 7, 3, 8, 4}},
	} {
		if !slices.Equal(x.got, x.want) {
			t.Errorf("%s: %v, want %v", x.name, x.got, x.want)
		}
	}
}

func TestPlayNumbersWrittenOut(t *testing.T) {
	c := newPlayCalls(t)
	threes, classes := []int{1, 5, 14, 30, 55}, []int{1, 1, 2, 4, 4}
	for i, n := range playRings() {
		least := 1<<((n+1)/2) - 2 // the steps from 1 to half of n
		if got := c.playThree(n, least); got != threes[i] {
			t.Errorf("PlayThree(%d, %d) = %d, want %d", n, least, got, threes[i])
		}
		if got := c.playTwice(n, least); got != allSteps(n) {
			t.Errorf("PlayTwice(%d, %d) = %d", n, least, got)
		}
		if got := c.playClasses(n); got != classes[i] {
			t.Errorf("PlayClasses(%d) = %d, want %d", n, got, classes[i])
		}
	}
}

// TestEqualPlaysWrittenOut has all equal plays: those of 3 places, and of 7 and 11 places the squares and what is no square.
func TestEqualPlaysWrittenOut(t *testing.T) {
	written := map[[2]int]int{
		{3, 0b010}:                              0,
		{3, 0b100}:                              0,
		{7, 1<<1 | 1<<2 | 1<<4}:                 1,
		{7, 1<<3 | 1<<5 | 1<<6}:                 1,
		{11, 1<<1 | 1<<3 | 1<<4 | 1<<5 | 1<<9}:  2,
		{11, 1<<2 | 1<<6 | 1<<7 | 1<<8 | 1<<10}: 2,
	}
	for n, s := range eachPlay() {
		want, equal := written[[2]int{n, s}]
		if got, ok := impl.PlayEqual(n, s); got != want || ok != equal {
			t.Errorf("PlayEqual(%d, %d) = %d, %v, want %d, %v", n, s, got, ok, want, equal)
		}
	}
}

// TestPlayListsAreNew writes into results, behind them as well, and asks again.
func TestPlayListsAreNew(t *testing.T) {
	c := newPlayCalls(t)
	for _, n := range playRings() {
		checkNew(t, func() []int { return c.playAll(n) })
	}
	for n, s := range eachOrderedPlay() {
		checkNew(t, func() []int { return c.playOrder(n, s) })
	}
}

func checkNew(t *testing.T, ask func() []int) {
	t.Helper()
	checkNewBy(t, ask, 99)
}

// checkNewBy writes something into a result, behind it as well, and asks again.
func checkNewBy[T comparable](t *testing.T, ask func() []T, other T) {
	t.Helper()
	first := ask()
	want := slices.Clone(first)
	for i := range first[:cap(first)] {
		first[:cap(first)][i] = other
	}
	if again := ask(); !slices.Equal(again, want) {
		t.Errorf("asked again: %v, want %v", again, want)
	}
}
