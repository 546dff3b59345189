package tests

import (
	"runtime"
	"slices"
	"sync"
	"testing"
	"time"

	"loop.example/ringsofsteps/impl"
)

func TestFirstAndManyRoundsAreFoundBySearch(t *testing.T) {
	for n := 2; n <= mostSearched; n++ {
		for s, want := range roundsBySearch(n) {
			if got, ok := impl.RoundMany(n, s); !ok || got != want.many {
				t.Fatalf("RoundMany(%d, %d) = %d, %v, want %d", n, s, got, ok, want.many)
			}
			if got, ok := impl.RoundFirst(n, s); ok != (want.many > 0) || !slices.Equal(got, want.first) {
				t.Fatalf("RoundFirst(%d, %d) = %v, %v, want %v", n, s, got, ok, want.first)
			}
		}
	}
}

// TestShortListsAreRoundsByArcs goes through all lists of numbers about the places of small rings, shorter and longer ones as well.
func TestShortListsAreRoundsByArcs(t *testing.T) {
	for n := 1; n <= 4; n++ {
		for length := range n + 2 {
			for list := range listsOf([]int{-1, 0, 1, 2, 3, 4, 5}[:n+3], length) {
				for s := 0; s < 1<<n; s += 2 {
					if got, want := impl.RoundIs(n, s, list), isRoundByArcs(n, s, list); got != want {
						t.Fatalf("RoundIs(%d, %d, %v) = %v", n, s, list, got)
					}
				}
				checkRoundWord(t, n, list)
				checkRoundBy(t, n, list)
			}
		}
	}
}

// TestListsAreRoundsByArcs gives lists of all places of every ring, and others that are near to them.
func TestListsAreRoundsByArcs(t *testing.T) {
	for n := 2; n <= impl.RingMax; n++ {
		for _, list := range someOrders(n) {
			own := setOf(alongList(n, list))
			for s := 0; s < 1<<n; s += 2 {
				if got, want := impl.RoundIs(n, s, list), own&^s == 0; got != want {
					t.Fatalf("RoundIs(%d, %d, %v) = %v", n, s, list, got)
				}
			}
			for _, near := range append(brokenLists(list), list) {
				if got, want := impl.RoundIs(n, own, near), isRoundByArcs(n, own, near); got != want {
					t.Fatalf("RoundIs(%d, %d, %v) = %v", n, own, near, got)
				}
				checkRoundWord(t, n, near)
			}
			word := alongList(n, list)
			for _, near := range append(brokenLists(word), word) {
				checkRoundBy(t, n, near)
			}
		}
	}
}

func checkRoundWord(t *testing.T, n int, list []int) {
	t.Helper()
	var want []int
	is := isRoundByArcs(n, allSteps(n), list)
	if is {
		want = alongList(n, list)
	}
	if got, ok := impl.RoundWord(n, list); ok != is || !slices.Equal(got, want) {
		t.Fatalf("RoundWord(%d, %v) = %v, %v, want %v", n, list, got, ok, want)
	}
}

func checkRoundBy(t *testing.T, n int, word []int) {
	t.Helper()
	var want []int
	is := isWordByArcs(n, word)
	if is {
		want = alongWord(n, word)
	}
	if got, ok := impl.RoundBy(n, word); ok != is || !slices.Equal(got, want) {
		t.Fatalf("RoundBy(%d, %v) = %v, %v, want %v", n, word, got, ok, want)
	}
}

// TestRoundsOfTwoAreFoundBySearch asks of greater rings, too, than RoundFirst does.
func TestRoundsOfTwoAreFoundBySearch(t *testing.T) {
	for x := range eachTwo() {
		if got, want := impl.RoundTwo(x.n, x.a, x.b), twoBySearch(x.n, x.a, x.b); got != want {
			t.Errorf("RoundTwo(%d, %d, %d) = %v", x.n, x.a, x.b, got)
		}
	}
}

func TestRoundsOfOneAreFoundBySearch(t *testing.T) {
	c := newRoundCalls(t)
	for n := 2; n <= impl.RingMax; n++ {
		for k := 1; k < n; k++ {
			for v := range n {
				if got, want := c.one(n, k), listOn(n, v, k); got != want {
					t.Errorf("RoundOne(%d, %d) = %d, from %d on it is %d", n, k, got, v, want)
				}
			}
		}
	}
}

// TestRoundsWithoutSteps writes out the set 0: there is no arc to go along.
func TestRoundsWithoutSteps(t *testing.T) {
	c := newRoundCalls(t)
	for n := 1; n <= impl.RingMax; n++ {
		for _, list := range someOrders(n) {
			if impl.RoundIs(n, 0, list) {
				t.Errorf("RoundIs(%d, 0, %v) holds", n, list)
			}
		}
		if got, ok := impl.RoundFirst(n, 0); ok || len(got) != 0 {
			t.Errorf("RoundFirst(%d, 0) = %v, %v", n, got, ok)
		}
		if n >= 2 && n <= mostSearched && c.many(n, 0) != 0 {
			t.Errorf("RoundMany(%d, 0) = %d", n, c.many(n, 0))
		}
	}
}

// TestRoundsWithAllSteps writes out the steps by which the places in their order are a round.
func TestRoundsWithAllSteps(t *testing.T) {
	c := newRoundCalls(t)
	for n := 2; n <= impl.RingMax; n++ {
		list := []int{0, 1, 2, 3, 4, 5, 6, 7, 8, 9, 10, 11}[:n]
		ones := slices.Repeat([]int{1}, n)
		if !impl.RoundIs(n, allSteps(n), list) || !impl.RoundIs(n, 0b10, list) || impl.RoundIs(n, allSteps(n)&^0b10, list) {
			t.Errorf("RoundIs of the places of %d in their order", n)
		}
		if n <= mostSearched && !slices.Equal(c.firstRound(n, allSteps(n)), list) {
			t.Errorf("RoundFirst(%d, %d) = %v", n, allSteps(n), c.firstRound(n, allSteps(n)))
		}
		if !slices.Equal(c.wordOf(n, list), ones) || !slices.Equal(c.roundBy(n, ones), list) {
			t.Errorf("by 1 of %d: word %v, round %v", n, c.wordOf(n, list), c.roundBy(n, ones))
		}
	}
}

// TestRoundsByOneStep writes out a step alone, by which there is one round or none, and the step and it turned by -1, by which a round goes on as it begins.
func TestRoundsByOneStep(t *testing.T) {
	c := newRoundCalls(t)
	for n := 2; n <= mostSearched; n++ {
		for k := 1; k < n; k++ {
			unit := isUnit(n, k)
			list := alongWord(n, slices.Repeat([]int{k}, n))
			first, ok := impl.RoundFirst(n, 1<<k)
			if ok != unit || ok && !slices.Equal(first, list) || impl.RoundIs(n, 1<<k, list) != unit {
				t.Errorf("RoundFirst(%d, %d) = %v, %v", n, 1<<k, first, ok)
			}
			one, both := 0, 0
			if unit {
				one, both = 1, 2
			}
			if n == 2 {
				both = 1 // 1 turned by -1 is 1
			}
			if c.many(n, 1<<k) != one || c.many(n, 1<<k|1<<(n-k)) != both {
				t.Errorf("RoundMany of %d by %d: %d, by it turned as well: %d", n, k, c.many(n, 1<<k), c.many(n, 1<<k|1<<(n-k)))
			}
		}
	}
}

// TestRoundsOfTwoPlaces writes out the least ring that has a round.
func TestRoundsOfTwoPlaces(t *testing.T) {
	c := newRoundCalls(t)
	round := []int{0, 1}
	if !impl.RoundIs(2, 0b10, round) || impl.RoundIs(2, 0, round) || impl.RoundIs(2, 0b10, []int{1, 0}) || impl.RoundIs(2, 0b10, []int{0, 0}) {
		t.Error("RoundIs of lists of two places")
	}
	if !slices.Equal(c.firstRound(2, 0b10), round) || c.many(2, 0b10) != 1 || c.many(2, 0) != 0 || c.one(2, 1) != 2 {
		t.Errorf("first %v, many %d, without steps %d, one %d", c.firstRound(2, 0b10), c.many(2, 0b10), c.many(2, 0), c.one(2, 1))
	}
	if !slices.Equal(c.wordOf(2, round), []int{1, 1}) || !slices.Equal(c.roundBy(2, []int{1, 1}), round) {
		t.Errorf("word %v, round by it %v", c.wordOf(2, round), c.roundBy(2, []int{1, 1}))
	}
}

func TestRoundListsWrittenOut(t *testing.T) {
	c := newRoundCalls(t)
	for _, x := range []struct {
		name      string
		got, want []int
	}{
		{"first by 2 of 5", c.firstRound(5, 0b00100), []int{0, 2, 4, 1, 3}},
		{"first by 2 and 3 of 5", c.firstRound(5, 0b01100), []int{0, 2, 4, 1, 3}},
		{"first by 2 and 5 of 6", c.firstRound(6, 0b100100), []int{0, 2, 1, 3, 5, 4}},
		{"first by 3 and 4 of 9, 3 as the first step leading into none", c.firstRound(9, 1<<3|1<<4), []int{0, 4, 8, 3, 7, 2, 6, 1, 5}},
		{"first by 8 of 9", c.firstRound(9, 1<<8), []int{0, 8, 7, 6, 5, 4, 3, 2, 1}},
		{"word of 6 places", c.wordOf(6, []int{0, 2, 1, 3, 5, 4}), []int{2, 5, 2, 2, 5, 2}},
		{"word of 12 places", c.wordOf(12, []int{0, 11, 1, 10, 2, 9, 3, 8, 4, 7, 5, 6}), []int{11, 2, 9, 4, 7, 6, 5, 8, 3, 10, 1, 6}},
		{"round of 6 places", c.roundBy(6, []int{2, 5, 2, 2, 5, 2}), []int{0, 2, 1, 3, 5, 4}},
		{"round of 12 places", c.roundBy(12, []int{11, 2, 9, 4, 7, 6, 5, 8, 3, 10, 1, 6}), []int{0, 11, 1, 10, 2, 9, 3, 8, 4, 7, 5, 6}},
		{"round by 5 of 12", c.roundBy(12, slices.Repeat([]int{5}, 12)), []int{0, 5, 10, 3, 8, 1, 6, 11, 4, 9, 2, 7}},
	} {
		if !slices.Equal(x.got, x.want) {
			t.Errorf("%s: %v, want %v", x.name, x.got, x.want)
		}
	}
}

func TestRoundNumbersWrittenOut(t *testing.T) {
	c := newRoundCalls(t)
	for _, x := range []struct {
		name      string
		got, want int
	}{
		{"many by 1 and 2 of 4", c.many(4, 0b0110), 1},
		{"many by all of 4", c.many(4, 0b1110), 6},
		{"many by 2 and 3 of 6, joined, but without a round", c.many(6, 0b001100), 0},
		{"many by 2 and 4 of 6, in parts", c.many(6, 0b010100), 0},
		{"many by 1 and 3 of 6", c.many(6, 0b001010), 3},
		{"many by 1 and 4 of 6", c.many(6, 0b010010), 4},
		{"many by 1 and 3 of 8", c.many(8, 0b00001010), 2},
		{"many by 1 and 5 of 8", c.many(8, 0b00100010), 8},
		{"many by 3 and 4 of 9", c.many(9, 1<<3|1<<4), 1},
		{"many by 1 and 4 of 9", c.many(9, 1<<1|1<<4), 5},
		{"many by 3 and 6 of 9, in parts", c.many(9, 1<<3|1<<6), 0},
		{"many by all of 9", c.many(9, allSteps(9)), 40320},
		{"one by 1 of 12", c.one(12, 1), 12},
		{"one by 8 of 12", c.one(12, 8), 3},
		{"one by 6 of 12", c.one(12, 6), 2},
		{"one by 11 of 12", c.one(12, 11), 12},
		{"one by 3 of 9", c.one(9, 3), 3},
	} {
		if x.got != x.want {
			t.Errorf("%s: %d, want %d", x.name, x.got, x.want)
		}
	}
}

func TestRoundsOfTwoWrittenOut(t *testing.T) {
	for _, x := range []ringPair{{3, 1, 2}, {4, 1, 3}, {4, 3, 2}, {6, 1, 3}, {6, 5, 2}, {9, 3, 4}, {12, 1, 11}, {12, 7, 10}, {12, 6, 5}, {11, 10, 4}} {
		if !impl.RoundTwo(x.n, x.a, x.b) {
			t.Errorf("RoundTwo(%d, %d, %d) does not hold", x.n, x.a, x.b)
		}
	}
	// By 2 and 4 of 6 or 4 and 6 of 12, the greatest common divisor alone tells that there is no round.
	for _, x := range []ringPair{{6, 2, 3}, {6, 3, 4}, {6, 2, 4}, {10, 5, 2}, {12, 4, 6}, {12, 3, 4}, {12, 9, 2}, {12, 8, 3}} {
		if impl.RoundTwo(x.n, x.a, x.b) {
			t.Errorf("RoundTwo(%d, %d, %d) holds", x.n, x.a, x.b)
		}
	}
}

// TestRoundResultsAreNew writes into results, behind them as well, and asks again; the arguments stay as they were.
func TestRoundResultsAreNew(t *testing.T) {
	for n := 2; n <= impl.RingMax; n++ {
		round, word := alongWord(n, slices.Repeat([]int{n - 1}, n)), slices.Repeat([]int{n - 1}, n)
		calls := []func() ([]int, bool){
			func() ([]int, bool) { return impl.RoundWord(n, round) },
			func() ([]int, bool) { return impl.RoundBy(n, word) },
		}
		if n <= mostSearched {
			calls = append(calls, func() ([]int, bool) { return impl.RoundFirst(n, allSteps(n)) })
		}
		for _, call := range calls {
			first, _ := call()
			want := slices.Clone(first)
			for i := range first[:cap(first)] {
				first[:cap(first)][i] = 99
			}
			if again, ok := call(); !ok || !slices.Equal(again, want) {
				t.Errorf("%d places asked again: %v, %v, want %v", n, again, ok, want)
			}
		}
		if impl.RoundIs(n, 0b10, round) != (n == 2) || !slices.Equal(round, alongWord(n, word)) || !slices.Equal(word, slices.Repeat([]int{n - 1}, n)) {
			t.Errorf("arguments changed: %v, %v", round, word)
		}
	}
}

// TestRoundsAskedAtOnce asks many times at the same time: no answer depends on which goroutine is done first.
func TestRoundsAskedAtOnce(t *testing.T) {
	c := newRoundCalls(t)
	s := 1<<2 | 1<<3 | 1<<5 | 1<<6
	many, first := c.many(8, s), c.firstRound(8, s)
	var asking sync.WaitGroup
	for range 200 {
		asking.Go(func() {
			if got, ok := impl.RoundMany(8, s); !ok || got != many {
				t.Errorf("RoundMany(8, %d) = %d, %v, ahead of this %d", s, got, ok, many)
			}
			if got, ok := impl.RoundFirst(8, s); !ok || !slices.Equal(got, first) {
				t.Errorf("RoundFirst(8, %d) = %v, %v, ahead of this %v", s, got, ok, first)
			}
		})
	}
	asking.Wait()
}

// TestNoGoroutineStays gives goroutines that are done some time to be gone.
func TestNoGoroutineStays(t *testing.T) {
	before := runtime.NumGoroutine()
	for s := 0; s < 1<<mostSearched; s += 2 {
		impl.RoundFirst(mostSearched, s)
		impl.RoundMany(mostSearched, s)
	}
	for range 1000 {
		if runtime.NumGoroutine() <= before {
			return
		}
		time.Sleep(5 * time.Millisecond)
	}
	t.Errorf("%d goroutines, %d ahead of the calls", runtime.NumGoroutine(), before)
}
