package tests

import (
	"slices"
	"testing"

	"loop.example/ringsofsteps/impl"
)

func TestDistancesWaysAndWordsAreFoundBySearch(t *testing.T) {
	c := farCalls{stepCalls{ringCalls{t}}}
	for n, s := range eachSteps() {
		list, ways := c.list(n, s), c.ways(n, s)
		for v, want := range shortestWords(n, s) {
			if list[v] != want.distance || ways[v] != want.ways {
				t.Fatalf("FarList(%d, %d) = %v, FarWays %v: place %d, want %v", n, s, list, ways, v, want)
			}
			if want.distance < 0 {
				continue
			}
			if got := c.word(n, s, v); !slices.Equal(got, want.first) {
				t.Fatalf("FarWord(%d, %d, %d) = %v, want %v", n, s, v, got, want.first)
			}
		}
	}
}

func TestMostSumAndLayersAreThoseOfTheDistances(t *testing.T) {
	c := farCalls{stepCalls{ringCalls{t}}}
	for n, s := range eachSteps() {
		distances := distancesOf(shortestWords(n, s))
		most := slices.Max(distances)
		layers, total := make([]int, most+1), 0
		for _, d := range distances {
			if d >= 0 {
				layers[d]++
				total += d
			}
		}
		if got := c.layers(n, s); !slices.Equal(got, layers) {
			t.Fatalf("FarLayers(%d, %d) = %v, want %v", n, s, got, layers)
		}
		if !leadEverywhere(n, s) {
			continue
		}
		if c.most(n, s) != most || c.total(n, s) != total {
			t.Fatalf("FarMost(%d, %d) = %d, want %d, FarSum %d, want %d", n, s, c.most(n, s), most, c.total(n, s), total)
		}
	}
}

func TestBestIsFoundBySearch(t *testing.T) {
	c := farCalls{stepCalls{ringCalls{t}}}
	for n, k := range eachBest() {
		if got, want := c.best(n, k), bestBySearch(n, k); got != want {
			t.Errorf("FarBest(%d, %d) = %d, want %d", n, k, got, want)
		}
	}
}

// TestTurnedDistancesMoveAlong needs no turned steps: turned by a unit, a word of a place is one of the place turned by it.
func TestTurnedDistancesMoveAlong(t *testing.T) {
	c := farCalls{stepCalls{ringCalls{t}}}
	for n, s := range eachSteps() {
		list := distancesOf(shortestWords(n, s))
		for _, m := range unitsOf(n) {
			got := c.turnedList(n, s, m)
			for v := range n {
				if got[place(n, v*m)] != list[v] {
					t.Fatalf("FarTurned(%d, %d, %d) = %v, not turned %v", n, s, m, got, list)
				}
			}
		}
	}
}

// TestFarWithoutSteps writes out the set 0: no way leads anywhere but to 0, by the empty word.
func TestFarWithoutSteps(t *testing.T) {
	c := farCalls{stepCalls{ringCalls{t}}}
	for n := 1; n <= impl.RingMax; n++ {
		list, ways := slices.Repeat([]int{-1}, n), make([]int, n)
		list[0], ways[0] = 0, 1
		if got := c.list(n, 0); !slices.Equal(got, list) {
			t.Errorf("no steps of %d: distances %v, want %v", n, got, list)
		}
		if got := c.ways(n, 0); !slices.Equal(got, ways) {
			t.Errorf("no steps of %d: ways %v, want %v", n, got, ways)
		}
		if got := c.layers(n, 0); !slices.Equal(got, []int{1}) {
			t.Errorf("no steps of %d: layers %v", n, got)
		}
		for _, m := range unitsOf(n) {
			if got := c.turnedList(n, 0, m); !slices.Equal(got, list) {
				t.Errorf("no steps of %d, turned by %d: distances %v, want %v", n, m, got, list)
			}
		}
		most, everywhere := impl.FarMost(n, 0)
		total, added := impl.FarSum(n, 0)
		if most != 0 || total != 0 || everywhere != (n == 1) || added != (n == 1) {
			t.Errorf("no steps of %d: most %d, %v, sum %d, %v", n, most, everywhere, total, added)
		}
		for v := range n {
			if word, ok := impl.FarWord(n, 0, v); len(word) != 0 || ok != (v == 0) {
				t.Errorf("no steps of %d: word of %d %v, %v", n, v, word, ok)
			}
		}
	}
}

// TestFarWithAllSteps writes out the steps by which an arc leads to each place.
func TestFarWithAllSteps(t *testing.T) {
	c := farCalls{stepCalls{ringCalls{t}}}
	for n := 2; n <= impl.RingMax; n++ {
		s, ones := allSteps(n), slices.Repeat([]int{1}, n)
		list := slices.Clone(ones)
		list[0] = 0
		if got := c.list(n, s); !slices.Equal(got, list) {
			t.Errorf("all steps of %d: distances %v", n, got)
		}
		if got := c.ways(n, s); !slices.Equal(got, ones) {
			t.Errorf("all steps of %d: ways %v", n, got)
		}
		if got := c.layers(n, s); !slices.Equal(got, []int{1, n - 1}) {
			t.Errorf("all steps of %d: layers %v", n, got)
		}
		if c.most(n, s) != 1 || c.total(n, s) != n-1 {
			t.Errorf("all steps of %d: most %d, sum %d", n, c.most(n, s), c.total(n, s))
		}
		for v := 1; v < n; v++ {
			if got := c.word(n, s, v); !slices.Equal(got, []int{v}) {
				t.Errorf("all steps of %d: word of %d %v", n, v, got)
			}
		}
	}
}

// TestFarWordOfZero holds for all steps: no step is needed to stay at 0.
func TestFarWordOfZero(t *testing.T) {
	c := farCalls{stepCalls{ringCalls{t}}}
	for n, s := range eachSteps() {
		if got := c.word(n, s, 0); len(got) != 0 {
			t.Fatalf("FarWord(%d, %d, 0) = %v", n, s, got)
		}
	}
}

// TestFarListsWrittenOut holds single results, written out by hand, against the program.
func TestFarListsWrittenOut(t *testing.T) {
	c := farCalls{stepCalls{ringCalls{t}}}
	for _, x := range []struct {
		name      string
		got, want []int
	}{
		{"distances by 1 of 2", c.list(2, 0b10), []int{0, 1}},
		{"distances by 2 of 5", c.list(5, 0b00100), []int{0, 3, 1, 4, 2}},
		{"distances by 1 and 3 of 8", c.list(8, 0b00001010), []int{0, 1, 2, 1, 2, 3, 2, 3}},
		{"distances by 1 of 12", c.list(12, 1<<1), []int{0, 1, 2, 3, 4, 5, 6, 7, 8, 9, 10, 11}},
		{"distances by 6 of 12", c.list(12, 1<<6), []int{0, -1, -1, -1, -1, -1, 1, -1, -1, -1, -1, -1}},
		{"distances by 8 of 12", c.list(12, 1<<8), []int{0, -1, -1, -1, 2, -1, -1, -1, 1, -1, -1, -1}},
		{"distances by 4 and 6 of 12", c.list(12, 1<<4|1<<6), []int{0, -1, 3, -1, 1, -1, 1, -1, 2, -1, 2, -1}},
		{"distances by 6 and 9 of 12", c.list(12, 1<<6|1<<9), []int{0, -1, -1, 2, -1, -1, 1, -1, -1, 1, -1, -1}},
		{"ways by 1 and 2 of 5", c.ways(5, 0b00110), []int{1, 1, 1, 2, 1}},
		{"ways by 1 and 3 of 8", c.ways(8, 0b00001010), []int{1, 1, 1, 1, 2, 3, 1, 3}},
		{"ways by 1 and 2 of 12", c.ways(12, 0b110), []int{1, 1, 1, 2, 1, 3, 1, 4, 1, 5, 1, 6}},
		{"ways by 4 and 6 of 12", c.ways(12, 1<<4|1<<6), []int{1, 0, 3, 0, 1, 0, 1, 0, 1, 0, 2, 0}},
		{"word of 5 by 1 and 3 of 8", c.word(8, 0b00001010, 5), []int{1, 1, 3}},
		{"word of 7 by 1, 2, 5 and 6 of 9", c.word(9, 0b001100110, 7), []int{1, 6}},
		{"word of 2 by 4 and 6 of 12", c.word(12, 1<<4|1<<6, 2), []int{4, 4, 6}},
		{"word of 11 by 1 and 2 of 12", c.word(12, 0b110, 11), []int{1, 2, 2, 2, 2, 2}},
		{"word of 1 by 11 of 12", c.word(12, 1<<11, 1), slices.Repeat([]int{11}, 11)},
		{"layers by 1 and 3 of 8", c.layers(8, 0b00001010), []int{1, 2, 3, 2}},
		{"layers by 4 and 6 of 12", c.layers(12, 1<<4|1<<6), []int{1, 2, 2, 1}},
		{"layers by 5 of 12", c.layers(12, 1<<5), slices.Repeat([]int{1}, 12)},
		{"distances by 1 and 2 of 5, turned by 2", c.turnedList(5, 0b00110, 2), []int{0, 2, 1, 2, 1}},
		{"distances by 1 of 7, turned by 6", c.turnedList(7, 0b10, 6), []int{0, 6, 5, 4, 3, 2, 1}},
		{"distances by 4 of 12, turned by 11", c.turnedList(12, 1<<4, 11), []int{0, -1, -1, -1, 2, -1, -1, -1, 1, -1, -1, -1}},
		{"distances by none of 1, turned by 0", c.turnedList(1, 0, 0), []int{0}},
	} {
		if !slices.Equal(x.got, x.want) {
			t.Errorf("%s: %v, want %v", x.name, x.got, x.want)
		}
	}
}

func TestFarNumbersWrittenOut(t *testing.T) {
	c := farCalls{stepCalls{ringCalls{t}}}
	for _, x := range []struct {
		name      string
		got, want int
	}{
		{"most by none of 1", c.most(1, 0), 0},
		{"most by 1 and 3 of 8", c.most(8, 0b00001010), 3},
		{"most by 7 of 12", c.most(12, 1<<7), 11},
		{"most by 3 and 4 of 12", c.most(12, 1<<3|1<<4), 5},
		{"sum by none of 1", c.total(1, 0), 0},
		{"sum by 1 and 3 of 8", c.total(8, 0b00001010), 14},
		{"sum by 7 of 12", c.total(12, 1<<7), 66},
		{"best of 2 with 1", c.best(2, 1), 0b10},
		{"best of 4 with 1, 2 not leading everywhere", c.best(4, 1), 0b0010},
		{"best of 6 with 2", c.best(6, 2), 0b000110},
		{"best of 8 with 2, 1 and 2 being worse", c.best(8, 2), 0b00001010},
		{"best of 9 with 1", c.best(9, 1), 0b10},
		{"best of 9 with 7", c.best(9, 7), 0b011111110},
		{"best of 9 with 8", c.best(9, 8), 0b111111110},
	} {
		if x.got != x.want {
			t.Errorf("%s: %d, want %d", x.name, x.got, x.want)
		}
	}
}

// TestFarResultsAreNew writes into results, behind them as well, and asks again.
func TestFarResultsAreNew(t *testing.T) {
	word := func(n, s int) ([]int, bool) { return impl.FarWord(n, s, 11) }
	turned := func(n, s int) ([]int, bool) { return impl.FarTurned(n, s, 5) }
	for _, call := range []func(n, s int) ([]int, bool){impl.FarList, impl.FarWays, word, impl.FarLayers, turned} {
		first, _ := call(12, 0b110)
		want := slices.Clone(first)
		for i := range first[:cap(first)] {
			first[:cap(first)][i] = 99
		}
		if again, ok := call(12, 0b110); !ok || !slices.Equal(again, want) {
			t.Errorf("asked again: %v, %v, want %v", again, ok, want)
		}
	}
}
