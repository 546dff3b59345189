package tests

import (
	"testing"

	"loop.example/ringsofsteps/impl"
)

func TestBothEvenAndOtherAreThoseOfTheDocument(t *testing.T) {
	c := stepCalls{ringCalls{t}}
	for n, s := range eachSteps() {
		both := s | turned(n, s, -1)
		if got := c.both(n, s); got != both {
			t.Fatalf("StepBoth(%d, %d) = %d, want %d", n, s, got, both)
		}
		if got, want := impl.StepEven(n, s), both == s; got != want {
			t.Fatalf("StepEven(%d, %d) = %v, want %v", n, s, got, want)
		}
		other := 0
		for v := 1; v < n; v++ {
			if s&(1<<v) == 0 {
				other |= 1 << v
			}
		}
		if got := c.other(n, s); got != other {
			t.Fatalf("StepOther(%d, %d) = %d, want %d", n, s, got, other)
		}
	}
}

func TestNextIsWhereArcsLead(t *testing.T) {
	c := stepCalls{ringCalls{t}}
	for n, s := range eachSteps() {
		want := make([]int, n)
		for from, to := range arcs(n, s) {
			want[from] |= 1 << to
		}
		for v := range n {
			if got := c.next(n, s, v); got != want[v] {
				t.Fatalf("StepNext(%d, %d, %d) = %d, want %d", n, s, v, got, want[v])
			}
		}
	}
}

func TestPartAndPartsAreFoundBySearch(t *testing.T) {
	c := stepCalls{ringCalls{t}}
	for n, s := range eachSteps() {
		if got, want := c.part(n, s), reached(n, s)[0]; got != want {
			t.Fatalf("StepPart(%d, %d) = %d, want %d", n, s, got, want)
		}
		if got, want := c.parts(n, s), joinedClasses(n, s); got != want {
			t.Fatalf("StepParts(%d, %d) = %d, want %d", n, s, got, want)
		}
	}
}

func TestHalvesAreFoundBySearch(t *testing.T) {
	for n, s := range eachSteps() {
		if got, want := impl.StepHalves(n, s), hasTwoColours(n, s); got != want {
			t.Fatalf("StepHalves(%d, %d) = %v, want %v", n, s, got, want)
		}
	}
}

func TestCutsAreCountedThereAndBack(t *testing.T) {
	c := stepCalls{ringCalls{t}}
	for n, s := range eachSteps() {
		all := 1<<n - 1
		for _, set := range partners(n, s) {
			there, back := cutArcs(n, s, set, all^set), cutArcs(n, s, all^set, set)
			if got := c.cuts(n, s, set); got != there || got != back {
				t.Fatalf("StepCuts(%d, %d, %d) = %d, want %d, back %d", n, s, set, got, there, back)
			}
		}
	}
}

// TestNoSteps writes out the set 0 on rings of every size: no arcs, each place joined to itself alone.
func TestNoSteps(t *testing.T) {
	c := stepCalls{ringCalls{t}}
	for n := 1; n <= impl.RingMax; n++ {
		if !impl.StepIn(n, 0) || !impl.StepEven(n, 0) || !impl.StepHalves(n, 0) {
			t.Errorf("no steps of %d: in %v, even %v, halves %v", n, impl.StepIn(n, 0), impl.StepEven(n, 0), impl.StepHalves(n, 0))
		}
		if c.both(n, 0) != 0 || c.other(n, 0) != allSteps(n) {
			t.Errorf("no steps of %d: both %d, other %d", n, c.both(n, 0), c.other(n, 0))
		}
		if c.part(n, 0) != 1 || c.parts(n, 0) != n {
			t.Errorf("no steps of %d: part %d, parts %d", n, c.part(n, 0), c.parts(n, 0))
		}
		for v := range n {
			if got := c.next(n, 0, v); got != 0 {
				t.Errorf("no steps of %d: from %d arcs lead to %d", n, v, got)
			}
		}
		for set := range 1 << n {
			if got := c.cuts(n, 0, set); got != 0 {
				t.Errorf("no steps of %d: %d arcs from %d", n, got, set)
			}
		}
	}
}

// TestAllSteps writes out the steps by which an arc leads from each place to each other one.
func TestAllSteps(t *testing.T) {
	c := stepCalls{ringCalls{t}}
	for n := 1; n <= impl.RingMax; n++ {
		s, all := allSteps(n), 1<<n-1
		if !impl.StepIn(n, s) || !impl.StepEven(n, s) || impl.StepHalves(n, s) != (n <= 2) {
			t.Errorf("all steps of %d: in %v, even %v, halves %v", n, impl.StepIn(n, s), impl.StepEven(n, s), impl.StepHalves(n, s))
		}
		if c.both(n, s) != s || c.other(n, s) != 0 {
			t.Errorf("all steps of %d: both %d, other %d", n, c.both(n, s), c.other(n, s))
		}
		if c.part(n, s) != all || c.parts(n, s) != 1 {
			t.Errorf("all steps of %d: part %d, parts %d", n, c.part(n, s), c.parts(n, s))
		}
		for v := range n {
			if got := c.next(n, s, v); got != all^1<<v {
				t.Errorf("all steps of %d: from %d arcs lead to %d", n, v, got)
			}
		}
		for set := range 1 << n {
			if got, want := c.cuts(n, s, set), size(set)*(n-size(set)); got != want {
				t.Errorf("all steps of %d: %d arcs from %d, want %d", n, got, set, want)
			}
		}
	}
}

// TestStepsWrittenOut holds single results, written out by hand, against the program.
func TestStepsWrittenOut(t *testing.T) {
	c := stepCalls{ringCalls{t}}
	for _, x := range []struct {
		name      string
		got, want int
	}{
		{"both of 1 and 3 of 7", c.both(7, 0b0001010), 0b1011010},
		{"both of 6 of 12", c.both(12, 1<<6), 1 << 6},
		{"other of 1 and 3 of 7", c.other(7, 0b0001010), 0b1110100},
		{"other of 1 of 2", c.other(2, 0b10), 0},
		{"next of 2 and 3 of 6 from 5", c.next(6, 0b001100, 5), 0b000110},
		{"next of 2 and 3 of 6 from 0", c.next(6, 0b001100, 0), 0b001100},
		{"next of 11 of 12 from 11", c.next(12, 1<<11, 11), 1 << 10},
		{"part of 4 and 6 of 12", c.part(12, 1<<4|1<<6), 0b010101010101},
		{"part of 8 of 12", c.part(12, 1<<8), 0b000100010001},
		{"part of 3 of 7", c.part(7, 1<<3), 127},
		{"part of 6 and 9 of 12", c.part(12, 1<<6|1<<9), 0b001001001001},
		{"parts of 4 and 6 of 12", c.parts(12, 1<<4|1<<6), 2},
		{"parts of 8 of 12", c.parts(12, 1<<8), 4},
		{"parts of 3 of 7", c.parts(7, 1<<3), 1},
		{"parts of 6 and 9 of 12", c.parts(12, 1<<6|1<<9), 3},
		{"parts of 4 of 10", c.parts(10, 1<<4), 2},
		{"cuts of 1 of 5, 0 and 1", c.cuts(5, 0b00010, 0b00011), 1},
		{"cuts of 1 of 5, 0 and 2", c.cuts(5, 0b00010, 0b00101), 2},
		{"cuts of 1 and 4 of 5, 0 and 2", c.cuts(5, 0b10010, 0b00101), 4},
		{"cuts of 2 of 4, 0 and 2", c.cuts(4, 0b0100, 0b0101), 0},
		{"cuts of 2 of 4, 0 and 1", c.cuts(4, 0b0100, 0b0011), 2},
	} {
		if x.got != x.want {
			t.Errorf("%s: %b, want %b", x.name, x.got, x.want)
		}
	}
}

func TestHalvesAndEvenWrittenOut(t *testing.T) {
	for _, x := range []struct {
		name      string
		got, want bool
	}{
		{"halves of 1 of 2", impl.StepHalves(2, 0b10), true},
		{"halves of 1 of 3", impl.StepHalves(3, 0b010), false},
		{"halves of 1 and 2 of 6", impl.StepHalves(6, 0b000110), false},
		{"halves of 1, 3 and 5 of 6", impl.StepHalves(6, 0b101010), true},
		{"halves of 2 of 6", impl.StepHalves(6, 0b000100), false},
		{"halves of 2 and 6 of 8", impl.StepHalves(8, 0b01000100), true},
		{"halves of 2 of 12", impl.StepHalves(12, 1<<2), true},
		{"halves of 4 of 12", impl.StepHalves(12, 1<<4), false},
		{"halves of 6 of 12", impl.StepHalves(12, 1<<6), true},
		{"halves of 3 and 6 of 12", impl.StepHalves(12, 1<<3|1<<6), false},
		{"halves of 3 and 9 of 12", impl.StepHalves(12, 1<<3|1<<9), true},
		{"even of 1 and 4 of 5", impl.StepEven(5, 0b10010), true},
		{"even of 1 and 3 of 5", impl.StepEven(5, 0b01010), false},
		{"even of 6 of 12", impl.StepEven(12, 1<<6), true},
		{"even of 1, 6 and 11 of 12", impl.StepEven(12, 1<<1|1<<6|1<<11), true},
		{"even of 1 and 6 of 12", impl.StepEven(12, 1<<1|1<<6), false},
	} {
		if x.got != x.want {
			t.Errorf("%s: %v, want %v", x.name, x.got, x.want)
		}
	}
}
