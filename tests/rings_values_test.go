package tests

import (
	"slices"
	"testing"

	"loop.example/ringsofsteps/impl"
)

func TestShiftsAndTurnsAreThoseOfTheDocument(t *testing.T) {
	c := ringCalls{t}
	for n, set := range eachSet() {
		for k := -100; k <= 100; k++ {
			if got, want := c.shift(n, set, k), shifted(n, set, k); got != want {
				t.Fatalf("RingShift(%d, %d, %d) = %d, want %d", n, set, k, got, want)
			}
			if got, want := c.turn(n, set, k), turned(n, set, k); got != want {
				t.Fatalf("RingTurn(%d, %d, %d) = %d, want %d", n, set, k, got, want)
			}
		}
	}
}

func TestSumsAndDifferencesAreThoseOfTheDocument(t *testing.T) {
	c := ringCalls{t}
	for p := range eachPair() {
		if got, want := c.sum(p.n, p.a, p.b), sums(p.n, p.a, p.b); got != want {
			t.Fatalf("RingSum of %v = %d, want %d", p, got, want)
		}
		if got, want := c.counts(p.n, p.a, p.b), waysOfSums(p.n, p.a, p.b); !slices.Equal(got, want) {
			t.Fatalf("RingCounts of %v = %v, want %v", p, got, want)
		}
		if got, want := c.minus(p.n, p.a, p.b), differences(p.n, p.a, p.b); got != want {
			t.Fatalf("RingMinus of %v = %d, want %d", p, got, want)
		}
	}
}

func TestHoldsAreThoseOfTheDocument(t *testing.T) {
	c := ringCalls{t}
	for n, set := range eachSet() {
		want := 0
		for k := range n {
			if shifted(n, set, k) == set {
				want |= 1 << k
			}
		}
		if got := c.holds(n, set); got != want {
			t.Fatalf("RingHolds(%d, %d) = %d, want %d", n, set, got, want)
		}
	}
}

func TestUnitsAreThoseOfTheDocument(t *testing.T) {
	c := ringCalls{t}
	for n := 1; n <= impl.RingMax; n++ {
		want := 0
		for _, u := range unitsOf(n) {
			want |= 1 << u
		}
		if got := c.units(n); got != want {
			t.Errorf("RingUnits(%d) = %d, want %d", n, got, want)
		}
	}
}

func TestLeastAndFirstAreThoseOfTheDocument(t *testing.T) {
	c := ringCalls{t}
	for n, set := range eachSet() {
		least := set
		for k := range n {
			least = min(least, shifted(n, set, k))
		}
		if got := c.least(n, set); got != least {
			t.Fatalf("RingLeast(%d, %d) = %d, want %d", n, set, got, least)
		}
		if got, want := c.first(n, set), slices.Min(likesOf(n, set)); got != want {
			t.Fatalf("RingFirst(%d, %d) = %d, want %d", n, set, got, want)
		}
	}
}

func TestAlikeIsThatOfTheDocument(t *testing.T) {
	for n, a := range eachSet() {
		likes := likesOf(n, a)
		for _, b := range append(partners(n, a), likes...) {
			if got, want := impl.RingAlike(n, a, b), slices.Contains(likes, b); got != want {
				t.Fatalf("RingAlike(%d, %d, %d) = %v, want %v", n, a, b, got, want)
			}
		}
	}
}

func TestClassesAreThoseOfTheDocument(t *testing.T) {
	c := ringCalls{t}
	for n := 1; n <= impl.RingMax; n++ {
		want := 0
		seen := make([]bool, 1<<n)
		for set := range seen {
			if seen[set] {
				continue
			}
			want++
			for _, like := range likesOf(n, set) {
				seen[like] = true
			}
		}
		if got := c.classes(n); got != want {
			t.Errorf("RingClasses(%d) = %d, want %d", n, got, want)
		}
	}
}

func TestRingMax(t *testing.T) {
	if impl.RingMax != 12 {
		t.Errorf("RingMax = %d, want 12", impl.RingMax)
	}
}

// TestWrittenOut holds single results, written out by hand, against the program.
func TestWrittenOut(t *testing.T) {
	c := ringCalls{t}
	for _, x := range []struct {
		name      string
		got, want int
	}{
		{"shift of 0 and 2 of 5 by 4", c.shift(5, 0b00101, 4), 0b10010},
		{"shift of 0 and 2 of 5 by -1", c.shift(5, 0b00101, -1), 0b10010},
		{"shift of 0 of 12 by 100", c.shift(12, 1, 100), 1 << 4},
		{"shift of 0 of 12 by -100", c.shift(12, 1, -100), 1 << 8},
		{"turn of 1 and 3 of 8 by 3", c.turn(8, 0b1010, 3), 0b1010},
		{"turn of 1 and 3 of 8 by -1", c.turn(8, 0b1010, -1), 0b10100000},
		{"turn of 1 and 4 of 6 by 2", c.turn(6, 0b10010, 2), 0b100},
		{"turn of 1 of 7 by 100", c.turn(7, 2, 100), 1 << 2},
		{"turn of 1 of 7 by -100", c.turn(7, 2, -100), 1 << 5},
		{"turn of all 12 by 0", c.turn(12, 4095, 0), 1},
		{"turn of none by 0", c.turn(12, 0, 0), 0},
		{"sum of 0, 2 and 3 of 6 with 1 and 5", c.sum(6, 0b001101, 0b100010), 0b111110},
		{"sum of the empty set and all", c.sum(12, 0, 4095), 0},
		{"sum of 0 and 6 with itself", c.sum(12, 65, 65), 65},
		{"0 and 1 of 5 less 1 and 2", c.minus(5, 0b00011, 0b00110), 0b11001},
		{"none less all", c.minus(12, 0, 4095), 0},
		{"holds of 0, 1, 4, 5, 8 and 9 of 12", c.holds(12, 0b001100110011), 0b000100010001},
		{"holds of the empty set", c.holds(7, 0), 127},
		{"units of 10", c.units(10), 1<<1 | 1<<3 | 1<<7 | 1<<9},
		{"units of 11", c.units(11), 2046},
		{"least of 2, 3 and 5 of 6", c.least(6, 0b101100), 0b001011},
		{"least of all 12", c.least(12, 4095), 4095},
		{"first of 0, 1 and 5 of 7", c.first(7, 0b0100011), 0b0001011},
		{"first of 0 and 5 of 12", c.first(12, 0b100001), 0b11},
		{"first of 0 and 4 of 12", c.first(12, 0b10001), 0b10001},
	} {
		if x.got != x.want {
			t.Errorf("%s: %b, want %b", x.name, x.got, x.want)
		}
	}
	if got := c.counts(4, 0b0111, 0b1010); !slices.Equal(got, []int{1, 2, 1, 2}) {
		t.Errorf("RingCounts(4, 7, 10) = %v", got)
	}
	for n, want := range []int{2, 3, 4, 6, 6, 13, 10, 24, 22, 45, 30, 158} {
		if got := c.classes(n + 1); got != want {
			t.Errorf("RingClasses(%d) = %d, want %d", n+1, got, want)
		}
	}
}

// TestOnePlace writes out a ring of one place, where 0 is a unit and the only place.
func TestOnePlace(t *testing.T) {
	c := ringCalls{t}
	if !impl.RingIn(1, 0) || !impl.RingIn(1, 1) || impl.RingIn(1, 2) || impl.RingIn(1, -1) {
		t.Error("RingIn: the sets of one place are 0 and 1")
	}
	for set := range 2 {
		for k := -100; k <= 100; k++ {
			if c.shift(1, set, k) != set || c.turn(1, set, k) != set {
				t.Errorf("the set %d moved by %d", set, k)
			}
		}
		if c.holds(1, set) != 1 || c.least(1, set) != set || c.first(1, set) != set {
			t.Errorf("holds %d, least %d, first %d of the set %d", c.holds(1, set), c.least(1, set), c.first(1, set), set)
		}
		for b := range 2 {
			both := set * b
			if c.sum(1, set, b) != both || c.minus(1, set, b) != both || !slices.Equal(c.counts(1, set, b), []int{both}) {
				t.Errorf("sums of the sets %d and %d", set, b)
			}
			if impl.RingAlike(1, set, b) != (set == b) {
				t.Errorf("RingAlike(1, %d, %d) = %v", set, b, set != b)
			}
		}
	}
	if c.units(1) != 1 || c.classes(1) != 2 {
		t.Errorf("units %d, classes %d", c.units(1), c.classes(1))
	}
}

func TestCountsShareNoMemory(t *testing.T) {
	c := ringCalls{t}
	want := []int{1, 0, 2, 0, 1}
	one := c.counts(5, 0b101, 0b101)
	two := c.counts(5, 0b101, 0b101)
	one = one[:cap(one)]
	for i := range one {
		one[i] = -7
	}
	if three := c.counts(5, 0b101, 0b101); !slices.Equal(two, want) || !slices.Equal(three, want) {
		t.Errorf("beside a result that was written over: %v and %v, want %v", two, three, want)
	}
}
