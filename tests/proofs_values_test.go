package tests

import (
	"slices"
	"strings"
	"testing"

	"loop.example/ringsofsteps/impl"
)

// TestProofsTellChaptersAhead holds the proofs of all steps of all rings against words, distances and rounds.
func TestProofsTellChaptersAhead(t *testing.T) {
	c := newProofCalls(t)
	for n, s := range eachSteps() {
		list := c.list(n, s)
		if got, want := c.proofFar(n, s), proofText("far", heightsFrom(list)...); got != want {
			t.Fatalf("ProofFar(%d, %d) = %q, want %q", n, s, got, want)
		}
		for v, far := range list {
			if far == -1 {
				checkNoProofNear(t, n, s, v)
			} else if got, want := c.proofNear(n, s, v), proofText("near", c.word(n, s, v)...); got != want {
				t.Fatalf("ProofNear(%d, %d, %d) = %q, want %q", n, s, v, got, want)
			}
		}
		if first, ok := impl.RoundFirst(n, s); !ok {
			checkNoProofRound(t, n, s)
		} else if got, want := c.proofRound(n, s), proofText("round", first...); got != want {
			t.Fatalf("ProofRound(%d, %d) = %q, want %q", n, s, got, want)
		}
	}
}

func TestNearProofsWrittenOut(t *testing.T) {
	c := newProofCalls(t)
	for _, x := range []struct {
		n, s, v int
		want    string
	}{
		{1, 0, 0, "near"},
		{2, 0, 0, "near"},
		{2, 0b10, 0, "near"},
		{2, 0b10, 1, "near 1"},
		{5, 0b00110, 0, "near"},
		{5, 0b00110, 2, "near 2"},
		{5, 0b00110, 3, "near 1 2"},
		{5, 0b00110, 4, "near 2 2"},
		{6, 0b000100, 4, "near 2 2"},
		{10, 0b1000000000, 1, "near 9 9 9 9 9 9 9 9 9"},
		{11, 0b10000000000, 9, "near 10 10"},
		{12, 0, 0, "near"},
		{12, 0b000000000010, 11, "near 1 1 1 1 1 1 1 1 1 1 1"},
		{12, 0b100000000000, 10, "near 11 11"},
		{12, 0b110000000000, 9, "near 10 11"},
		{12, allSteps(12), 11, "near 11"},
	} {
		if got := c.proofNear(x.n, x.s, x.v); got != x.want {
			t.Errorf("ProofNear(%d, %b, %d) = %q, want %q", x.n, x.s, x.v, got, x.want)
		}
	}
	checkNoProofNear(t, 6, 0b000100, 3)
	checkNoProofNear(t, 2, 0, 1)
	checkNoProofNear(t, 12, 0, 11)
}

func TestFarProofsWrittenOut(t *testing.T) {
	c := newProofCalls(t)
	for _, x := range []struct {
		n, s int
		want string
	}{
		{1, 0, "far 0"},
		{2, 0, "far 0 2"},
		{2, 0b10, "far 0 1"},
		{5, 0, "far 0 5 5 5 5"},
		{5, 0b00010, "far 0 1 2 3 4"},
		{5, 0b10000, "far 0 4 3 2 1"},
		{5, 0b00110, "far 0 1 1 2 2"},
		{5, 0b11110, "far 0 1 1 1 1"},
		{6, 0b000100, "far 0 6 1 6 2 6"},
		{10, 0b0000100000, "far 0 10 10 10 10 1 10 10 10 10"},
		{12, 0, "far 0 12 12 12 12 12 12 12 12 12 12 12"},
		{12, 0b000000000010, "far 0 1 2 3 4 5 6 7 8 9 10 11"},
		{12, 0b100000000000, "far 0 11 10 9 8 7 6 5 4 3 2 1"},
	} {
		if got := c.proofFar(x.n, x.s); got != x.want {
			t.Errorf("ProofFar(%d, %b) = %q, want %q", x.n, x.s, got, x.want)
		}
	}
}

func TestRoundProofsWrittenOut(t *testing.T) {
	c := newProofCalls(t)
	for _, x := range []struct {
		n, s int
		want string
	}{
		{2, 0b10, "round 0 1"},
		{3, 0b010, "round 0 1 2"},
		{3, 0b100, "round 0 2 1"},
		{5, 0b00100, "round 0 2 4 1 3"},
		{6, 0b100100, "round 0 2 1 3 5 4"},
		{9, 0b000000010, "round 0 1 2 3 4 5 6 7 8"},
		{9, 0b100000000, "round 0 8 7 6 5 4 3 2 1"},
		{9, allSteps(9), "round 0 1 2 3 4 5 6 7 8"},
	} {
		if got := c.proofRound(x.n, x.s); got != x.want {
			t.Errorf("ProofRound(%d, %b) = %q, want %q", x.n, x.s, got, x.want)
		}
	}
	checkNoProofRound(t, 1, 0)
	checkNoProofRound(t, 2, 0)
	checkNoProofRound(t, 6, 0b000100)
	checkNoProofRound(t, 6, 0b001100)
}

// TestAllShortLists has all short lists of numbers about the places of small rings behind each first word.
func TestAllShortLists(t *testing.T) {
	for n := 1; n <= 4; n++ {
		for length := range 5 {
			for list := range listsOf([]int{0, 1, 2, 3, 4, 5}[:n+2], length) {
				for _, first := range []string{"near", "far", "round"} {
					for s := 0; s < 1<<n; s += 2 {
						checkByWords(t, n, s, proofText(first, list...))
					}
				}
			}
		}
	}
}

// TestLongerLists has more numbers than small rings have places.
func TestLongerLists(t *testing.T) {
	for n := 1; n <= 3; n++ {
		for length := 5; length <= 6; length++ {
			for list := range listsOf(inOrder(n), length) {
				for s := 0; s < 1<<n; s += 2 {
					checkByWords(t, n, s, proofText("near", list...))
					checkByWords(t, n, s, proofText("far", list...))
					checkByWords(t, n, s, proofText("round", list...))
				}
			}
		}
	}
}

// TestWaysOfEachLength has proofs with up to 20 steps and texts with more, and such in which a number is changed.
func TestWaysOfEachLength(t *testing.T) {
	for n, s := range someSteps() {
		for i, way := range longWays(s) {
			texts := []string{proofText("near", way...)}
			for k, x := range []int{0, n, 1, n - 1, i % n} {
				if len(way) > 0 {
					changed := slices.Clone(way)
					changed[(i+k)*5%len(way)] = x
					texts = append(texts, proofText("near", changed...))
				}
			}
			for _, text := range texts {
				for v := range n {
					checkNearByWords(t, n, s, v, text)
				}
			}
		}
	}
}

// TestJustTwentySteps has 20 steps, and one or two more, that add up to a place.
func TestJustTwentySteps(t *testing.T) {
	c := newProofCalls(t)
	for n := 2; n <= impl.RingMax; n++ {
		for step := 1; step < n; step++ {
			for _, s := range []int{1 << step, allSteps(n)} {
				list := slices.Repeat([]int{step}, mostInNear)
				if got := c.proofNearIs(n, s, place(n, mostInNear*step), proofText("near", list...)); got != mostInNear {
					t.Errorf("ProofNearIs(%d, %d) of %d steps %d = %d", n, s, mostInNear, step, got)
				}
				for _, length := range []int{mostInNear + 1, mostInNear + 2, mostInNear + n, 100, 1000} {
					more := slices.Repeat([]int{step}, length)
					checkNoProofThatNear(t, n, s, place(n, length*step), proofText("near", more...))
				}
			}
		}
	}
}

// TestHeightsByArcs has heights that are distances by these steps or others, and such as are near to them.
func TestHeightsByArcs(t *testing.T) {
	c := newProofCalls(t)
	for n, s := range someSteps() {
		for i, heights := range c.someHeights(n, s) {
			for _, v := range []int{0, i % n, n - 1} {
				checkFarByWords(t, n, s, v, proofText("far", heights...))
			}
		}
	}
}

// TestHeightsOfMoreSteps has all pairs of steps of some rings: distances are heights by all steps among them.
func TestHeightsOfMoreSteps(t *testing.T) {
	c := newProofCalls(t)
	for _, n := range []int{2, 3, 4, 5, 6, 8} {
		for other := 0; other < 1<<n; other += 2 {
			list := c.list(n, other)
			text := proofText("far", heightsFrom(list)...)
			for s := 0; s < 1<<n; s += 2 {
				checkFarByWords(t, n, s, n-1, text)
				if s&^other == 0 && c.proofFarIs(n, s, n-1, text) != heightsFrom(list)[n-1] {
					t.Errorf("ProofFarIs(%d, %d, %d, %q) is none of the heights", n, s, n-1, text)
				}
			}
		}
	}
}

// TestRoundProofsByArcs gives lists of all places of every ring, and others that are near to them.
func TestRoundProofsByArcs(t *testing.T) {
	for n := 2; n <= impl.RingMax; n++ {
		for i, list := range someOrders(n) {
			own := setOf(alongList(n, list))
			for _, s := range []int{own, allSteps(n), own & (own - 1), allSteps(n) &^ own, 0, 0b10} {
				text := proofText("round", list...)
				if got, want := impl.ProofRoundIs(n, s, text), own&^s == 0; got != want {
					t.Fatalf("ProofRoundIs(%d, %d, %q) = %v", n, s, text, got)
				}
			}
			if i >= 20 {
				continue
			}
			for _, near := range brokenLists(list) {
				text := proofText("round", near...)
				if got, want := impl.ProofRoundIs(n, own, text), roundByWords(n, own, text); got != want {
					t.Fatalf("ProofRoundIs(%d, %d, %q) = %v", n, own, text, got)
				}
			}
		}
	}
}

// TestTextsNearProofs has texts that differ from a proof in one byte.
func TestTextsNearProofs(t *testing.T) {
	c := newProofCalls(t)
	for _, x := range []struct{ n, s int }{{1, 0}, {2, 0b10}, {5, 0b00110}, {9, 0b100000010}, {11, 0b10000000010}, {12, 0b110000000000}} {
		for i, proof := range c.proofsOf(x.n, x.s) {
			if x.n > 5 && i%4 != 0 {
				continue
			}
			for _, text := range nearTexts(proof, " 0123456789-+\n\t\x00\x80\xffr") {
				checkByWords(t, x.n, x.s, text)
			}
		}
	}
}

func TestProofsThatNearWrittenOut(t *testing.T) {
	c := newProofCalls(t)
	for _, x := range []struct {
		n, s, v int
		text    string
		want    int
	}{
		{1, 0, 0, "near", 0},
		{2, 0b10, 0, "near 1 1", 2},
		{2, 0b10, 1, "near 1 1 1", 3},
		{5, 0, 0, "near", 0},
		{5, 0b00110, 0, "near", 0},
		{5, 0b00110, 0, "near 1 2 2", 3},
		{5, 0b00110, 3, "near 1 2", 2},
		{5, 0b00110, 3, "near 2 1", 2},
		{5, 0b00110, 3, "near 1 1 1", 3},
		{5, 0b00110, 3, "near 2 2 2 2", 4},
		{5, 0b00110, 0, "near 1 1 1 1 1 1 1 1 1 1 1 1 1 1 1 1 1 1 1 1", 20},
		{5, 0b00110, 0, "near 2 2 2 2 2 2 2 2 2 2 2 2 2 2 2 2 2 2 2 2", 20},
		{11, 0b10000000000, 9, "near 10 10", 2},
		{12, 0b110000000000, 9, "near 11 10", 2},
		{12, 0b110000000000, 8, "near 11 11 10", 3},
	} {
		if got := c.proofNearIs(x.n, x.s, x.v, x.text); got != x.want {
			t.Errorf("ProofNearIs(%d, %b, %d, %q) = %d, want %d", x.n, x.s, x.v, x.text, got, x.want)
		}
	}
}

func TestProofsThatFarWrittenOut(t *testing.T) {
	c := newProofCalls(t)
	for _, x := range []struct {
		n, s    int
		heights []int
	}{
		{1, 0, []int{0}},
		{2, 0, []int{0, 0}},
		{2, 0, []int{0, 1}},
		{2, 0, []int{0, 2}},
		{2, 0b10, []int{0, 1}},
		{2, 0b10, []int{0, 0}},
		{5, 0b00110, []int{0, 1, 1, 2, 2}},
		{5, 0b00110, []int{0, 0, 0, 0, 0}},
		{5, 0b00110, []int{0, 1, 1, 1, 1}},
		{5, 0b00110, []int{0, 1, 1, 2, 1}},
		{5, 0b00110, []int{0, 0, 1, 1, 2}},
		{5, 0, []int{0, 5, 5, 5, 5}},
		{5, 0, []int{0, 3, 1, 4, 2}},
		{6, 0b000100, []int{0, 6, 1, 6, 2, 6}},
		{6, 0b000100, []int{0, 6, 1, 6, 2, 5}},
		{6, 0b000100, []int{0, 4, 1, 5, 2, 3}},
		{12, 0b10, []int{0, 1, 2, 3, 4, 5, 6, 7, 8, 9, 10, 11}},
		{12, 0b10, []int{0, 1, 2, 3, 0, 1, 2, 3, 4, 5, 6, 0}},
		{12, 0, []int{0, 12, 11, 10, 12, 12, 12, 12, 0, 1, 12, 12}},
	} {
		for v, want := range x.heights {
			if got := c.proofFarIs(x.n, x.s, v, proofText("far", x.heights...)); got != want {
				t.Errorf("ProofFarIs(%d, %b, %d) of %v = %d, want %d", x.n, x.s, v, x.heights, got, want)
			}
		}
	}
}

func TestProofsOfRoundsWrittenOut(t *testing.T) {
	for _, x := range []struct {
		n, s int
		text string
	}{
		{2, 0b10, "round 0 1"},
		{5, 0b00100, "round 0 2 4 1 3"},
		{5, 0b01000, "round 0 3 1 4 2"},
		{5, 0b11110, "round 0 4 2 1 3"},
		{6, 0b100100, "round 0 2 1 3 5 4"},
		{6, 0b100100, "round 0 5 4 3 2 1"},
		{10, 0b10, "round 0 1 2 3 4 5 6 7 8 9"},
		{11, 0b100, "round 0 2 4 6 8 10 1 3 5 7 9"},
		{12, 0b10, "round 0 1 2 3 4 5 6 7 8 9 10 11"},
		{12, 0b100000000000, "round 0 11 10 9 8 7 6 5 4 3 2 1"},
		{12, 0b100000, "round 0 5 10 3 8 1 6 11 4 9 2 7"},
	} {
		if !impl.ProofRoundIs(x.n, x.s, x.text) {
			t.Errorf("ProofRoundIs(%d, %b, %q) does not hold", x.n, x.s, x.text)
		}
		if impl.ProofRoundIs(x.n, allSteps(x.n)&^x.s, x.text) {
			t.Errorf("ProofRoundIs(%d, %b, %q) holds", x.n, allSteps(x.n)&^x.s, x.text)
		}
	}
}

// TestProofsOnRingsOfEverySize has no steps, the step 1, and all steps, and the place 0 and the greatest one.
func TestProofsOnRingsOfEverySize(t *testing.T) {
	c := newProofCalls(t)
	for n := 1; n <= impl.RingMax; n++ {
		for _, s := range []int{0, 0b10 & allSteps(n), allSteps(n)} {
			if got := c.proofNearIs(n, s, 0, "near"); got != 0 {
				t.Errorf("ProofNearIs(%d, %d, 0) of no steps = %d", n, s, got)
			}
			if text := "far" + strings.Repeat(" 0", n); c.proofFarIs(n, s, 0, text) != 0 || c.proofFarIs(n, s, n-1, text) != 0 {
				t.Errorf("ProofFarIs(%d, %d) of heights 0", n, s)
			}
			if text := proofText("round", inOrder(n)...); impl.ProofRoundIs(n, s, text) != (s != 0) {
				t.Errorf("ProofRoundIs(%d, %d, %q) = %v", n, s, text, s == 0)
			}
		}
		everywhere := "far 0" + strings.Repeat(proofText("", n), n-1)
		if got := c.proofFarIs(n, 0, n-1, everywhere); n > 1 && got != n {
			t.Errorf("ProofFarIs(%d, 0, %d, %q) = %d", n, n-1, everywhere, got)
		}
	}
}

// TestProofsAskedAgain asks for proofs, checks them, and asks again: nothing is kept between calls.
func TestProofsAskedAgain(t *testing.T) {
	c := newProofCalls(t)
	for n, s := range someSteps() {
		first := c.proofsOf(n, s)
		for _, text := range first {
			checkByWords(t, n, s, text)
			checkByWords(t, n, s, text+" ")
		}
		if again := c.proofsOf(n, s); !slices.Equal(again, first) {
			t.Errorf("%d, %d: proofs %q, asked again %q", n, s, first, again)
		}
	}
}
