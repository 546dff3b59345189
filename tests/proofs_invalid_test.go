package tests

import (
	"math"
	"slices"
	"strings"
	"testing"

	"loop.example/ringsofsteps/impl"
)

func checkNoProofNear(t *testing.T, n, s, v int) {
	t.Helper()
	if got, ok := impl.ProofNear(n, s, v); ok || got != "" {
		t.Errorf("ProofNear(%d, %d, %d) = %q, %v", n, s, v, got, ok)
	}
}

func checkNoProofFar(t *testing.T, n, s int) {
	t.Helper()
	if got, ok := impl.ProofFar(n, s); ok || got != "" {
		t.Errorf("ProofFar(%d, %d) = %q, %v", n, s, got, ok)
	}
}

func checkNoProofRound(t *testing.T, n, s int) {
	t.Helper()
	if got, ok := impl.ProofRound(n, s); ok || got != "" {
		t.Errorf("ProofRound(%d, %d) = %q, %v", n, s, got, ok)
	}
}

func checkNoProofThatNear(t *testing.T, n, s, v int, text string) {
	t.Helper()
	if got, ok := impl.ProofNearIs(n, s, v, text); ok || got != 0 {
		t.Errorf("ProofNearIs(%d, %d, %d, %q) = %d, %v", n, s, v, text, got, ok)
	}
}

func checkNoProofThatFar(t *testing.T, n, s, v int, text string) {
	t.Helper()
	if got, ok := impl.ProofFarIs(n, s, v, text); ok || got != 0 {
		t.Errorf("ProofFarIs(%d, %d, %d, %q) = %d, %v", n, s, v, text, got, ok)
	}
}

func checkNoProofOfRound(t *testing.T, n, s int, text string) {
	t.Helper()
	if impl.ProofRoundIs(n, s, text) {
		t.Errorf("ProofRoundIs(%d, %d, %q) holds", n, s, text)
	}
}

// checkNoProof gives a text that is no proof of any kind.
func checkNoProof(t *testing.T, n, s int, text string) {
	t.Helper()
	for v := -1; v <= n; v++ {
		checkNoProofThatNear(t, n, s, v, text)
		checkNoProofThatFar(t, n, s, v, text)
	}
	checkNoProofOfRound(t, n, s, text)
}

// checkProofsFail gives steps that are none, or that are steps of no ring, with texts that are proofs by right ones.
func checkProofsFail(t *testing.T, n, s int) {
	t.Helper()
	for _, v := range []int{-1, 0, 1, 2, n - 1, n} {
		checkNoProofNear(t, n, s, v)
		for _, text := range []string{"", "near", "near 1", "near 1 1", "near 2", "near 1 2"} {
			checkNoProofThatNear(t, n, s, v, text)
		}
		for length := range 15 {
			checkNoProofThatFar(t, n, s, v, "far"+strings.Repeat(" 0", length))
			checkNoProofThatFar(t, n, s, v, proofText("far", inOrder(length)...))
		}
	}
	checkNoProofFar(t, n, s)
	checkNoProofRound(t, n, s)
	for length := range 15 {
		checkNoProofOfRound(t, n, s, proofText("round", inOrder(length)...))
	}
}

func TestProofsWithoutRing(t *testing.T) {
	for _, n := range []int{0, -1, -2, -12, 13, 14, 63, 64, 65, 100, math.MaxInt, math.MaxInt - 1, math.MinInt, math.MinInt + 1} {
		for _, s := range append(numbersOutside(), 0, 1, 2, 6, 4094) {
			checkProofsFail(t, n, s)
		}
	}
}

func TestProofsWithPlaceZero(t *testing.T) {
	for n, s := range someSteps() {
		checkProofsFail(t, n, s|1)
	}
}

func TestProofsOutOfRing(t *testing.T) {
	for n := 1; n <= impl.RingMax; n++ {
		all := 1<<n - 1
		// The even ones fail for being no sets alone, not for the place 0.
		for _, s := range append(numbersOutside(), -1-all, all+1, all+3, 2*all, 2*all+2, 2*all+1) {
			checkProofsFail(t, n, s)
		}
	}
}

func TestProofsOfNoPlace(t *testing.T) {
	c := newProofCalls(t)
	for n, s := range someSteps() {
		proofs := c.proofsOf(n, s)
		for _, v := range append(numbersThatAreNoPlaces(n), 62, 63, 64, 65) {
			checkNoProofNear(t, n, s, v)
			for _, text := range append(proofs, "near", "near 1", "", "far"+strings.Repeat(" 0", n)) {
				checkNoProofThatNear(t, n, s, v, text)
				checkNoProofThatFar(t, n, s, v, text)
			}
		}
	}
}

func TestProofsWhereNoWayLeads(t *testing.T) {
	for n, s := range eachSteps() {
		for v := range n {
			if reached(n, s)[0]&(1<<v) == 0 {
				checkNoProofNear(t, n, s, v)
			}
		}
		if n == 1 || n > mostSearched || !leadEverywhere(n, s) {
			checkNoProofRound(t, n, s)
		}
	}
}

// TestSpacesInProofs has proofs with a space behind them, ahead of them, two in a row, one too few, and other signs in place of one.
func TestSpacesInProofs(t *testing.T) {
	c := newProofCalls(t)
	for n, s := range someSteps() {
		for _, proof := range append(c.proofsOf(n, s), proofText("round", inOrder(n)...)) {
			for _, text := range []string{
				proof + " ", proof + "  ", " " + proof, "  " + proof, " " + proof + " ",
				proof + "\n", proof + "\t", proof + "\r", proof + "\x00", "\n" + proof, "\x00" + proof, "\ufeff" + proof, proof + "\u00a0",
			} {
				checkNoProof(t, n, s, text)
			}
			for at := range len(proof) {
				if proof[at] != ' ' {
					continue
				}
				for _, space := range []string{"  ", "   ", "\t", "\n", ",", " ,", ", ", "\x00", "\u00a0", " +", " -", " 0", " 00"} {
					checkNoProof(t, n, s, proof[:at]+space+proof[at+1:])
				}
			}
		}
	}
}

func TestOtherFirstWords(t *testing.T) {
	c := newProofCalls(t)
	for n, s := range someSteps() {
		for _, proof := range append(c.proofsOf(n, s), proofText("round", inOrder(n)...)) {
			first, numbers, _ := strings.Cut(proof, " ")
			if numbers != "" {
				numbers = " " + numbers
			}
			for _, other := range []string{
				"", " ", first[:len(first)-1], first[1:], first + first[len(first)-1:], first + "s", first + "er", first + ":", first + "\x00",
				strings.ToUpper(first), strings.ToUpper(first[:1]) + first[1:], "proof", "proof " + first, first + " " + first, "x", "0", "n\u0435ar", "f\u0430r", "r\u043eund", first + "\u0301", "\xff", first + "\x80",
			} {
				checkNoProof(t, n, s, other+numbers)
			}
		}
	}
}

// TestProofsOfOtherKinds gives proofs of each kind to the functions of the others.
func TestProofsOfOtherKinds(t *testing.T) {
	c := newProofCalls(t)
	for n, s := range someSteps() {
		for _, text := range c.proofsOf(n, s) {
			for v := range n {
				if !strings.HasPrefix(text, "near") {
					checkNoProofThatNear(t, n, s, v, text)
				}
				if !strings.HasPrefix(text, "far") {
					checkNoProofThatFar(t, n, s, v, text)
				}
			}
			if !strings.HasPrefix(text, "round") {
				checkNoProofOfRound(t, n, s, text)
			}
		}
	}
}

// otherNumbers returns texts that are not what a number is written as, most of them with a value that is the number in some reading.
func otherNumbers(digits string) []string {
	return []string{
		"", "0" + digits, "00" + digits, "+" + digits, "-" + digits, "--" + digits, "0x" + digits, "0b" + digits, "0o" + digits,
		digits + ".", digits + ".0", digits + "e0", digits + "_", "_" + digits, "0_" + digits, digits + "x", "x", "a", "e", "-", "+", ".",
		digits + "\x00", digits + "\x80", "\xff" + digits, "\x80", "'" + digits + "'", "\uff11", "\u0661", "\u00b2", "\u0660", "(" + digits + ")",
		digits + "00000000000000000000", "4294967296", "4294967297", "4294967298", "9223372036854775807", "9223372036854775808",
		"18446744073709551616", "18446744073709551617", "18446744073709551618", "-9223372036854775808", "-18446744073709551615",
		"-1", "-2", "-0", "13", "14", "63", "64", "65", "99", "100", "101", "256", "257", "258", "999", "1000", "1234", "99999", "65537",
	}
}

func TestNumbersThatAreNone(t *testing.T) {
	c := newProofCalls(t)
	for _, x := range []struct{ n, s int }{{2, 0b10}, {5, 0b00110}, {5, 0}, {6, 0b000100}, {9, 0b000010010}, {11, 0b10000000000}, {12, 0b110000000000}, {12, 0b10}} {
		for _, proof := range append(c.proofsOf(x.n, x.s), proofText("round", inOrder(x.n)...)) {
			words := strings.Split(proof, " ")
			for i := 1; i < len(words); i++ {
				for _, other := range otherNumbers(words[i]) {
					changed := slices.Clone(words)
					changed[i] = other
					checkNoProof(t, x.n, x.s, strings.Join(changed, " "))
				}
			}
		}
	}
}

func TestTextsThatAreNoProofs(t *testing.T) {
	for n, s := range someSteps() {
		for _, text := range []string{
			"", " ", "  ", "\n", "\x00", "\xff", "\x80\x81", "\u00e4", "0", "0 1", " 0", "near ", "far ", "round ", "far", "round", "near  ", "near far", "near round 0 1", "far near", "nearfar 0", "near0", "far0", "round0", "near,0", "far,0 0",
		} {
			checkNoProof(t, n, s, text)
		}
	}
}

// TestEachByteInProofs puts each byte ahead of proofs, into them and behind them.
func TestEachByteInProofs(t *testing.T) {
	const n, s = 12, 0b110000000010
	for _, proof := range []string{"near 10 11 1", "far 0 1 2 3 3 2 3 4 3 2 1 1", "round 0 1 2 3 4 5 6 7 8 9 10 11", "near"} {
		for b := range 256 {
			sign := string([]byte{byte(b)})
			for _, at := range []int{0, 2, 4, 5, 6, len(proof) - 1, len(proof)} {
				at = min(at, len(proof))
				checkByWords(t, n, s, proof[:at]+sign+proof[at:])
				if at < len(proof) {
					checkByWords(t, n, s, proof[:at]+sign+proof[at+1:])
				}
			}
		}
	}
}

func TestWaysThatAreNoProofs(t *testing.T) {
	for _, x := range []struct {
		n, s, v int
		text    string
	}{
		{1, 0, 0, "near 0"},
		{1, 0, 0, "near 1"},
		{2, 0b10, 0, "near 0"},
		{2, 0b10, 0, "near 2"},
		{2, 0b10, 1, "near 3"},
		{2, 0, 1, "near 1"},
		{5, 0b00110, 0, "near 0"},
		{5, 0b00110, 3, "near 0 1 2"},
		{5, 0b00110, 3, "near 1 2 0"},
		{5, 0b00110, 3, "near 3"},
		{5, 0b00110, 3, "near 1 7"},
		{5, 0b00110, 3, "near 6 2"},
		{5, 0b00110, 3, "near 4 4"},
		{5, 0b00110, 0, "near 5"},
		{5, 0b00110, 3, "near 01 2"},
		{5, 0b00110, 3, "near 1 02"},
		{5, 0b00110, 3, "near 1 2 "},
		{5, 0b00110, 3, " near 1 2"},
		{5, 0b00110, 3, "near  1 2"},
		{5, 0b00110, 3, "near 1  2"},
		{5, 0b00110, 3, "near 1 2 1"},
		{5, 0b00110, 3, "near 1"},
		{5, 0b00110, 3, "near"},
		{5, 0b00110, 2, "near 1 2"},
		{5, 0b00110, 4, "near 1 2"},
		{5, 0b00110, 0, "near 1 2"},
		{5, 0b00110, 8, "near 1 2"},
		{5, 0b00110, -2, "near 1 2"},
		{5, 0b00110, 5, "near"},
		{5, 0b00110, -5, "near"},
		{5, 0b00110, 1, "near 1 1 1 1 1 1 1 1 1 1 1 1 1 1 1 1 1 1 1 1 1"},
		{5, 0b00110, 0, "near 1 1 1 1 1 1 1 1 1 1 1 1 1 1 1 1 1 1 1 1 1 2 2"},
		{12, 0b110000000000, 11, "near 1 10"},
		{12, 0b110000000000, 11, "near 1 1"},
	} {
		checkNoProofThatNear(t, x.n, x.s, x.v, x.text)
	}
}

func TestHeightsThatAreNoProofs(t *testing.T) {
	for _, x := range []struct {
		n, s int
		text string
	}{
		{1, 0, "far"},
		{1, 0, "far 1"},
		{1, 0, "far 0 0"},
		{2, 0, "far 0 3"},
		{2, 0, "far 1 1"},
		{2, 0b10, "far 0 2"},
		{5, 0b00110, "far 0 1 1 2 3"}, // one more than the distance of 4
		{5, 0b00110, "far 0 2 1 2 2"},
		{5, 0b00110, "far 0 1 2 2 2"},
		{5, 0b00110, "far 0 1 1 3 2"},
		{5, 0b00110, "far 0 0 0 0 2"},
		{5, 0b00110, "far 0 0 0 2 0"},
		{5, 0b00110, "far 1 1 1 1 1"},
		{5, 0b00110, "far 1 2 2 3 3"},
		{5, 0b00110, "far 0 1 1 2"},
		{5, 0b00110, "far 0 1 1 2 2 2"},
		{5, 0b00110, "far 0 1 1 2 2 "},
		{5, 0b00110, "far 0 5 5 5 5"},
		{5, 0b00110, "far 0 1 1 2 02"},
		{5, 0b00110, "far 00 1 1 2 2"},
		{5, 0b00110, "far -0 1 1 2 2"},
		{5, 0b00110, "far 0 -1 -1 -1 -1"},
		{5, 0, "far 0 -1 -1 -1 -1"},
		{5, 0, "far 0 0 0 0 -1"},
		{5, 0, "far 0 6 5 5 5"},
		{5, 0, "far 0 5 5 5 6"},
		{5, 0, "far 5 5 5 5 5"},
		{6, 0b000100, "far 0 7 1 7 2 7"},
		{6, 0b000100, "far 0 6 1 6 2 4"}, // 2 more where the arc from 5 to 1 leads
		{6, 0b000100, "far 0 6 1 6 3 6"},
		{6, 0b000100, "far 2 6 1 6 2 6"},
		{12, 0, "far 0 12 12 12 12 12 12 12 12 12 12 13"},
		{12, 0b10, "far 0 1 2 3 4 5 6 7 8 9 10 12"},
		{12, 0b10, "far 0 1 2 3 4 5 6 7 8 9 11 11"},
		{12, 0b10, "far 0 1 2 3 4 5 6 7 8 9 10 11 12"},
		{12, 0b10, "far 0 1 2 3 4 5 6 7 8 9 1011"},
	} {
		for v := range x.n {
			checkNoProofThatFar(t, x.n, x.s, v, x.text)
		}
	}
}

func TestListsThatAreNoProofs(t *testing.T) {
	for _, x := range []struct {
		n, s int
		text string
	}{
		{1, 0, "round"},
		{1, 0, "round 0"},
		{2, 0, "round 0 1"},
		{2, 0b10, "round"},
		{2, 0b10, "round 0"},
		{2, 0b10, "round 1 0"},
		{2, 0b10, "round 0 1 0"},
		{2, 0b10, "round 0 0"},
		{2, 0b10, "round 0 3"},
		{5, 0b00100, "round 0 2 4 1"},
		{5, 0b00100, "round 0 2 4 1 3 0"},
		{5, 0b00100, "round 0 2 4 1 1"},
		{5, 0b00100, "round 0 2 4 1 3 "},
		{5, 0b00100, "round 2 4 1 3 0"},
		{5, 0b00100, "round 0 3 1 4 2"},
		{5, 0b00100, "round 0 2 4 3 1"},
		{5, 0b00100, "round 0 2 4 6 3"},
		{5, 0b00100, "round 0 2 4 -4 3"},
		{5, 0b00100, "round 0 02 4 1 3"},
		{5, 0b00100, "round 0 2 4 1 64"},
		{4, 0b0110, "round 0 2 3 1"}, // no arc leads back from 1 to 0
		{12, 0b10, "round 0 1 2 3 4 5 6 7 8 9 10"},
		{12, 0b10, "round 0 1 2 3 4 5 6 7 8 9 11 10"},
		{12, 0b10, "round 0 11 10 9 8 7 6 5 4 3 2 1"},
	} {
		checkNoProofOfRound(t, x.n, x.s, x.text)
	}
}

// TestLongTextsAreNoProofs has texts that would need much of anything to be read as a whole.
func TestLongTextsAreNoProofs(t *testing.T) {
	for _, n := range []int{1, 5, impl.RingMax} {
		s := allSteps(n)
		for _, text := range []string{
			strings.Repeat(" ", 1<<20),
			"near" + strings.Repeat(" ", 1<<20),
			"near" + strings.Repeat(" 1", 1<<16),
			"far" + strings.Repeat(" 0", 1<<16),
			"round" + strings.Repeat(" 0", 1<<16),
			"near " + strings.Repeat("1", 1<<20),
			"far 0" + strings.Repeat(" 1", n-1) + strings.Repeat("0", 1<<20),
			"near " + strings.Repeat("0", 1<<20) + "1",
			strings.Repeat("near", 1<<18),
			proofText("round", inOrder(n)...) + strings.Repeat(" ", 1<<20),
		} {
			checkNoProof(t, n, s, text)
		}
	}
}

func TestProofsJustInside(t *testing.T) {
	c := newProofCalls(t)
	for _, n := range []int{2, mostSearched, impl.RingMax} {
		for _, step := range []int{1, n - 1} {
			c.proofNear(n, 1<<step, 0)
			c.proofNear(n, 1<<step, n-1)
			c.proofFar(n, 1<<step)
			if n <= mostSearched {
				c.proofRound(n, 1<<step)
			} else {
				checkNoProofRound(t, n, 1<<step)
			}
		}
	}
}
