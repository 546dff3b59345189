package tests

import (
	"testing"

	"loop.example/ringsofsteps/impl"
)

// The tests of this file hold promises 99 to 104 of the document, one each.

func TestPromise99NearProofsTellDistances(t *testing.T) {
	c := newProofCalls(t)
	for n, s := range eachSteps() {
		list := c.list(n, s)
		for v, far := range list {
			text, ok := impl.ProofNear(n, s, v)
			if ok != (far >= 0) {
				t.Fatalf("ProofNear(%d, %d, %d) = %q, %v, distance %d", n, s, v, text, ok, far)
			}
			if !ok {
				continue
			}
			if got := c.proofNearIs(n, s, v, text); got != far {
				t.Fatalf("ProofNear(%d, %d, %d) = %q, ProofNearIs %d, distance %d", n, s, v, text, got, far)
			}
		}
	}
}

func TestPromise100FarProofsTellDistances(t *testing.T) {
	c := newProofCalls(t)
	for n, s := range eachSteps() {
		text, heights := c.proofFar(n, s), heightsFrom(c.list(n, s))
		for v, want := range heights {
			if got := c.proofFarIs(n, s, v, text); got != want {
				t.Fatalf("ProofFar(%d, %d) = %q, ProofFarIs of %d %d, want %d", n, s, text, v, got, want)
			}
		}
	}
}

// TestPromise101NoPlaceIsFarther gives proofs with steps taken by no rule, for all places, and the same with a number changed.
func TestPromise101NoPlaceIsFarther(t *testing.T) {
	c := newProofCalls(t)
	held := 0
	for n, s := range someSteps() {
		list := c.list(n, s)
		for _, way := range longWays(s) {
			texts := []string{proofText("near", way...)}
			if len(way) > 0 {
				texts = append(texts, proofText("near", append(way, len(way)%n)...), proofText("near", append(way[1:], n)...))
			}
			for _, text := range texts {
				for v, far := range list {
					got, ok := impl.ProofNearIs(n, s, v, text)
					if !ok {
						continue
					}
					held++
					if got < far || far == -1 {
						t.Fatalf("ProofNearIs(%d, %d, %d, %q) = %d, distance %d", n, s, v, text, got, far)
					}
				}
			}
		}
	}
	if held == 0 {
		t.Error("no text is a proof")
	}
}

// TestPromise102NoPlaceIsNearer gives heights that are distances by some steps or other, and such as are near to them.
func TestPromise102NoPlaceIsNearer(t *testing.T) {
	c := newProofCalls(t)
	held := 0
	for n, s := range someSteps() {
		list := c.list(n, s)
		for _, heights := range c.someHeights(n, s) {
			text := proofText("far", heights...)
			for v, far := range list {
				got, ok := impl.ProofFarIs(n, s, v, text)
				if !ok {
					continue
				}
				held++
				if got > far && far != -1 {
					t.Fatalf("ProofFarIs(%d, %d, %d, %q) = %d, distance %d", n, s, v, text, got, far)
				}
			}
		}
	}
	if held == 0 {
		t.Error("no text is a proof")
	}
}

func TestPromise103RoundProofsHold(t *testing.T) {
	for n, s := range eachSteps() {
		first, want := impl.RoundFirst(n, s)
		text, ok := impl.ProofRound(n, s)
		if ok != want {
			t.Fatalf("ProofRound(%d, %d) = %q, %v, but RoundFirst %v, %v", n, s, text, ok, first, want)
		}
		if ok && !impl.ProofRoundIs(n, s, text) {
			t.Fatalf("ProofRound(%d, %d) = %q, but ProofRoundIs does not hold", n, s, text)
		}
	}
}

// TestPromise104ProvedRoundsAreFound gives lists of all places to all steps, and lists that are near to them.
func TestPromise104ProvedRoundsAreFound(t *testing.T) {
	c := newProofCalls(t)
	held := 0
	for n := 1; n <= mostSearched; n++ {
		found := make(map[int]bool)
		for s := 0; s < 1<<n; s += 2 {
			_, found[s] = impl.RoundFirst(n, s)
		}
		for i, list := range roundsToProve(n) {
			lists := [][]int{list}
			if i < 10 {
				lists = append(lists, brokenLists(list)...)
			}
			for _, list := range lists {
				text := proofText("round", list...)
				for s := range found {
					if !impl.ProofRoundIs(n, s, text) {
						continue
					}
					held++
					if !found[s] || c.parts(n, s) != 1 {
						t.Fatalf("ProofRoundIs(%d, %d, %q) holds, RoundFirst: %v, StepParts %d", n, s, text, found[s], c.parts(n, s))
					}
				}
			}
		}
	}
	if held == 0 {
		t.Error("no text is a proof")
	}
}

// roundsToProve returns lists that are rounds by some steps; a ring of one place has none, and its only list stands for them.
func roundsToProve(n int) [][]int {
	if n == 1 {
		return [][]int{{0}}
	}
	return someOrders(n)
}
