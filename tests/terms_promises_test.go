package tests

import (
	"strings"
	"testing"

	"loop.example/ringsofsteps/impl"
)

// The tests of this file hold promises 90 to 98 of the document, one each.

func TestPromise90TermsWithSigns(t *testing.T) {
	for n, s := range eachTerm() {
		if !impl.TermIn(n, s) {
			t.Fatalf("TermIn(%d, %q) does not hold", n, s)
		}
		for _, text := range []string{s + ")", s + "("} {
			if impl.TermIn(n, text) {
				t.Errorf("TermIn(%d, %q) holds", n, text)
			}
		}
		for _, text := range []string{"!" + s, "-" + s} {
			if got := impl.TermIn(n, text); got != (len(s) < mostInTerm) {
				t.Errorf("TermIn(%d, %q) = %v, as it does for %q", n, text, got, s)
			}
		}
	}
}

func TestPromise91SetsWithSigns(t *testing.T) {
	c := newTermCalls(t)
	for n, s := range eachTerm() {
		set := c.termSet(n, s)
		if len(s) == mostInTerm {
			continue
		}
		if got, want := c.termSet(n, "!"+s), 1<<n-1-set; got != want {
			t.Errorf("TermSet(%d, %q) = %b, of %q %b", n, "!"+s, got, s, set)
		}
		if got, want := c.termSet(n, "-"+s), c.turn(n, set, -1); got != want {
			t.Errorf("TermSet(%d, %q) = %b, of %q %b", n, "-"+s, got, s, set)
		}
	}
}

func TestPromise92SumsOfTerms(t *testing.T) {
	c := newTermCalls(t)
	for n := 1; n <= impl.RingMax; n++ {
		terms := termsOf(n)
		for i, s := range terms {
			for k := 1; k <= 5; k++ {
				other := terms[(i*7+k*k*131)%len(terms)]
				if len(s)+len(other) > mostInTerm-3 {
					continue
				}
				both := inBrackets(s, '.', other)
				if got, want := c.termSet(n, both), c.sum(n, c.termSet(n, s), c.termSet(n, other)); got != want {
					t.Errorf("TermSet(%d, %q) = %b, want %b", n, both, got, want)
				}
			}
		}
	}
}

func TestPromise93PlacesOfTerms(t *testing.T) {
	c := newTermCalls(t)
	held := 0
	for n, s := range eachTermForHas() {
		set := c.termSet(n, s)
		for v := -1; v <= n; v++ {
			if !impl.TermHas(n, s, v) {
				continue
			}
			held++
			if v < 0 || set>>v&1 == 0 {
				t.Errorf("TermHas(%d, %q, %d) holds, TermSet %b", n, s, v, set)
			}
			if len(s) < mostInTerm && impl.TermHas(n, "!"+s, v) {
				t.Errorf("TermHas(%d, %q, %d) holds, and with ! in front, too", n, s, v)
			}
		}
	}
	if held == 0 {
		t.Error("no term has a place")
	}
}

func TestPromise94PlacesAskedFor(t *testing.T) {
	c := newTermCalls(t)
	for n, s := range eachTerm() {
		want := c.termSet(n, s)
		if strings.Count(s, ".") > mostPoints {
			want = 0
		}
		if got := placesHad(n, s); got != want {
			t.Errorf("TermHas(%d, %q) holds for %b, want %b", n, s, got, want)
		}
	}
}

func TestPromise95TidyTerms(t *testing.T) {
	c := newTermCalls(t)
	for n, s := range eachTerm() {
		got := c.termTidy(n, s)
		if !impl.TermSame(n, s, got) || c.termTidy(n, got) != got || len(got) > len(s) {
			t.Errorf("TermTidy(%d, %q) = %q, its own %q", n, s, got, c.termTidy(n, got))
		}
	}
}

func TestPromise96TermsOfSets(t *testing.T) {
	c := newTermCalls(t)
	for n, set := range eachSet() {
		s := c.termOf(n, set)
		if got, tidy := c.termSet(n, s), c.termTidy(n, s); got != set || tidy != s {
			t.Errorf("TermOf(%d, %b) = %q: TermSet %b, TermTidy %q", n, set, s, got, tidy)
		}
	}
}

func TestPromise97SameTerms(t *testing.T) {
	c := newTermCalls(t)
	for n := 1; n <= impl.RingMax; n++ {
		terms := termsOf(n)
		for i, s := range terms {
			set := c.termSet(n, s)
			for _, other := range []string{s, c.termTidy(n, s), c.termOf(n, set), terms[(i*7+3)%len(terms)], terms[(i*5+1)%len(terms)]} {
				if got, want := impl.TermSame(n, s, other), set == c.termSet(n, other); got != want {
					t.Errorf("TermSame(%d, %q, %q) = %v", n, s, other, got)
				} else if got {
					checkSameTerms(t, n, s, other)
				}
			}
		}
	}
}

// checkSameTerms asks the promise of two terms that are the same.
func checkSameTerms(t *testing.T, n int, s, other string) {
	t.Helper()
	if !impl.TermSame(n, other, s) {
		t.Errorf("TermSame(%d, %q, %q) holds, but not for both exchanged", n, s, other)
	}
	if max(len(s), len(other)) < mostInTerm && !impl.TermSame(n, "!"+s, "!"+other) {
		t.Errorf("TermSame(%d, %q, %q) holds, but not with ! in front of both", n, s, other)
	}
}

func TestPromise98TurnedTerms(t *testing.T) {
	c := newTermCalls(t)
	for n, s := range eachTerm() {
		got := c.termTurned(n, s)
		if back := c.termTurned(n, got); back != s {
			t.Errorf("TermTurned(%d, %q) = %q, its own %q", n, s, got, back)
		}
		if set, want := c.termSet(n, got), c.turn(n, c.termSet(n, s), -1); set != want {
			t.Errorf("TermTurned(%d, %q) = %q with TermSet %b, want %b", n, s, got, set, want)
		}
	}
}
