package tests

import (
	"math"
	"strings"
	"testing"

	"loop.example/ringsofsteps/impl"
)

// checkTermFails gives a text that is no term of a ring to all functions.
func checkTermFails(t *testing.T, n int, s string) {
	t.Helper()
	if impl.TermIn(n, s) {
		t.Errorf("TermIn(%d, %q) holds", n, s)
	}
	if got, ok := impl.TermSet(n, s); ok || got != 0 {
		t.Errorf("TermSet(%d, %q) = %d, %v", n, s, got, ok)
	}
	for v := -1; v <= impl.RingMax; v++ {
		if impl.TermHas(n, s, v) {
			t.Errorf("TermHas(%d, %q, %d) holds", n, s, v)
		}
	}
	if got, ok := impl.TermTidy(n, s); ok || got != "" {
		t.Errorf("TermTidy(%d, %q) = %q, %v", n, s, got, ok)
	}
	if got, ok := impl.TermTurned(n, s); ok || got != "" {
		t.Errorf("TermTurned(%d, %q) = %q, %v", n, s, got, ok)
	}
	for _, other := range []string{s, "e", "0", "!e", ""} {
		if impl.TermSame(n, s, other) || impl.TermSame(n, other, s) {
			t.Errorf("TermSame(%d) of %q and %q: %v, exchanged %v", n, s, other, impl.TermSame(n, s, other), impl.TermSame(n, other, s))
		}
	}
}

func checkNoTermOf(t *testing.T, n, set int) {
	t.Helper()
	if got, ok := impl.TermOf(n, set); ok || got != "" {
		t.Errorf("TermOf(%d, %d) = %q, %v", n, set, got, ok)
	}
}

func TestTermsWithoutRing(t *testing.T) {
	for _, n := range []int{0, -1, -2, -12, 13, 14, 15, 63, 64, 65, 100, math.MaxInt, math.MaxInt - 1, math.MinInt, math.MinInt + 1} {
		for _, s := range []string{"", "0", "1", "y", "e", "!e", "-0", "!0", "(0+0)", "(e&e)", "(0.e)", ")", "\xff", strings.Repeat("!", 59) + "e", strings.Repeat("!", 60) + "e"} {
			checkTermFails(t, n, s)
		}
		for _, set := range append(numbersOutside(), 0, 1, 2, 3, 4095) {
			checkNoTermOf(t, n, set)
		}
	}
}

func TestTermsOfNoSets(t *testing.T) {
	c := newTermCalls(t)
	for n := 1; n <= impl.RingMax; n++ {
		all := 1<<n - 1
		for _, set := range append(numbersOutside(), all+1, all+2, 2*all+1, 2*all+2, -all, -1-all, 1<<16, math.MaxInt, math.MinInt) {
			if set < 0 || set > all {
				checkNoTermOf(t, n, set)
			}
		}
		c.termOf(n, all)
		c.termOf(n, 0)
	}
}

func TestTextsThatAreNoTerms(t *testing.T) {
	for n := 1; n <= impl.RingMax; n++ {
		for _, s := range []string{
			"", " ", "\n", "\x00", "+", "&", ".", ")", "(", "()", "!", "-", "!!", "--", "-!", "!-!",
			"(0)", "(e)", "((0))", "(0+)", "(+0)", "(+)", "(0+0", "0+0)", "0+0", "0&0", "0.0", "(0 + 0)", "(00)", "(0e)", "(0++0)", "(0+.0)", "(0-0)", "(0!0)", "(0*0)", "(0,0)", "(0+0+0)", "(0+0)+0", "(0+(0+0)", "(0+0))", "((0+0)", "[0+0]",
			"0!", "e!", "0-", "e-", "00", "ee", "0e", "e0", "!0!", "(!+0)", "(0+!)", "(-.0)", "(0&-)", "!(0)", "-()", "0 ", " 0", "e\n", "\x00e", "e\x00", "(0+0\x00", "(0\x000)",
			"E", "X", "Y", "a", "z", "b", "_", "/", ":", "w", "~e", "\\e", "\u2212e", "\uff10", "\u0660", "\u0435",
		} {
			checkTermFails(t, n, s)
		}
	}
}

// TestTermsWithMoreBehind puts signs behind terms.
func TestTermsWithMoreBehind(t *testing.T) {
	for n, s := range eachTerm() {
		for _, behind := range []string{"0", "e", "!", "-", "(", ")", "+", "&", ".", "+0)", "+0", " ", "\n", "\x00", "\x80"} {
			if impl.TermIn(n, s+behind) {
				t.Errorf("TermIn(%d, %q) holds", n, s+behind)
			}
		}
	}
	for _, s := range []string{"0", "e", "!e", "-0", "(0+0)", "!(e.-e)"} {
		for _, behind := range []string{"0", "e", "!", "!e", "-0", "(0+0)", ")", "))", "+0", "&e", ".0)", " ", "\n", "\x00", "\xff"} {
			checkTermFails(t, 3, s+behind)
		}
	}
}

// TestTermsThatLackTheirEnd has each part of a term from its begin on that is shorter.
func TestTermsThatLackTheirEnd(t *testing.T) {
	for n := 1; n <= impl.RingMax; n++ {
		terms := termsOf(n)
		for i := 0; i < len(terms); i += 1 + len(terms)/40 {
			for length := range len(terms[i]) {
				checkTermFails(t, n, terms[i][:length])
			}
		}
	}
}

// TestSignsOfNoPlaces has the signs of places that only greater rings have.
func TestSignsOfNoPlaces(t *testing.T) {
	c := newTermCalls(t)
	for n := 1; n <= impl.RingMax; n++ {
		for v, sign := range strings.Split(signsOfPlaces, "") {
			texts := []string{sign, "!" + sign, "-" + sign, "--" + sign, "(" + sign + "+0)", "(0&" + sign + ")", "(" + sign + "." + sign + ")", "(e." + sign + ")"}
			for _, s := range texts {
				if v >= n {
					checkTermFails(t, n, s)
					continue
				}
				c.termSet(n, s)
			}
		}
	}
}

// TestEachByte has each byte alone, behind signs, in brackets, and in place of each sign of a pair.
func TestEachByte(t *testing.T) {
	for _, n := range []int{1, 10, 11, impl.RingMax} {
		for b := range 256 {
			sign := string([]byte{byte(b)})
			isTerm := strings.Contains(signsOfPlaces[:n]+"e", sign)
			for text, want := range map[string]bool{
				sign:                 isTerm,
				"!" + sign:           isTerm,
				"-!" + sign:          isTerm,
				"(" + sign + "+0)":   isTerm,
				"(0." + sign + ")":   isTerm,
				sign + "e":           strings.Contains("!-", sign),
				sign + "0+e)":        sign == "(",
				"(e" + sign + "0)":   strings.Contains("+&.", sign),
				"(0&0" + sign:        sign == ")",
				"e" + sign:           false,
				"(e+0)" + sign:       false,
				"(0" + sign:          false,
				"e" + sign + "e":     false,
				"\xc3" + sign:        false,
				"!" + sign + "\xbf0": false,
			} {
				if !want {
					checkTermFails(t, n, text)
				} else if !impl.TermIn(n, text) {
					t.Errorf("TermIn(%d, %q) does not hold", n, text)
				}
			}
		}
	}
}

// TestLongTerms has terms of 61 bytes and more, which would be terms if they were shorter.
func TestLongTerms(t *testing.T) {
	c := newTermCalls(t)
	for n := 1; n <= impl.RingMax; n++ {
		for _, s := range []string{
			strings.Repeat("!", 59) + "e",
			strings.Repeat("-", 59) + "0",
			strings.Repeat("!", 55) + "(0+0)",
			strings.Repeat("(0+", 14) + "---0" + strings.Repeat(")", 14),
			strings.Repeat("(", 14) + "---0" + strings.Repeat(".0)", 14),
		} {
			if len(s) != mostInTerm {
				t.Fatalf("%q has %d bytes", s, len(s))
			}
			c.termSet(n, s)
			c.termTidy(n, s)
			c.termTurned(n, s)
			for _, more := range []string{"!", "-", "!!", "--", strings.Repeat("!", 1000), strings.Repeat("-", 1<<20)} {
				checkTermFails(t, n, more+s)
			}
			checkTermFails(t, n, inBrackets(s, '+', s))
			checkTermFails(t, n, inBrackets("e", '&', s))
		}
		checkTermFails(t, n, strings.Repeat("(", 1<<20))
		checkTermFails(t, n, strings.Repeat("0", 61))
	}
}

func TestPlacesOutOfTheRing(t *testing.T) {
	for n := 1; n <= impl.RingMax; n++ {
		for _, v := range numbersThatAreNoPlaces(n) {
			for _, s := range []string{"e", "0", "!e", "!0", "-0", "!-0", "(0+!e)", "(!e&!e)", "(0.0)", "(!e.!e)", signsOfPlaces[n-1 : n]} {
				if impl.TermHas(n, s, v) {
					t.Errorf("TermHas(%d, %q, %d) holds", n, s, v)
				}
			}
		}
	}
}

// TestSameTermsWithOneBroken gives two texts that are not both terms.
func TestSameTermsWithOneBroken(t *testing.T) {
	for n := 1; n <= impl.RingMax; n++ {
		for _, broken := range []string{"", "!", "(0+0", "0 ", "\x80", "z", strings.Repeat("!", 60) + "e"} {
			for _, s := range []string{"e", "!e", "0", "(0&e)", broken} {
				if impl.TermSame(n, s, broken) || impl.TermSame(n, broken, s) {
					t.Errorf("TermSame(%d) holds for %q and %q", n, s, broken)
				}
			}
		}
		if n < impl.RingMax && (impl.TermSame(n, "e", "y") || impl.TermSame(n, "y", "e")) {
			t.Errorf("TermSame(%d) holds for e and y", n)
		}
	}
}
