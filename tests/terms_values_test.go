package tests

import (
	"slices"
	"strings"
	"testing"

	"loop.example/ringsofsteps/impl"
)

// TestSetsAreToldByWords holds TermIn and TermSet against texts that are made smaller sign by sign.
func TestSetsAreToldByWords(t *testing.T) {
	for n, s := range eachTerm() {
		checkToldByWords(t, n, s)
	}
}

func checkToldByWords(t *testing.T, n int, s string) {
	t.Helper()
	want, isTerm := setByWords(n, s)
	if got, ok := impl.TermSet(n, s); got != want || ok != isTerm {
		t.Errorf("TermSet(%d, %q) = %b, %v, want %b, %v", n, s, got, ok, want, isTerm)
	}
	if got := impl.TermIn(n, s); got != isTerm {
		t.Errorf("TermIn(%d, %q) = %v", n, s, got)
	}
}

// TestAllShortTexts has all texts of at most 3 signs of terms, and longer ones of few signs.
func TestAllShortTexts(t *testing.T) {
	for n := 1; n <= impl.RingMax; n++ {
		for length := range 4 {
			for list := range listsOf(inOrder(len(signsOfTerms)), length) {
				checkToldByWords(t, n, textBy(signsOfTerms, length, func(i int) int { return list[i] }))
			}
		}
	}
	const few = "1e-(+)"
	for _, n := range []int{1, 2, 5} {
		for length := 4; length <= 6; length++ {
			for list := range listsOf(inOrder(len(few)), length) {
				checkToldByWords(t, n, textBy(few, length, func(i int) int { return list[i] }))
			}
		}
	}
}

// TestTextsNearTerms has texts that differ from a term in one byte.
func TestTextsNearTerms(t *testing.T) {
	for _, n := range []int{1, 2, 7, 10, 11, impl.RingMax} {
		terms := termsOf(n)
		for i := 0; i < len(terms); i += 1 + len(terms)/25 {
			for _, s := range nearTexts(terms[i], signsOfTerms+" E") {
				checkToldByWords(t, n, s)
			}
		}
	}
}

// TestTermsAreMadeTidyRuleByRule uses the rules on texts, from the inside on and, as all ways lead to one tidy term, from the outside on.
func TestTermsAreMadeTidyRuleByRule(t *testing.T) {
	c := newTermCalls(t)
	for n, s := range eachTerm() {
		got := c.termTidy(n, s)
		if want := tidyByRules(n, s, fromInside); got != want {
			t.Errorf("TermTidy(%d, %q) = %q, want %q", n, s, got, want)
		}
		if want := tidyByRules(n, s, inOrder); got != want {
			t.Errorf("TermTidy(%d, %q) = %q, from the outside on %q", n, s, got, want)
		}
	}
}

func TestTermsAreTurnedSignBySign(t *testing.T) {
	c := newTermCalls(t)
	for n, s := range eachTerm() {
		if got, want := c.termTurned(n, s), turnedSigns(n, s); got != want {
			t.Errorf("TermTurned(%d, %q) = %q, want %q", n, s, got, want)
		}
	}
}

func TestTermsOfAllSets(t *testing.T) {
	c := newTermCalls(t)
	for n, set := range eachSet() {
		if got, want := c.termOf(n, set), termByWords(set); got != want {
			t.Errorf("TermOf(%d, %b) = %q, want %q", n, set, got, want)
		}
	}
}

func TestSetsOfTermsWrittenOut(t *testing.T) {
	c := newTermCalls(t)
	for _, x := range []struct {
		n    int
		s    string
		want int
	}{
		{1, "0", 0b1},
		{1, "e", 0},
		{1, "!0", 0},
		{1, "!e", 0b1},
		{1, "-0", 0b1},
		{2, "-1", 0b10},
		{5, "((0+1).(0+2))", 0b01111},
		{5, "(1.4)", 0b00001},
		{5, "(3.(2.1))", 0b00010},
		{5, "(e.!e)", 0},
		{5, "(!e.3)", 0b11111},
		{5, "(1&2)", 0},
		{5, "((1+2)&(2+3))", 0b00100},
		{5, "(1+!(1+2))", 0b11011},
		{5, "!(1.(1+2))", 0b10011},
		{5, "-(1+2)", 0b11000},
		{5, "-!1", 0b01111},
		{5, "!-1", 0b01111},
		{5, "--!!2", 0b00100},
		{5, "-!-2", 0b11011},
		{10, "9", 0b1000000000},
		{11, "x", 0b10000000000},
		{11, "-x", 0b00000000010},
		{12, "x", 0b010000000000},
		{12, "y", 0b100000000000},
		{12, "(x.y)", 0b001000000000},
		{12, "((9+x)+y)", 0b111000000000},
		{12, "-((9+x)+y)", 0b000000001110},
		{12, "((0+6).(0+(3+9)))", 0b001001001001},
		{12, "!((0+6).(0+3))", 0b110110110110},
	} {
		if got := c.termSet(x.n, x.s); got != x.want {
			t.Errorf("TermSet(%d, %q) = %b, want %b", x.n, x.s, got, x.want)
		}
		if got := placesHad(x.n, x.s); got != x.want {
			t.Errorf("TermHas(%d, %q) holds for %b, want %b", x.n, x.s, got, x.want)
		}
	}
}

// TestEachRuleOfTidyTerms has the rules one by one, where no other one may be used.
func TestEachRuleOfTidyTerms(t *testing.T) {
	c := newTermCalls(t)
	for _, x := range []struct {
		n       int
		s, want string
	}{
		{5, "!!3", "3"},
		{5, "!!e", "e"},
		{5, "!!(1+2)", "(1+2)"},
		{5, "--(1+2)", "(1+2)"},
		{5, "-!(1+2)", "!-(1+2)"},
		{5, "-0", "0"},
		{5, "-1", "4"},
		{5, "-4", "1"},
		{1, "-0", "0"},
		{2, "-1", "1"},
		{11, "-1", "x"},
		{12, "-1", "y"},
		{12, "-2", "x"},
		{12, "-y", "1"},
		{12, "-x", "2"},
		{5, "-e", "e"},
		{5, "(3+3)", "3"},
		{5, "(3&3)", "3"},
		{5, "((1.2)+(1.2))", "(1.2)"},
		{5, "((1.2)&(1.2))", "(1.2)"},
		{5, "(0+0)", "0"},
		{5, "(0&0)", "0"},
		{5, "(e+3)", "3"},
		{5, "(3+e)", "3"},
		{5, "(e+!3)", "!3"},
		{5, "(!3+e)", "!3"},
		{5, "(e+e)", "e"},
		{5, "(e&3)", "e"},
		{5, "(3&e)", "e"},
		{5, "(e&e)", "e"},
		{5, "(e.3)", "e"},
		{5, "(3.e)", "e"},
		{5, "(e.e)", "e"},
		{5, "(e.0)", "e"},
		{5, "(0.e)", "e"},
		{5, "(0.3)", "3"},
		{5, "(3.0)", "3"},
		{5, "(0.0)", "0"},
		{5, "(0.(1+2))", "(1+2)"},
		{5, "((1+2).0)", "(1+2)"},
	} {
		if got := c.termTidy(x.n, x.s); got != x.want {
			t.Errorf("TermTidy(%d, %q) = %q, want %q", x.n, x.s, got, x.want)
		}
	}
}

// TestRulesBehindRules has rules that may be used only when others have been.
func TestRulesBehindRules(t *testing.T) {
	c := newTermCalls(t)
	for _, x := range []struct {
		n       int
		s, want string
	}{
		{5, "-!(1&1)", "!4"},
		{5, "-!1", "!4"},
		{5, "-!e", "!e"},
		{5, "-!-(1+2)", "!(1+2)"},
		{5, "-!!(1+2)", "-(1+2)"},
		{5, "!-!(1+2)", "-(1+2)"},
		{5, "!-!-(1+2)", "(1+2)"},
		{5, "-!-!1", "1"},
		{5, "!(!1+!1)", "1"},
		{5, "!(e+!2)", "2"},
		{5, "-(e+-(1+2))", "(1+2)"},
		{5, "-(2+2)", "3"},
		{5, "-(e&1)", "e"},
		{5, "-(0.!1)", "!4"},
		{5, "---1", "4"},
		{5, "(-1+4)", "4"},
		{5, "(4&-1)", "4"},
		{5, "(!!1+--1)", "1"},
		{5, "(-0.1)", "1"},
		{5, "((0+0).(1+2))", "(1+2)"},
		{5, "((e&1)+2)", "2"},
		{5, "((e.1)&2)", "e"},
		{5, "(2.(-e+e))", "e"},
		{5, "(((1+1)+1)+(1&(1&1)))", "1"},
		{5, "(-!(1+2)&!-(1+2))", "!-(1+2)"},
		{12, "-!(x&x)", "!2"},
		{11, "(-1.(0&0))", "x"},
	} {
		if got := c.termTidy(x.n, x.s); got != x.want {
			t.Errorf("TermTidy(%d, %q) = %q, want %q", x.n, x.s, got, x.want)
		}
	}
}

// TestTermsThatAreTidy has terms for which there is no rule, though their sets have shorter ones.
func TestTermsThatAreTidy(t *testing.T) {
	c := newTermCalls(t)
	for _, s := range []string{
		"0", "4", "e", "!0", "!e", "!4", "-(1+2)", "!-(1+2)", "!(1+2)",
		"(1+2)", "(2+1)", "(1&2)", "(1.2)", "(3.3)", "(1.4)", "(0+1)", "(1+0)", "(0&1)", "(1&0)",
		"(!e+1)", "(1+!e)", "(!e&1)", "(1&!e)", "(!0.1)", "(1.!0)", "(!e.1)",
		"((1+2)+(2+1))", "((1+2)&(2+1))", "((1+2).(1+2))", "(!1+1)", "(1&!1)", "(-(1+2)+(1+2))", "(1+(1+2))",
	} {
		if got := c.termTidy(5, s); got != s {
			t.Errorf("TermTidy(5, %q) = %q", s, got)
		}
	}
}

func TestSignsInFrontOfSigns(t *testing.T) {
	c := newTermCalls(t)
	for n := 1; n <= impl.RingMax; n++ {
		for _, end := range []string{"0", "e", signsOfPlaces[n-1 : n], "(0+" + signsOfPlaces[n-1:n] + ")"} {
			for length := range mostInTerm - len(end) + 1 {
				for _, signs := range []string{"!", "-", "!-", "-!", "!!-", "--!"} {
					front := textBy(signs, length, func(i int) int { return i })
					want := c.termSet(n, end)
					for range strings.Count(front, "!") % 2 {
						want = otherPlaces(n, want)
					}
					for range strings.Count(front, "-") % 2 {
						want = turned(n, want, -1)
					}
					if got, had := c.termSet(n, front+end), placesHad(n, front+end); got != want || had != want {
						t.Fatalf("%d, %q: TermSet %b, TermHas %b, want %b", n, front+end, got, had, want)
					}
				}
			}
		}
	}
}

func TestTermsOfSetsWrittenOut(t *testing.T) {
	c := newTermCalls(t)
	for _, x := range []struct {
		n, set int
		want   string
	}{
		{1, 0, "e"},
		{1, 1, "0"},
		{2, 3, "(0+1)"},
		{5, 0, "e"},
		{5, 0b10000, "4"},
		{5, 0b10110, "(1+(2+4))"},
		{5, 0b11111, "(0+(1+(2+(3+4))))"},
		{11, 0b10000000001, "(0+x)"},
		{12, 0, "e"},
		{12, 0b100000000000, "y"},
		{12, 0b110000000000, "(x+y)"},
		{12, 0b111111111111, "(0+(1+(2+(3+(4+(5+(6+(7+(8+(9+(x+y)))))))))))"},
	} {
		if got := c.termOf(x.n, x.set); got != x.want {
			t.Errorf("TermOf(%d, %b) = %q, want %q", x.n, x.set, got, x.want)
		}
	}
}

func TestSameTermsWrittenOut(t *testing.T) {
	for _, x := range []struct {
		n    int
		s, t string
		want bool
	}{
		{1, "0", "!e", true},
		{1, "0", "e", false},
		{2, "-1", "1", true},
		{3, "-1", "1", false},
		{5, "-1", "4", true},
		{5, "(1+2)", "(2+1)", true},
		{5, "(1.4)", "0", true},
		{5, "(1&2)", "e", true},
		{5, "!(1+2)", "(!1&!2)", true},
		{5, "-(1.2)", "(4.3)", true},
		{5, "(!e.1)", "!e", true},
		{5, "(1+2)", "(1.2)", false},
		{5, "(1+2)", "1", false},
		{5, "1", "(1+2)", false},
		{12, "(x.2)", "0", true},
		{12, "(y+x)", "-(1+2)", true},
		{12, "x", "y", false},
	} {
		if got := impl.TermSame(x.n, x.s, x.t); got != x.want {
			t.Errorf("TermSame(%d, %q, %q) = %v", x.n, x.s, x.t, got)
		}
	}
}

func TestTurnedTermsWrittenOut(t *testing.T) {
	c := newTermCalls(t)
	for _, x := range []struct {
		n       int
		s, want string
	}{
		{1, "(0+!-0)", "(0+!-0)"},
		{2, "(0.1)", "(0.1)"},
		{5, "e", "e"},
		{5, "0", "0"},
		{5, "(1+!2)", "(4+!3)"},
		{5, "-!-3", "-!-2"},
		{5, "((e&4).(0+1))", "((e&1).(0+4))"},
		{10, "(9+5)", "(1+5)"},
		{11, "(1+x)", "(x+1)"},
		{12, "((1+2)+(x+y))", "((y+x)+(2+1))"},
		{12, "(0+(6+7))", "(0+(6+5))"},
	} {
		if got := c.termTurned(x.n, x.s); got != x.want {
			t.Errorf("TermTurned(%d, %q) = %q, want %q", x.n, x.s, got, x.want)
		}
	}
}

// TestLongestTerms has terms of just 60 bytes of every kind.
func TestLongestTerms(t *testing.T) {
	c := newTermCalls(t)
	tidy := strings.Repeat("(1+", 13) + "!(!1.!2)" + strings.Repeat(")", 13)
	for _, x := range []struct {
		s, tidy string
		set     int
	}{
		{strings.Repeat("!", 59) + "2", "!2", 0b11011},
		{strings.Repeat("-", 59) + "2", "3", 0b01000},
		{strings.Repeat("!-", 29) + "-e", "!e", 0b11111},
		{"!!!!!!-" + strings.Repeat("(1+", 13) + "1" + strings.Repeat(")", 13), "4", 0b10000},
		{"-!!!!!!" + strings.Repeat("(", 13) + "1" + strings.Repeat("&1)", 13), "4", 0b10000},
		{"(0." + strings.Repeat("-", 55) + "1)", "4", 0b10000},
		{"(" + strings.Repeat("-", 55) + "1&e)", "e", 0},
		{tidy, tidy, 0b00010},
	} {
		if len(x.s) != mostInTerm {
			t.Fatalf("%q has %d bytes", x.s, len(x.s))
		}
		if set, tidy, had := c.termSet(5, x.s), c.termTidy(5, x.s), placesHad(5, x.s); set != x.set || tidy != x.tidy || had != x.set {
			t.Errorf("%q: TermSet %b, TermHas %b, TermTidy %q, want %b and %q", x.s, set, had, tidy, x.set, x.tidy)
		}
		if got := c.termTurned(5, x.s); got != turnedSigns(5, x.s) || !impl.TermSame(5, x.s, x.s) {
			t.Errorf("TermTurned of %q = %q", x.s, got)
		}
	}
}

// TestPointsOfTerms has terms with up to 4 signs ., which are asked for places, and with more, which are not.
func TestPointsOfTerms(t *testing.T) {
	c := newTermCalls(t)
	for n := 1; n <= impl.RingMax; n++ {
		for points := range 13 {
			for _, s := range pointTerms(n, points) {
				want := c.termSet(n, s)
				if points > mostPoints {
					want = 0
				}
				if got := placesHad(n, s); got != want {
					t.Errorf("TermHas(%d, %q) holds for %b, want %b", n, s, got, want)
				}
				if !impl.TermIn(n, s) || !impl.TermSame(n, s, s) || c.termTidy(n, s) == "" || c.termTurned(n, s) == "" {
					t.Errorf("%d, %q is no term for functions that ask for no place", n, s)
				}
			}
		}
	}
}

// pointTerms returns terms with a number of signs ., in brackets on one side, behind signs, and along with other brackets.
func pointTerms(n, points int) []string {
	last := signsOfPlaces[n-1 : n]
	left, right := last, last
	for range points {
		left, right = inBrackets(left, '.', last), inBrackets(last, '.', right)
	}
	terms := []string{left, right, "!" + left, "-" + right, inBrackets(left, '+', "e"), inBrackets("!e", '&', right)}
	return slices.DeleteFunc(terms, func(s string) bool { return len(s) > mostInTerm })
}

// TestSlowTerms has terms for which all places are asked for at each sign ., as a long term inside tells none.
func TestSlowTerms(t *testing.T) {
	c := newTermCalls(t)
	none := strings.Repeat("!", 38) + "e"
	for _, s := range []string{
		"((((" + none + ".!e).!e).!e).!e)",
		"(!e.(!e.(!e.(!e." + none + "))))",
		"((!e.!e).(!e.(!e." + none + ")))",
	} {
		if c.termSet(impl.RingMax, s) != 0 || placesHad(impl.RingMax, s) != 0 {
			t.Errorf("%d, %q: TermSet %b, TermHas %b", impl.RingMax, s, c.termSet(impl.RingMax, s), placesHad(impl.RingMax, s))
		}
	}
}

// TestPlacesOfTermsByRing has the place 0, and the greatest one, in the full set and in the empty one.
func TestPlacesOfTermsByRing(t *testing.T) {
	for n := 1; n <= impl.RingMax; n++ {
		for _, v := range []int{0, n - 1} {
			own := signsOfPlaces[v : v+1]
			for _, s := range []string{"!e", own, "!!" + own, "(" + own + "+e)", "(" + own + ".0)", "(!e." + own + ")"} {
				if !impl.TermHas(n, s, v) {
					t.Errorf("TermHas(%d, %q, %d) does not hold", n, s, v)
				}
			}
			for _, s := range []string{"e", "!" + own, "(" + own + "&e)", "(" + own + ".e)", "!(!e." + own + ")"} {
				if impl.TermHas(n, s, v) {
					t.Errorf("TermHas(%d, %q, %d) holds", n, s, v)
				}
			}
		}
	}
}
