package tests

import (
	"iter"
	"maps"
	"math"
	"regexp"
	"slices"
	"strings"
	"testing"

	"loop.example/ringsofsteps/impl"
)

// mostInTerm is the greatest number of bytes of a term, and mostPoints that of signs . of one for TermHas.
const (
	mostInTerm = 60
	mostPoints = 4
)

// The signs of the places, and all signs of terms.
const (
	signsOfPlaces = "0123456789xy"
	signsOfTerms  = signsOfPlaces + "e!-(+&.)"
)

// The termCalls call functions of chapter 11 as the wordCalls, which they embed, call those of chapter 10.
type termCalls struct {
	wordCalls
}

func newTermCalls(t *testing.T) termCalls {
	return termCalls{newWordCalls(t)}
}

func (c termCalls) mustTerm(name string, ok bool, n int, s string) {
	if !ok {
		c.t.Helper()
		c.t.Fatalf("%s(%d, %q) failed", name, n, s)
	}
}

func (c termCalls) termSet(n int, s string) int {
	got, ok := impl.TermSet(n, s)
	c.mustTerm("TermSet", ok, n, s)
	return got
}

func (c termCalls) termTidy(n int, s string) string {
	got, ok := impl.TermTidy(n, s)
	c.mustTerm("TermTidy", ok, n, s)
	return got
}

func (c termCalls) termOf(n, set int) string {
	got, ok := impl.TermOf(n, set)
	c.must("TermOf", ok, n, set)
	return got
}

func (c termCalls) termTurned(n int, s string) string {
	got, ok := impl.TermTurned(n, s)
	c.mustTerm("TermTurned", ok, n, s)
	return got
}

// placesHad returns the set of all places of which TermHas holds.
func placesHad(n int, s string) int {
	set := 0
	for v := range n {
		if impl.TermHas(n, s, v) {
			set |= 1 << v
		}
	}
	return set
}

// eachTerm yields every ring with all short terms of it, some of any length, and some that are deep.
func eachTerm() iter.Seq2[int, string] {
	return func(yield func(int, string) bool) {
		for n := 1; n <= impl.RingMax; n++ {
			for _, s := range termsOf(n) {
				if !yield(n, s) {
					return
				}
			}
		}
	}
}

// eachTermForHas yields those of eachTerm that have few enough signs . for TermHas.
func eachTermForHas() iter.Seq2[int, string] {
	return func(yield func(int, string) bool) {
		for n, s := range eachTerm() {
			if strings.Count(s, ".") <= mostPoints && !yield(n, s) {
				return
			}
		}
	}
}

func termsOf(n int) []string {
	return slices.Concat(shortTerms(n), longTerms(n), deepTerms(n))
}

// shortTerms returns all terms up to a length that leaves few enough of them.
func shortTerms(n int) []string {
	most := 5
	if n <= 2 {
		most = 8
	} else if n <= 4 {
		most = 6
	}
	byLength := [][]string{nil, strings.Split(signsOfPlaces[:n]+"e", "")}
	for length := 2; length <= most; length++ {
		var terms []string
		for _, inner := range byLength[length-1] {
			terms = append(terms, "!"+inner, "-"+inner)
		}
		for first := 1; first <= length-4; first++ {
			terms = append(terms, allInBrackets(byLength[first], byLength[length-3-first])...)
		}
		byLength = append(byLength, terms)
	}
	return slices.Concat(byLength...)
}

func allInBrackets(first, second []string) []string {
	var terms []string
	for _, a := range first {
		for _, b := range second {
			for _, sign := range "+&." {
				terms = append(terms, inBrackets(a, sign, b))
			}
		}
	}
	return terms
}

func inBrackets(first string, sign rune, second string) string {
	return "(" + first + string(sign) + second + ")"
}

// longTerms returns some terms of each length from 5 on.
func longTerms(n int) []string {
	x := n
	choose := func(most int) int {
		x = (x*1103515245 + 12345) & math.MaxInt32
		return (x >> 8) % most
	}
	var terms []string
	for length := 5; length <= mostInTerm; length++ {
		for range 12 {
			terms = append(terms, termByChoice(n, length, choose))
		}
	}
	return terms
}

// termByChoice returns a term of a length, put together by choices of numbers less than another one.
func termByChoice(n, length int, choose func(most int) int) string {
	if length == 1 {
		v := choose(n + 2)
		if v >= n {
			return "e"
		}
		return signsOfPlaces[v : v+1]
	}
	if length < 5 || choose(4) == 0 {
		at := choose(2)
		return "!-"[at:at+1] + termByChoice(n, length-1, choose)
	}
	first := 1 + choose(length-4)
	sign := rune("+&."[choose(3)])
	return inBrackets(termByChoice(n, first, choose), sign, termByChoice(n, length-3-first, choose))
}

// deepTerms returns terms of 60 bytes or just less: signs in front of signs, and brackets in brackets on one side.
func deepTerms(n int) []string {
	last := signsOfPlaces[n-1 : n]
	var terms []string
	for _, signs := range []string{"!", "-", "!-", "-!", "!!-", "--!"} {
		for _, length := range []int{mostInTerm - 2, mostInTerm - 1} {
			front := textBy(signs, length, func(i int) int { return i })
			terms = append(terms, front+last, front+"e")
		}
	}
	for _, sign := range "+&." {
		left, right := last, last
		for len(left)+4 <= mostInTerm {
			left, right = inBrackets(left, sign, "0"), inBrackets("0", sign, right)
			terms = append(terms, left, right)
		}
	}
	return terms
}

// The functions from here on follow the words of chapter 11 on texts alone; the tests hold the program against them.

// told is the sign that stands for a set where a text is made smaller; these signs are none of a term.
func told(set int) string {
	return string(rune(0xe000 + set))
}

// isTold returns the set of such a sign.
func isTold(s string) (int, bool) {
	signs := []rune(s)
	if len(signs) != 1 || signs[0] < 0xe000 || signs[0] >= 0xe000+1<<impl.RingMax {
		return 0, false
	}
	return int(signs[0] - 0xe000), true
}

var (
	placeForm = regexp.MustCompile(`[0-9xye]`)
	frontForm = regexp.MustCompile(`[!-][\x{e000}-\x{efff}]`)
	pairForm  = regexp.MustCompile(`\([\x{e000}-\x{efff}][+&.][\x{e000}-\x{efff}]\)`)
)

// setByWords puts the signs of sets in place of what tells them until the whole text is one; it returns false if it comes to none.
func setByWords(n int, s string) (int, bool) {
	if len(s) > mostInTerm || strings.ContainsFunc(s, func(sign rune) bool { return sign > 127 }) {
		return 0, false
	}
	s = placeForm.ReplaceAllStringFunc(s, func(sign string) string {
		v := strings.Index(signsOfPlaces, sign)
		if v >= n {
			return sign
		}
		if v < 0 {
			return told(0)
		}
		return told(1 << v)
	})
	for before := ""; s != before; {
		before = s
		s = frontForm.ReplaceAllStringFunc(s, func(front string) string {
			set, _ := isTold(front[1:])
			if front[0] == '!' {
				return told(1<<n - 1 - set)
			}
			return told(turned(n, set, -1))
		})
		s = pairForm.ReplaceAllStringFunc(s, func(pair string) string {
			signs := []rune(pair)
			return told(joinedSets(n, int(signs[1]-0xe000), signs[2], int(signs[3]-0xe000)))
		})
	}
	return isTold(s)
}

func joinedSets(n, a int, sign rune, b int) int {
	switch sign {
	case '+':
		return a | b
	case '&':
		return a & b
	}
	return sums(n, a, b)
}

// termFrom returns the term that begins at a position of a term, "" if none does.
func termFrom(s string, at int) string {
	open := 0
	for i := at; i < len(s); i++ {
		switch sign := s[i]; {
		case sign == '(':
			open++
		case sign == ')' && open == 0 || strings.IndexByte("+&.", sign) >= 0 && open == 0:
			return ""
		case sign == ')':
			open--
		case strings.IndexByte("!-+&.", sign) >= 0:
			continue
		}
		if open == 0 {
			return s[at : i+1]
		}
	}
	return ""
}

// byRule uses a rule on a whole term; it returns false if there is none for it.
func byRule(n int, s string) (string, bool) {
	switch {
	case strings.HasPrefix(s, "!!"), strings.HasPrefix(s, "--"):
		return s[2:], true
	case strings.HasPrefix(s, "-!"):
		return "!-" + s[2:], true
	case s == "-e":
		return "e", true
	case len(s) == 2 && s[0] == '-':
		v := place(n, -strings.Index(signsOfPlaces, s[1:]))
		return signsOfPlaces[v : v+1], true
	case s[0] != '(':
		return "", false
	}
	a := termFrom(s, 1)
	sign, b := s[1+len(a)], termFrom(s, len(a)+2)
	switch {
	case sign == '+' && a == b, sign == '&' && a == b, sign == '+' && b == "e", sign == '.' && b == "0":
		return a, true
	case sign == '+' && a == "e", sign == '.' && a == "0":
		return b, true
	case sign == '&' && (a == "e" || b == "e"), sign == '.' && (a == "e" || b == "e"):
		return "e", true
	}
	return "", false
}

// tidyByRules uses one rule after the other, each time at the first one of some positions where one may be used.
func tidyByRules(n int, s string, positions func(length int) []int) string {
	for used := true; used; {
		used = false
		for _, at := range positions(len(s)) {
			t := termFrom(s, at)
			if t == "" {
				continue
			}
			if changed, ok := byRule(n, t); ok {
				s, used = s[:at]+changed+s[at+len(t):], true
				break
			}
		}
	}
	return s
}

// fromInside goes backwards, so that a term comes behind all terms in it.
func fromInside(length int) []int {
	positions := inOrder(length)
	slices.Reverse(positions)
	return positions
}

// turnedSigns puts the sign of each place turned by -1 in place of its own one.
func turnedSigns(n int, s string) string {
	return strings.Map(func(sign rune) rune {
		if v := strings.IndexRune(signsOfPlaces, sign); v >= 0 {
			return rune(signsOfPlaces[place(n, -v)])
		}
		return sign
	}, s)
}

// termByWords puts a set together from its greatest place on.
func termByWords(set int) string {
	if set == 0 {
		return "e"
	}
	s := ""
	for _, v := range slices.Backward(placesOf(set)) {
		sign := signsOfPlaces[v : v+1]
		if s == "" {
			s = sign
			continue
		}
		s = inBrackets(sign, '+', s)
	}
	return s
}

// nearTexts returns texts that differ from another one in one sign: one less, one more, another one, or two exchanged.
func nearTexts(s, signs string) []string {
	texts := make(map[string]bool)
	for at := range len(s) + 1 {
		for _, sign := range strings.Split(signs, "") {
			texts[s[:at]+sign+s[at:]] = true
			if at < len(s) {
				texts[s[:at]+sign+s[at+1:]] = true
			}
		}
		if at < len(s) {
			texts[s[:at]+s[at+1:]] = true
		}
		if at+1 < len(s) {
			texts[s[:at]+s[at+1:at+2]+s[at:at+1]+s[at+2:]] = true
		}
	}
	return slices.Sorted(maps.Keys(texts))
}
