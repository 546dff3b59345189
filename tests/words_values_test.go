package tests

import (
	"fmt"
	"slices"
	"strings"
	"testing"

	"loop.example/ringsofsteps/impl"
)

func TestTextsAreAddedLetterByLetter(t *testing.T) {
	c := newWordCalls(t)
	texts := spelled()
	for n, letters := range eachSpelled() {
		for _, s := range texts[len(letters)] {
			if got, want := c.wordEnd(n, letters, s), endByLetters(n, letters, s); got != want {
				t.Errorf("WordEnd(%d, %v, %q) = %d, want %d", n, letters, s, got, want)
			}
		}
	}
}

func TestTextsAreMadeTidyPairByPair(t *testing.T) {
	c := newWordCalls(t)
	for length, texts := range spelled() {
		for _, s := range texts {
			want := tidyByPairs(s)
			if !tidyTextForm.MatchString(want) {
				t.Fatalf("%q is made %q, which is not tidy", s, want)
			}
			for _, n := range []int{2, 3, 7, impl.RingMax} {
				letters := slices.Repeat([]int{n - 1}, length)
				if got := c.wordTidy(n, letters, s); got != want {
					t.Errorf("WordTidy(%d, %v, %q) = %q, want %q", n, letters, s, got, want)
				}
			}
		}
	}
}

func TestShortTextsAreFoundBySearch(t *testing.T) {
	c := newWordCalls(t)
	order := tidyOrder()
	for n, letters := range eachLetters() {
		short, far := shortBySearch(n, letters, order[len(letters)]), c.wordFar(n, letters)
		for v := range n {
			want, found := short[v]
			got, ok := impl.WordShort(n, letters, v)
			if got != want || ok != found {
				t.Errorf("WordShort(%d, %v, %d) = %q, %v, want %q, %v", n, letters, v, got, ok, want, found)
			}
			if found && far[v] != len(want) || !found && far[v] != -1 {
				t.Errorf("WordFar(%d, %v) = %v: %d for %d, WordShort %q, %v", n, letters, far, far[v], v, want, found)
			}
		}
	}
}

func TestLawsAreFoundBySearch(t *testing.T) {
	c := newWordCalls(t)
	for n, letters := range eachLetters() {
		all := lawsBySearch(n, letters, smallTexts(len(letters)))
		for k := 1; k <= mostInLaw; k++ {
			want := slices.DeleteFunc(slices.Clone(all), func(law string) bool { return len(law) > k })
			if got := c.wordLaws(n, letters, k); !slices.Equal(got, want) {
				t.Errorf("WordLaws(%d, %v, %d) = %q, want %q", n, letters, k, got, want)
			}
		}
	}
}

func TestTheEmptyText(t *testing.T) {
	c := newWordCalls(t)
	for n, letters := range eachLetters() {
		if end, tidy, short := c.wordEnd(n, letters, ""), c.wordTidy(n, letters, ""), c.wordShort(n, letters, 0); end != 0 || tidy != "" || short != "" {
			t.Errorf("%d, %v: WordEnd %d, WordTidy %q, WordShort of 0 %q", n, letters, end, tidy, short)
		}
		if !impl.WordSame(n, letters, "", "") || !impl.WordSame(n, letters, "", "aA") || !impl.WordSame(n, letters, "Aa", "") {
			t.Errorf("WordSame(%d, %v) does not hold for the empty text", n, letters)
		}
		if impl.WordSame(n, letters, "", "a") || impl.WordSame(n, letters, "A", "") {
			t.Errorf("WordSame(%d, %v) holds for the empty text and a letter", n, letters)
		}
	}
}

// TestAsManySmallAsGreatOnes has up to 30 of both, and one more of one of both.
func TestAsManySmallAsGreatOnes(t *testing.T) {
	c := newWordCalls(t)
	for n, letters := range eachSpelled() {
		for _, signs := range []string{"aA", "bB", "cC"}[:len(letters)] {
			for _, many := range []int{1, 2, 29, 30} {
				for _, s := range []string{strings.Repeat(signs, many), strings.Repeat(signs[:1], many) + strings.Repeat(signs[1:], many)} {
					if end, tidy := c.wordEnd(n, letters, s), c.wordTidy(n, letters, s); end != 0 || tidy != "" {
						t.Errorf("%d, %v, %q: WordEnd %d, WordTidy %q", n, letters, s, end, tidy)
					}
					if small, great := c.wordTidy(n, letters, s[1:]), c.wordTidy(n, letters, s[:len(s)-1]); small != signs[1:] || great != signs[:1] {
						t.Errorf("WordTidy(%d, %v) of %q without its first letter is %q, without its last one %q", n, letters, s, small, great)
					}
				}
			}
		}
	}
}

func TestEndsWrittenOut(t *testing.T) {
	c := newWordCalls(t)
	for _, x := range []struct {
		n       int
		letters []int
		s       string
		want    int
	}{
		{2, []int{1}, "A", 1},
		{2, []int{1}, "aA", 0},
		{5, []int{2}, "aaa", 1},
		{5, []int{2}, "AAA", 4},
		{6, []int{1, 2, 3}, "cba", 0},
		{6, []int{1, 2, 3}, "cbA", 4},
		{6, []int{1, 2, 3}, "abcABC", 0},
		{7, []int{1, 3}, "abB", 1},
		{9, []int{4, 4}, "ab", 8},
		{9, []int{4, 4}, "aB", 0},
		{11, []int{10, 1}, "aB", 9},
		{11, []int{10, 1}, "bbbA", 4},
		{12, []int{11}, "AAAAA", 5},
		{12, []int{11}, strings.Repeat("a", 60), 0},
		{12, []int{7}, strings.Repeat("a", 59), 5},
		{12, []int{7}, strings.Repeat("A", 59), 7},
		{12, []int{7, 8, 9}, strings.Repeat("C", 59), 9},
	} {
		if got := c.wordEnd(x.n, x.letters, x.s); got != x.want {
			t.Errorf("WordEnd(%d, %v, %q) = %d, want %d", x.n, x.letters, x.s, got, x.want)
		}
	}
}

func TestTidyTextsWrittenOut(t *testing.T) {
	c := newWordCalls(t)
	for _, x := range []struct {
		name    string
		n       int
		letters []int
		s, want string
	}{
		{"one pair", 7, []int{1, 3}, "abB", "a"},
		{"pairs alone", 7, []int{1, 2, 3}, "cCbBaA", ""},
		{"small ones in order", 7, []int{1, 2, 3}, "cba", "abc"},
		{"great ones in order", 7, []int{1, 2, 3}, "CBA", "ABC"},
		{"a pair with others between", 7, []int{1, 2, 3}, "bAcAB", "AAc"},
		{"more small ones", 7, []int{1}, "aaaAA", "a"},
		{"more great ones", 7, []int{1}, "AAAa", "AA"},
		{"all tidy", 7, []int{1, 2, 3}, "aaBBBcc", "aaBBBcc"},
		{"two letters of one place", 9, []int{4, 4}, "aB", "aB"},
		{"two letters of one place, in order", 9, []int{4, 4}, "Ba", "aB"},
		{"two letters turned into each other", 5, []int{1, 4}, "ba", "ab"},
		{"as many as lead back", 2, []int{1}, "aa", "aa"},
		{"great ones of half of the ring", 2, []int{1}, "AA", "AA"},
		{"60 great ones", 12, []int{1, 2}, strings.Repeat("B", 60), strings.Repeat("B", 60)},
		{"two letters, 30 of both", 12, []int{1, 2}, strings.Repeat("Ba", 30), strings.Repeat("a", 30) + strings.Repeat("B", 30)},
	} {
		if got := c.wordTidy(x.n, x.letters, x.s); got != x.want {
			t.Errorf("%s: WordTidy(%d, %v, %q) = %q, want %q", x.name, x.n, x.letters, x.s, got, x.want)
		}
	}
}

func TestShortTextsWrittenOut(t *testing.T) {
	c := newWordCalls(t)
	for _, x := range []struct {
		name    string
		n       int
		letters []int
		want    []string
	}{
		{"a small one of both that stand for one place", 2, []int{1}, []string{"", "a"}},
		{"the first one of letters of one place, and the last great one", 6, []int{1, 1, 1}, []string{"", "a", "aa", "aaa", "CC", "C"}},
		{"small ones in place of great ones of a letter ahead", 6, []int{1, 5}, []string{"", "a", "aa", "aaa", "bb", "b"}},
		{"one letter and less of it", 7, []int{1, 3}, []string{"", "a", "aa", "b", "B", "aB", "A"}},
		{"a less A, then b less B", 8, []int{1, 4}, []string{"", "a", "aa", "Ab", "b", "ab", "AA", "A"}},
		{"letters of which two are less than three", 12, []int{6, 3, 2}, []string{"", "bC", "c", "b", "aC", "bc", "a", "BC", "ac", "B", "C", "Bc"}},
		{"c less C", 6, []int{2, 2, 3}, []string{"", "Bc", "a", "c", "B", "ac"}},
		{"half of a ring", 12, []int{1}, []string{"", "a", "aa", "aaa", "aaaa", "aaaaa", "aaaaaa", "AAAAA", "AAAA", "AAA", "AA", "A"}},
	} {
		lengths := make([]int, x.n)
		for v, want := range x.want {
			lengths[v] = len(want)
			if got := c.wordShort(x.n, x.letters, v); got != want {
				t.Errorf("%s: WordShort(%d, %v, %d) = %q, want %q", x.name, x.n, x.letters, v, got, want)
			}
		}
		if got := c.wordFar(x.n, x.letters); !slices.Equal(got, lengths) {
			t.Errorf("%s: WordFar(%d, %v) = %v, want %v", x.name, x.n, x.letters, got, lengths)
		}
	}
}

func TestPlacesWithoutText(t *testing.T) {
	c := newWordCalls(t)
	for _, x := range []struct {
		n             int
		letters, want []int
	}{
		{4, []int{2}, []int{0, -1, 1, -1}},
		{6, []int{2}, []int{0, -1, 1, -1, 1, -1}},
		{6, []int{3, 3}, []int{0, -1, -1, 1, -1, -1}},
		{9, []int{6, 3, 6}, []int{0, -1, -1, 1, -1, -1, 1, -1, -1}},
		{12, []int{6}, []int{0, -1, -1, -1, -1, -1, 1, -1, -1, -1, -1, -1}},
		{12, []int{2, 10}, []int{0, -1, 1, -1, 2, -1, 3, -1, 2, -1, 1, -1}},
	} {
		if got := c.wordFar(x.n, x.letters); !slices.Equal(got, x.want) {
			t.Errorf("WordFar(%d, %v) = %v, want %v", x.n, x.letters, got, x.want)
		}
		for v, far := range x.want {
			if got, ok := impl.WordShort(x.n, x.letters, v); ok != (far != -1) || len(got) != max(far, 0) {
				t.Errorf("WordShort(%d, %v, %d) = %q, %v", x.n, x.letters, v, got, ok)
			}
		}
	}
}

func TestSameTextsWrittenOut(t *testing.T) {
	for _, x := range []struct {
		n       int
		letters []int
		s, t    string
		want    bool
	}{
		{2, []int{1}, "a", "A", true},
		{3, []int{1}, "a", "A", false},
		{3, []int{1}, "a", "AA", true},
		{6, []int{1, 2, 3}, "ab", "c", true},
		{6, []int{1, 2, 3}, "c", "C", true},
		{6, []int{1, 2, 3}, "ab", "C", true},
		{6, []int{1, 2, 3}, "ab", "b", false},
		{6, []int{1, 2, 3}, "abc", "cba", true},
		{7, []int{3, 3}, "a", "b", true},
		{7, []int{3, 3}, "a", "B", false},
		{12, []int{5}, strings.Repeat("a", 60), "", true},
		{12, []int{5}, strings.Repeat("a", 60), strings.Repeat("A", 60), true},
		{12, []int{5}, strings.Repeat("a", 59), "A", true},
		{12, []int{5}, strings.Repeat("a", 59), "a", false},
	} {
		if got := impl.WordSame(x.n, x.letters, x.s, x.t); got != x.want {
			t.Errorf("WordSame(%d, %v, %q, %q) = %v", x.n, x.letters, x.s, x.t, got)
		}
	}
}

func TestLawsWrittenOut(t *testing.T) {
	c := newWordCalls(t)
	for _, x := range []struct {
		name    string
		n       int
		letters []int
		k       int
		want    []string
	}{
		{"all of 4 places", 4, []int{1, 2}, 4, []string{"bb", "aab", "aaaa"}},
		{"just those of 3 letters", 4, []int{1, 2}, 3, []string{"bb", "aab"}},
		{"just those of 2 letters", 4, []int{1, 2}, 2, []string{"bb"}},
		{"none of 1 letter", 4, []int{1, 2}, 1, nil},
		{"none of more letters", 4, []int{1, 2}, 6, []string{"bb", "aab", "aaaa"}},
		{"letters of one place", 2, []int{1, 1, 1}, 6, []string{"cc", "bc", "bb", "ac", "ab", "aa"}},
		{"two letters of one place", 3, []int{1, 1}, 3, []string{"bbb", "abb", "aab", "aaa"}},
		{"letters turned into each other", 3, []int{1, 2}, 6, []string{"bbb", "ab", "aaa"}},
		{"one letter, 6 times", 6, []int{1}, 6, []string{"aaaaaa"}},
		{"one letter, 6 times of 12 places", 12, []int{2}, 6, []string{"aaaaaa"}},
		{"one letter, twice", 12, []int{6}, 6, []string{"aa"}},
		{"one letter, too few of it", 7, []int{1}, 6, nil},
		{"three letters", 12, []int{3, 6, 9}, 4, []string{"cccc", "bcc", "bb", "ac", "aab", "aaaa"}},
		{"6 letters of two", 11, []int{1, 2}, 6, []string{"abbbbb"}},
		{"none of 5 letters", 11, []int{1, 2}, 5, nil},
	} {
		if got := c.wordLaws(x.n, x.letters, x.k); !slices.Equal(got, x.want) {
			t.Errorf("%s: WordLaws(%d, %v, %d) = %q, want %q", x.name, x.n, x.letters, x.k, got, x.want)
		}
	}
}

// TestLettersOfLongerSlices has numbers ahead of letters and behind them that are no letters; neither these nor the letters are written into.
func TestLettersOfLongerSlices(t *testing.T) {
	for n, letters := range eachSpelled() {
		whole := slices.Concat([]int{99, -1}, letters, []int{0, -2, 77, 0})
		before := slices.Clone(whole)
		part := whole[2 : 2+len(letters)]
		if got, want := wordResults(n, part), wordResults(n, slices.Clone(letters)); got != want {
			t.Errorf("%d, %v: as a part of a slice\n%s, alone\n%s", n, letters, got, want)
		}
		if !slices.Equal(whole, before) {
			t.Fatalf("%d, %v: the slice is now %v", n, letters, whole)
		}
	}
}

// wordResults puts the results of all functions one behind the other.
func wordResults(n int, letters []int) string {
	const s = "aaAaa"
	all := ""
	tell := func(results ...any) { all += fmt.Sprintf("%#v\n", results) }
	tell(impl.WordEnd(n, letters, s))
	tell(impl.WordTidy(n, letters, s))
	tell(impl.WordSame(n, letters, s, ""))
	for v := range n {
		tell(impl.WordShort(n, letters, v))
	}
	tell(impl.WordLaws(n, letters, mostInLaw))
	tell(impl.WordFar(n, letters))
	return all
}

// TestWordListsAreNew writes into results, behind them as well, looks for it in the letters, and asks again.
func TestWordListsAreNew(t *testing.T) {
	c := newWordCalls(t)
	for n, letters := range eachSpelled() {
		own := slices.Clone(letters)
		checkNew(t, func() []int { return c.wordFar(n, letters) })
		checkNewBy(t, func() []string { return c.wordLaws(n, letters, mostInLaw) }, "written over")
		if !slices.Equal(letters, own) {
			t.Fatalf("%d, %v: the letters are now %v", n, own, letters)
		}
	}
}
