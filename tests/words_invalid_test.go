package tests

import (
	"math"
	"slices"
	"strings"
	"testing"

	"loop.example/ringsofsteps/impl"
)

func checkLettersFail(t *testing.T, n int, letters []int) {
	t.Helper()
	for _, s := range []string{"", "a", "A", "aA", "b", "x", strings.Repeat("a", mostInText)} {
		checkTextFails(t, n, letters, s)
		if impl.WordSame(n, letters, s, s) {
			t.Errorf("WordSame(%d, %v, %q, %q) holds", n, letters, s, s)
		}
	}
	for _, v := range []int{0, 1, n - 1} {
		checkShortFails(t, n, letters, v)
	}
	for k := 1; k <= mostInLaw; k++ {
		checkLawsFail(t, n, letters, k)
	}
	if got, ok := impl.WordFar(n, letters); ok || len(got) != 0 {
		t.Errorf("WordFar(%d, %v) = %v, %v", n, letters, got, ok)
	}
}

func checkTextFails(t *testing.T, n int, letters []int, s string) {
	t.Helper()
	if got, ok := impl.WordEnd(n, letters, s); ok || got != 0 {
		t.Errorf("WordEnd(%d, %v, %q) = %d, %v", n, letters, s, got, ok)
	}
	if got, ok := impl.WordTidy(n, letters, s); ok || got != "" {
		t.Errorf("WordTidy(%d, %v, %q) = %q, %v", n, letters, s, got, ok)
	}
	for _, other := range []string{s, "", "a", "A"} {
		if impl.WordSame(n, letters, s, other) || impl.WordSame(n, letters, other, s) {
			t.Errorf("WordSame(%d, %v) of %q and %q: %v, exchanged %v", n, letters, s, other, impl.WordSame(n, letters, s, other), impl.WordSame(n, letters, other, s))
		}
	}
}

func checkShortFails(t *testing.T, n int, letters []int, v int) {
	t.Helper()
	if got, ok := impl.WordShort(n, letters, v); ok || got != "" {
		t.Errorf("WordShort(%d, %v, %d) = %q, %v", n, letters, v, got, ok)
	}
}

func checkLawsFail(t *testing.T, n int, letters []int, k int) {
	t.Helper()
	if got, ok := impl.WordLaws(n, letters, k); ok || len(got) != 0 {
		t.Errorf("WordLaws(%d, %v, %d) = %q, %v", n, letters, k, got, ok)
	}
}

func TestLettersWithoutRing(t *testing.T) {
	for _, n := range []int{0, -1, -2, -12, 13, 14, 63, 64, 65, 100, math.MaxInt, math.MaxInt - 1, math.MinInt, math.MinInt + 1} {
		checkLettersFail(t, n, nil)
		for _, letters := range [][]int{{0}, {1}, {-1}, {n - 1}, {1, 1}, {1, 2, 3}, {11}, {n}} {
			checkLettersFail(t, n, letters)
		}
	}
}

// TestLettersOfOnePlace has no letters at all, as the one place of the ring is 0.
func TestLettersOfOnePlace(t *testing.T) {
	for length := range mostLetters + 2 {
		for v := -1; v <= 2; v++ {
			checkLettersFail(t, 1, slices.Repeat([]int{v}, length))
		}
	}
}

func TestListsOfNoLetters(t *testing.T) {
	for n := 2; n <= impl.RingMax; n++ {
		for _, letters := range [][]int{nil, {}, inOrder(n)[:0], inOrder(n)[n:]} {
			checkLettersFail(t, n, letters)
		}
	}
}

// TestMoreThanThreeLetters gives four letters and more, of which the first three alone are a list of letters.
func TestMoreThanThreeLetters(t *testing.T) {
	c := newWordCalls(t)
	for n := 2; n <= impl.RingMax; n++ {
		for length := mostLetters + 1; length <= 30; length++ {
			same := slices.Repeat([]int{n - 1}, length)
			different := rowBy(n-1, length, func(i int) int { return i })
			for i := range different {
				different[i]++
			}
			for _, letters := range [][]int{same, different} {
				checkLettersFail(t, n, letters)
				c.wordEnd(n, letters[:mostLetters], "abcABC")
				c.wordFar(n, letters[:mostLetters])
			}
		}
	}
}

// TestLettersThatAreNone puts 0, or a number that is no place, at each position of lists of every length.
func TestLettersThatAreNone(t *testing.T) {
	for n := 2; n <= impl.RingMax; n++ {
		for length := 1; length <= mostLetters; length++ {
			for position := range length {
				for _, v := range append(numbersThatAreNoPlaces(n), 0) {
					letters := slices.Repeat([]int{1}, length)
					letters[position] = v
					checkLettersFail(t, n, letters)
				}
			}
		}
	}
}

// TestTextsWithOtherBytes puts each byte that is none of the letters at the begin, in the middle and at the end of texts.
func TestTextsWithOtherBytes(t *testing.T) {
	for length := 1; length <= mostLetters; length++ {
		signs := signsOf(length)
		for _, n := range []int{2, 7, impl.RingMax} {
			letters := slices.Repeat([]int{1}, length)
			for b := range 256 {
				sign := string([]byte{byte(b)})
				if strings.Contains(signs, sign) {
					continue
				}
				for _, s := range []string{"", "a", "aA", strings.Repeat("A", mostInText-1)} {
					for _, at := range []int{0, len(s) / 2, len(s)} {
						checkTextFails(t, n, letters, s[:at]+sign+s[at:])
					}
				}
			}
		}
	}
}

func TestTextsWithOtherSigns(t *testing.T) {
	for _, s := range []string{"\u00e4", "\u0430", "\u0410", "a\u0301", "\uff41", "\xff\xfe", "a\xc3", "a b", "a\n", "a\x00", "-a", "a1", "abcd", "abcD", "0", " "} {
		for _, letters := range [][]int{{1}, {1, 2}, {1, 2, 3}} {
			checkTextFails(t, 4, letters, s)
		}
	}
}

// TestTextsOfOtherLetters has letters that longer lists have alone.
func TestTextsOfOtherLetters(t *testing.T) {
	c := newWordCalls(t)
	for n := 2; n <= impl.RingMax; n++ {
		one, two, three := []int{1}, []int{1, 1}, []int{1, 1, 1}
		for _, s := range []string{"b", "B", "ab", "bB", "Ba"} {
			checkTextFails(t, n, one, s)
			c.wordEnd(n, two, s)
			c.wordEnd(n, three, s)
		}
		for _, s := range []string{"c", "C", "ac", "cC", "bC"} {
			checkTextFails(t, n, one, s)
			checkTextFails(t, n, two, s)
			c.wordEnd(n, three, s)
		}
	}
}

// TestLongTexts gives 61 letters and more, also such as leave fewer when made tidy.
func TestLongTexts(t *testing.T) {
	c := newWordCalls(t)
	for n := 2; n <= impl.RingMax; n++ {
		for length := 1; length <= mostLetters; length++ {
			letters, signs := slices.Repeat([]int{n - 1}, length), signsOf(length)
			for _, bytes := range []int{mostInText + 1, mostInText + 2, 2 * mostInText, 1000} {
				for _, long := range []string{strings.Repeat("a", bytes), strings.Repeat("A", bytes), textBy(signs, bytes, func(i int) int { return i })} {
					checkTextFails(t, n, letters, long)
					c.wordEnd(n, letters, long[:mostInText])
					c.wordTidy(n, letters, long[:mostInText])
				}
			}
		}
	}
}

// TestSameTextsWithOneBroken gives two texts that are not both as told.
func TestSameTextsWithOneBroken(t *testing.T) {
	for n, letters := range eachSpelled() {
		for _, broken := range []string{"x", "d", "a ", "\x80", strings.Repeat("aA", 31)} {
			for _, s := range []string{"", "a", "aA", broken} {
				if impl.WordSame(n, letters, s, broken) || impl.WordSame(n, letters, broken, s) {
					t.Errorf("WordSame(%d, %v) holds for %q and %q", n, letters, s, broken)
				}
			}
		}
	}
}

func TestShortTextsOfNoPlace(t *testing.T) {
	for n, letters := range eachSpelled() {
		for _, v := range numbersThatAreNoPlaces(n) {
			checkShortFails(t, n, letters, v)
		}
	}
}

func TestLawsOfOtherNumbers(t *testing.T) {
	for n, letters := range eachSpelled() {
		for _, k := range append(numbersOutside(), 0, 7, 8, 12, 60, 61) {
			checkLawsFail(t, n, letters, k)
		}
	}
}

func TestWordsJustInside(t *testing.T) {
	c := newWordCalls(t)
	for _, n := range []int{2, impl.RingMax} {
		for _, length := range []int{1, mostLetters} {
			letters := slices.Repeat([]int{n - 1}, length)
			for _, s := range []string{"", "a", "A", strings.Repeat("a", mostInText), strings.Repeat("A", mostInText)} {
				c.wordEnd(n, letters, s)
				c.wordTidy(n, letters, s)
			}
			for _, v := range []int{0, n - 1} {
				c.wordShort(n, letters, v)
			}
			for _, k := range []int{1, mostInLaw} {
				c.wordLaws(n, letters, k)
			}
			c.wordFar(n, letters)
		}
	}
}
