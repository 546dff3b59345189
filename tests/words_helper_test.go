package tests

import (
	"iter"
	"math"
	"regexp"
	"strings"
	"testing"

	"loop.example/ringsofsteps/impl"
)

// mostLetters is the greatest number of letters of a list, mostInText that of letters of a text, and mostInLaw that of letters for WordLaws.
const (
	mostLetters = 3
	mostInText  = 60
	mostInLaw   = 6
)

// The wordCalls call functions of chapter 10 as the zeroCalls, which they embed, call those of chapter 9.
type wordCalls struct {
	zeroCalls
}

func newWordCalls(t *testing.T) wordCalls {
	return wordCalls{newZeroCalls(t)}
}

func (c wordCalls) mustWord(name string, ok bool, n int, letters []int, argument any) {
	c.t.Helper()
	if !ok {
		c.t.Fatalf("%s(%d, %v, %#v) failed", name, n, letters, argument)
	}
}

func (c wordCalls) wordEnd(n int, letters []int, s string) int {
	got, ok := impl.WordEnd(n, letters, s)
	c.mustWord("WordEnd", ok, n, letters, s)
	return got
}

func (c wordCalls) wordTidy(n int, letters []int, s string) string {
	got, ok := impl.WordTidy(n, letters, s)
	c.mustWord("WordTidy", ok, n, letters, s)
	return got
}

func (c wordCalls) wordShort(n int, letters []int, v int) string {
	got, ok := impl.WordShort(n, letters, v)
	c.mustWord("WordShort", ok, n, letters, v)
	return got
}

func (c wordCalls) wordLaws(n int, letters []int, k int) []string {
	got, ok := impl.WordLaws(n, letters, k)
	c.mustWord("WordLaws", ok, n, letters, k)
	return got
}

func (c wordCalls) wordFar(n int, letters []int) []int {
	got, ok := impl.WordFar(n, letters)
	c.mustWord("WordFar", ok, n, letters, nil)
	if len(got) != n {
		c.t.Fatalf("WordFar(%d, %v) = %v: not one number for each place", n, letters, got)
	}
	return got
}

// eachLetters yields all lists of letters of all rings. A list is to be used before the next one.
func eachLetters() iter.Seq2[int, []int] {
	return func(yield func(int, []int) bool) {
		for n := 2; n <= impl.RingMax; n++ {
			for length := 1; length <= mostLetters; length++ {
				for letters := range listsOf(inOrder(n)[1:], length) {
					if !yield(n, letters) {
						return
					}
				}
			}
		}
	}
}

// eachSpelled yields lists of letters, all of them on small rings, and otherwise all of one and of two letters and some of three ones.
func eachSpelled() iter.Seq2[int, []int] {
	return func(yield func(int, []int) bool) {
		i := 0
		for n, letters := range eachLetters() {
			i++
			if (n <= 4 || len(letters) < mostLetters || i%10 == 0) && !yield(n, letters) {
				return
			}
		}
	}
}

// spelled are texts of one, of two and of three letters, for the lists of eachSpelled.
func spelled() [][]string {
	texts := make([][]string, mostLetters+1)
	for letters := 1; letters <= mostLetters; letters++ {
		texts[letters] = someTexts(signsOf(letters))
	}
	return texts
}

// signsOf returns the small and the great ones of so many letters.
func signsOf(letters int) string {
	return "abc"[:letters] + "ABC"[:letters]
}

// someTexts returns all texts of at most two letters, and longer ones up to the longest of all.
func someTexts(signs string) []string {
	var texts []string
	for length := range 3 {
		for list := range listsOf(inOrder(len(signs)), length) {
			texts = append(texts, textBy(signs, length, func(i int) int { return list[i] }))
		}
	}
	x := len(signs)
	for _, length := range []int{3, 4, 5, 7, 12, 13, 29, 30, 31, 59, mostInText} {
		for _, follow := range []func(i int) int{
			func(i int) int { return i },
			func(i int) int { return len(signs) - 1 },
			func(int) int {
				x = (x*1103515245 + 12345) & math.MaxInt32
				return x >> 8
			},
		} {
			texts = append(texts, textBy(signs, length, follow))
		}
	}
	return texts
}

func textBy(signs string, length int, follow func(i int) int) string {
	text := make([]byte, length)
	for i := range text {
		text[i] = signs[follow(i)%len(signs)]
	}
	return string(text)
}

func backwards(text string) string {
	return textBy(text, len(text), func(i int) int { return len(text) - 1 - i })
}

// The functions from here on follow the words of chapter 10; the tests hold the program against them.

var tidyTextForm = regexp.MustCompile(`^(a*|A*)(b*|B*)(c*|C*)$`)

// endByLetters adds one letter of a text after the other.
func endByLetters(n int, letters []int, text string) int {
	at := 0
	for i := range len(text) {
		if k := strings.IndexByte("abc", text[i]); k >= 0 {
			at = place(n, at+letters[k])
			continue
		}
		at = place(n, at-letters[strings.IndexByte("ABC", text[i])])
	}
	return at
}

// tidyByPairs takes pairs of a small one and a great one out of a text.
func tidyByPairs(text string) string {
	tidy := ""
	for i := range mostLetters {
		small, great := "abc"[i:i+1], "ABC"[i:i+1]
		left := strings.Map(func(sign rune) rune {
			if strings.ContainsRune(small+great, sign) {
				return sign
			}
			return -1
		}, text)
		for strings.Contains(left, small) && strings.Contains(left, great) {
			left = strings.Replace(left, small, "", 1)
			left = strings.Replace(left, great, "", 1)
		}
		tidy += left
	}
	return tidy
}

// tidyTexts returns the tidy texts of a number of bytes, of letters from one on up to another one, those with most small ones of the first letter first.
func tidyTexts(from, to, length int) []string {
	if from == to {
		if length == 0 {
			return []string{""}
		}
		return nil
	}
	var texts []string
	for amount := length; amount >= -length; amount-- {
		sign, bytes := "abc"[from:from+1], amount
		if amount < 0 {
			sign, bytes = "ABC"[from:from+1], -amount
		}
		for _, behind := range tidyTexts(from+1, to, length-bytes) {
			texts = append(texts, strings.Repeat(sign, bytes)+behind)
		}
	}
	return texts
}

// tidyOrder are the tidy texts of one, of two and of three letters in the order in which WordShort prefers them, up to a length greater than any distance.
func tidyOrder() [][]string {
	texts := make([][]string, mostLetters+1)
	for letters := 1; letters <= mostLetters; letters++ {
		for length := range impl.RingMax + 1 {
			texts[letters] = append(texts[letters], tidyTexts(0, letters, length)...)
		}
	}
	return texts
}

// shortBySearch returns the first text of each place that has one.
func shortBySearch(n int, letters []int, texts []string) map[int]string {
	short := make(map[int]string)
	for _, text := range texts {
		v := endByLetters(n, letters, text)
		if _, found := short[v]; !found {
			short[v] = text
		}
	}
	return short
}

// smallTexts returns the tidy texts of small letters alone, 1 to 6 of them, in ascending order of the numbers of each letter.
func smallTexts(letters int) []string {
	var texts []string
	for numbers := range listsOf(inOrder(mostInLaw+1), letters) {
		text := ""
		for i, number := range numbers {
			text += strings.Repeat("abc"[i:i+1], number)
		}
		if text != "" && len(text) <= mostInLaw {
			texts = append(texts, text)
		}
	}
	return texts
}

// lawsBySearch leaves letters out in all ways.
func lawsBySearch(n int, letters []int, texts []string) []string {
	var laws []string
	for _, text := range texts {
		if endByLetters(n, letters, text) == 0 && !hasPartTo0(n, letters, text) {
			laws = append(laws, text)
		}
	}
	return laws
}

func hasPartTo0(n int, letters []int, text string) bool {
	for choice := 1; choice < 1<<len(text)-1; choice++ {
		part := ""
		for _, position := range placesOf(choice) {
			part += text[position : position+1]
		}
		if endByLetters(n, letters, part) == 0 {
			return true
		}
	}
	return false
}
