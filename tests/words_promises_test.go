package tests

import (
	"testing"

	"loop.example/ringsofsteps/impl"
)

// The tests of this file hold promises 84 to 89 of the document, one each.

func TestPromise84TextsTwice(t *testing.T) {
	c := newWordCalls(t)
	texts := spelled()
	for n, letters := range eachSpelled() {
		for _, s := range texts[len(letters)] {
			once := c.wordEnd(n, letters, s)
			if 2*len(s) > mostInText {
				continue
			}
			if got := c.wordEnd(n, letters, s+s); got != place(n, 2*once) {
				t.Errorf("WordEnd(%d, %v, %q) = %d, of the text once %d", n, letters, s+s, got, once)
			}
		}
	}
}

func TestPromise85TidyTexts(t *testing.T) {
	c := newWordCalls(t)
	texts := spelled()
	for n, letters := range eachSpelled() {
		for _, s := range texts[len(letters)] {
			got := c.wordTidy(n, letters, s)
			if c.wordEnd(n, letters, got) != c.wordEnd(n, letters, s) || c.wordTidy(n, letters, got) != got || len(got) > len(s) {
				t.Errorf("WordTidy(%d, %v, %q) = %q, its own %q", n, letters, s, got, c.wordTidy(n, letters, got))
			}
		}
	}
}

func TestPromise86ShortTexts(t *testing.T) {
	c := newWordCalls(t)
	for n, letters := range eachLetters() {
		far := c.list(n, c.both(n, setOf(letters)))
		for v, want := range far {
			got, ok := impl.WordShort(n, letters, v)
			if ok != (want != -1) {
				t.Fatalf("WordShort(%d, %v, %d) = %q, %v, FarList %v", n, letters, v, got, ok, far)
			}
			if ok && (c.wordEnd(n, letters, got) != v || c.wordTidy(n, letters, got) != got || len(got) != want) {
				t.Errorf("WordShort(%d, %v, %d) = %q, FarList %v", n, letters, v, got, far)
			}
		}
	}
}

func TestPromise87SameTexts(t *testing.T) {
	c := newWordCalls(t)
	texts := spelled()
	for n, letters := range eachSpelled() {
		for i, s := range texts[len(letters)] {
			for _, other := range []string{texts[len(letters)][i/2], c.wordTidy(n, letters, s), backwards(s)} {
				checkSame(t, n, letters, s, other)
			}
		}
	}
}

// checkSame asks the promise of two texts if they are the same, and that they are so if their ends are.
func checkSame(t *testing.T, n int, letters []int, s, other string) {
	t.Helper()
	if got := impl.WordSame(n, letters, s, other); got != (endByLetters(n, letters, s) == endByLetters(n, letters, other)) {
		t.Errorf("WordSame(%d, %v, %q, %q) = %v", n, letters, s, other, got)
		return
	} else if !got {
		return
	}
	if !impl.WordSame(n, letters, other, s) {
		t.Errorf("WordSame(%d, %v, %q, %q) holds, but not for both exchanged", n, letters, s, other)
	}
	if max(len(s), len(other)) < mostInText && !impl.WordSame(n, letters, s+"a", other+"a") {
		t.Errorf("WordSame(%d, %v, %q, %q) holds, but not with a behind", n, letters, s, other)
	}
}

func TestPromise88Laws(t *testing.T) {
	c := newWordCalls(t)
	found := 0
	for n, letters := range eachLetters() {
		for k := 1; k <= mostInLaw; k++ {
			laws := c.wordLaws(n, letters, k)
			if len(letters) == 1 && len(laws) > 1 {
				t.Errorf("WordLaws(%d, %v, %d) = %q", n, letters, k, laws)
			}
			for _, law := range laws {
				found++
				if len(law) > k || c.wordEnd(n, letters, law) != 0 || c.wordTidy(n, letters, law) != law {
					t.Errorf("WordLaws(%d, %v, %d) = %q: %q", n, letters, k, laws, law)
				}
			}
		}
	}
	if found == 0 {
		t.Error("no letters have a law")
	}
}

func TestPromise89FarTexts(t *testing.T) {
	c := newWordCalls(t)
	for n, letters := range eachLetters() {
		got, part := c.wordFar(n, letters), c.part(n, setOf(letters))
		if got[0] != 0 {
			t.Errorf("WordFar(%d, %v) = %v: not 0 for 0", n, letters, got)
		}
		for v, far := range got {
			if far != got[place(n, -v)] || (far == -1) != (part>>v&1 == 0) || far < -1 {
				t.Errorf("WordFar(%d, %v) = %v: %d for %d, StepPart %b", n, letters, got, far, v, part)
			}
		}
	}
}
