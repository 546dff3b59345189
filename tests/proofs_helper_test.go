package tests

import (
	"iter"
	"math"
	"regexp"
	"slices"
	"strconv"
	"strings"
	"testing"

	"loop.example/ringsofsteps/impl"
)

// mostInNear is the greatest number of steps of a proof that a place is near.
const mostInNear = 20

// The proofCalls call functions of chapter 12 as the termCalls, which they embed, call those of chapter 11.
type proofCalls struct {
	termCalls
}

func newProofCalls(t *testing.T) proofCalls {
	return proofCalls{newTermCalls(t)}
}

func (c proofCalls) mustProof(name string, ok bool, text string, arguments ...int) {
	if !ok {
		c.t.Helper()
		c.t.Fatalf("%s%v of %q failed", name, arguments, text)
	}
}

func (c proofCalls) proofNear(n, s, v int) string {
	got, ok := impl.ProofNear(n, s, v)
	c.must("ProofNear", ok, n, s, v)
	return got
}

func (c proofCalls) proofFar(n, s int) string {
	got, ok := impl.ProofFar(n, s)
	c.must("ProofFar", ok, n, s)
	return got
}

func (c proofCalls) proofNearIs(n, s, v int, text string) int {
	got, ok := impl.ProofNearIs(n, s, v, text)
	c.mustProof("ProofNearIs", ok, text, n, s, v)
	return got
}

func (c proofCalls) proofFarIs(n, s, v int, text string) int {
	got, ok := impl.ProofFarIs(n, s, v, text)
	c.mustProof("ProofFarIs", ok, text, n, s, v)
	return got
}

func (c proofCalls) proofRound(n, s int) string {
	got, ok := impl.ProofRound(n, s)
	c.must("ProofRound", ok, n, s)
	return got
}

// proofText puts numbers behind a first word, a space ahead of each one.
func proofText(first string, numbers ...int) string {
	for _, x := range numbers {
		first += " " + strconv.Itoa(x)
	}
	return first
}

// heightsFrom returns distances as heights of a proof.
func heightsFrom(list []int) []int {
	heights := slices.Clone(list)
	for v, far := range heights {
		if far == -1 {
			heights[v] = len(list)
		}
	}
	return heights
}

// proofsOf returns all proofs that the program makes of some steps.
func (c proofCalls) proofsOf(n, s int) []string {
	proofs := []string{c.proofFar(n, s)}
	for v, far := range c.list(n, s) {
		if far >= 0 {
			proofs = append(proofs, c.proofNear(n, s, v))
		}
	}
	if text, ok := impl.ProofRound(n, s); ok {
		proofs = append(proofs, text)
	}
	return proofs
}

// someSteps yields all steps of small rings, and of every greater one no steps, all steps, each step alone, and some pairs.
func someSteps() iter.Seq2[int, int] {
	return func(yield func(int, int) bool) {
		for n := 1; n <= impl.RingMax; n++ {
			for _, s := range someStepsOf(n) {
				if !yield(n, s) {
					return
				}
			}
		}
	}
}

func someStepsOf(n int) []int {
	var sets []int
	if n <= 8 {
		for s := 0; s < 1<<n; s += 2 {
			sets = append(sets, s)
		}
		return sets
	}
	sets = append(sets, 0, allSteps(n))
	for v := 1; v < n; v++ {
		sets = append(sets, 1<<v, 1<<v|1<<(n-v), 0b10|1<<v, allSteps(n)&^(1<<v))
	}
	slices.Sort(sets)
	return slices.Compact(sets)
}

// longWays returns lists of steps, one of each length from 0 to 22 and a longer one, their steps taken by no rule.
func longWays(s int) [][]int {
	steps := placesOf(s)
	lists := [][]int{nil}
	if len(steps) == 0 {
		return lists
	}
	x := s
	for _, length := range append(inOrder(mostInNear + 3)[1:], 40) {
		list := make([]int, length)
		for i := range list {
			x = (x*1103515245 + 12345) & math.MaxInt32
			list[i] = steps[x>>8%len(steps)]
		}
		lists = append(lists, list)
	}
	return lists
}

// someHeights returns lists that are heights by these steps or by others, and such as are near to them.
func (c proofCalls) someHeights(n, s int) [][]int {
	var lists [][]int
	for _, other := range []int{s, 0, allSteps(n), s | 0b10&allSteps(n), turned(n, s, -1), s & (s - 1)} {
		far := heightsFrom(c.list(n, other))
		less, half := slices.Clone(far), slices.Clone(far)
		for v := range far {
			less[v] = max(far[v]-1, 0)
			half[v] = (far[v] + 1) / 2
		}
		lists = append(lists, far, less, half)
		for v := range far {
			for _, height := range []int{far[v] - 2, far[v] - 1, far[v] + 1, far[v] + 2, n, n + 1, 0} {
				changed := slices.Clone(far)
				changed[v] = height
				lists = append(lists, changed)
			}
		}
	}
	return lists
}

// The functions from here on follow the words of chapter 12; the tests hold the program against them.

// The forms of proofs, with numbers of at most two digits, as greater ones are neither steps nor places nor heights.
var (
	nearForm  = regexp.MustCompile(`^near( (0|[1-9][0-9]?))*$`)
	farForm   = regexp.MustCompile(`^far( (0|[1-9][0-9]?))*$`)
	roundForm = regexp.MustCompile(`^round( (0|[1-9][0-9]?))*$`)
)

// numbersBehind returns the numbers behind the first word of a text of a form; it returns false for other texts.
func numbersBehind(form *regexp.Regexp, text string) ([]int, bool) {
	if !form.MatchString(text) {
		return nil, false
	}
	var numbers []int
	for _, digits := range strings.Fields(text)[1:] {
		x := int(digits[len(digits)-1] - '0')
		if len(digits) == 2 {
			x += 10 * int(digits[0]-'0')
		}
		numbers = append(numbers, x)
	}
	return numbers, true
}

func nearByWords(n, s, v int, text string) (int, bool) {
	list, ok := numbersBehind(nearForm, text)
	if !ok || len(list) > mostInNear {
		return 0, false
	}
	for _, step := range list {
		if !slices.Contains(placesOf(s), step) {
			return 0, false
		}
	}
	if end(n, list) != v {
		return 0, false
	}
	return len(list), true
}

func farByWords(n, s, v int, text string) (int, bool) {
	heights, ok := numbersBehind(farForm, text)
	if !ok || len(heights) != n || heights[0] != 0 || slices.Max(heights) > n || v < 0 || v >= n {
		return 0, false
	}
	for from, to := range arcs(n, s) {
		if heights[to] > heights[from]+1 {
			return 0, false
		}
	}
	return heights[v], true
}

func roundByWords(n, s int, text string) bool {
	list, ok := numbersBehind(roundForm, text)
	return ok && isRoundByArcs(n, s, list)
}

// checkByWords gives a text to all functions that tell proofs, with a ring and steps as told.
func checkByWords(t *testing.T, n, s int, text string) {
	t.Helper()
	for v := -1; v <= n; v++ {
		checkNearByWords(t, n, s, v, text)
		checkFarByWords(t, n, s, v, text)
	}
	if got := impl.ProofRoundIs(n, s, text); got != roundByWords(n, s, text) {
		t.Errorf("ProofRoundIs(%d, %d, %q) = %v", n, s, text, got)
	}
}

func checkNearByWords(t *testing.T, n, s, v int, text string) {
	t.Helper()
	want, is := nearByWords(n, s, v, text)
	if got, ok := impl.ProofNearIs(n, s, v, text); got != want || ok != is {
		t.Errorf("ProofNearIs(%d, %d, %d, %q) = %d, %v, want %d, %v", n, s, v, text, got, ok, want, is)
	}
}

func checkFarByWords(t *testing.T, n, s, v int, text string) {
	t.Helper()
	want, is := farByWords(n, s, v, text)
	if got, ok := impl.ProofFarIs(n, s, v, text); got != want || ok != is {
		t.Errorf("ProofFarIs(%d, %d, %d, %q) = %d, %v, want %d, %v", n, s, v, text, got, ok, want, is)
	}
}
