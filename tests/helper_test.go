package tests

import (
	"math"
	"math/rand"
	"slices"
	"testing"
)

// newRandom gives the same numbers in every run, so that a failure can be repeated.
func newRandom() *rand.Rand {
	return rand.New(rand.NewSource(1866))
}

// farNumbers are integers that are out of every range of the document.
func farNumbers() []int {
	return []int{math.MinInt, math.MinInt + 1, -1000000, 1000000, math.MaxInt - 1, math.MaxInt}
}

func sum(list []int) int {
	total := 0
	for _, number := range list {
		total += number
	}
	return total
}

func reversed(list []int) []int {
	back := slices.Clone(list)
	slices.Reverse(back)
	return back
}

// repeated returns a list with the same number some times.
func repeated(number int, times int) []int {
	return slices.Repeat([]int{number}, times)
}

// checkList fails unless a call succeeded with a list.
func checkList(t *testing.T, call string, got []int, ok bool, want []int) {
	t.Helper()
	if !ok || !slices.Equal(got, want) {
		t.Fatalf("%s returned %v, %v instead of %v, true", call, got, ok, want)
	}
}

// checkFails fails unless a call returned the zero value and false.
func checkFails(t *testing.T, call string, got []int, ok bool) {
	t.Helper()
	if ok || len(got) != 0 {
		t.Fatalf("%s returned %v, %v instead of an empty list and false", call, got, ok)
	}
}

// checkNumber fails unless a call returned a number.
func checkNumber(t *testing.T, call string, got int, want int) {
	t.Helper()
	if got != want {
		t.Fatalf("%s returned %d instead of %d", call, got, want)
	}
}

// checkText fails unless a call returned a text.
func checkText(t *testing.T, call string, got string, want string) {
	t.Helper()
	if got != want {
		t.Fatalf("%s returned %q instead of %q", call, got, want)
	}
}
