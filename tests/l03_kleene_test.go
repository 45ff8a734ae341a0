package tests

import (
	"math"
	"testing"

	"loop.example/g00590/impl"
)

var truths = []int{impl.False, impl.Half, impl.True}

// nonTruths lists numbers that are no truth value, among them some whose low bits are those of one.
var nonTruths = []int{
	-1, 3, math.MinInt, math.MaxInt, -2, -3, 4, 5, 7, -7, 255, 256, 257, 258, 1 << 16, 1<<16 + 1,
	1 << 32, 1<<32 + 1, 1<<32 + 2, -1 << 32, math.MinInt + 1, math.MinInt + 2, math.MaxInt - 1, math.MaxInt32, math.MinInt32,
}

// truthPairs has a row for every pair of truth values and what each function gives for it.
var truthPairs = []struct {
	a, b, and, or, join int
	within              bool
}{
	{0, 0, 0, 0, 0, true},
	{0, 1, 0, 1, 1, true},
	{0, 2, 0, 2, 1, false},
	{1, 0, 0, 1, 1, false},
	{1, 1, 1, 1, 1, true},
	{1, 2, 1, 2, 1, false},
	{2, 0, 0, 2, 1, false},
	{2, 1, 1, 2, 1, true},
	{2, 2, 2, 2, 2, true},
}

// binary lists the operations with two arguments.
var binary = []struct {
	name    string
	operate func(int, int) int
}{
	{"AndOf", impl.AndOf}, {"OrOf", impl.OrOf}, {"JoinOf", impl.JoinOf},
}

// tellsNoMore reports whether the truth value b tells no more than a, told apart from the program's own IsWithin.
func tellsNoMore(a int, b int) bool { return b == 1 || a == b }

func TestConstantsOfTruth(t *testing.T) {
	if impl.False != 0 || impl.Half != 1 || impl.True != 2 {
		t.Errorf("False, Half and True are %d, %d and %d", impl.False, impl.Half, impl.True)
	}
}

func TestIsTruth(t *testing.T) {
	for _, a := range truths {
		if !impl.IsTruth(a) {
			t.Errorf("IsTruth(%d) = false", a)
		}
	}
	for _, a := range nonTruths {
		if impl.IsTruth(a) {
			t.Errorf("IsTruth(%d) = true", a)
		}
	}
	for a := -1000; a <= 1000; a++ {
		if got, want := impl.IsTruth(a), a == 0 || a == 1 || a == 2; got != want {
			t.Errorf("IsTruth(%d) = %t", a, got)
		}
	}
}

func TestNotOf(t *testing.T) {
	for a, want := range []int{2, 1, 0} {
		if got := impl.NotOf(a); got != want {
			t.Errorf("NotOf(%d) = %d, want %d", a, got, want)
		}
	}
	for _, a := range nonTruths {
		if got := impl.NotOf(a); got != 1 {
			t.Errorf("NotOf(%d) = %d, want Half", a, got)
		}
	}
}

func TestEveryPairOfTruths(t *testing.T) {
	for _, c := range truthPairs {
		if got := impl.AndOf(c.a, c.b); got != c.and {
			t.Errorf("AndOf(%d, %d) = %d, want %d", c.a, c.b, got, c.and)
		}
		if got := impl.OrOf(c.a, c.b); got != c.or {
			t.Errorf("OrOf(%d, %d) = %d, want %d", c.a, c.b, got, c.or)
		}
		if got := impl.JoinOf(c.a, c.b); got != c.join {
			t.Errorf("JoinOf(%d, %d) = %d, want %d", c.a, c.b, got, c.join)
		}
		if got := impl.IsWithin(c.a, c.b); got != c.within {
			t.Errorf("IsWithin(%d, %d) = %t, want %t", c.a, c.b, got, c.within)
		}
	}
}

// checkNoTruth checks a pair of which at least one number is no truth value.
func checkNoTruth(t *testing.T, a int, b int) {
	t.Helper()
	for _, o := range binary {
		if got := o.operate(a, b); got != 1 {
			t.Errorf("%s(%d, %d) = %d, want Half", o.name, a, b, got)
		}
	}
	if impl.IsWithin(a, b) {
		t.Errorf("IsWithin(%d, %d) = true", a, b)
	}
}

func TestPairsWithNonTruths(t *testing.T) {
	for _, none := range nonTruths {
		for _, a := range truths {
			checkNoTruth(t, a, none)
			checkNoTruth(t, none, a)
		}
		for _, other := range nonTruths {
			checkNoTruth(t, none, other)
		}
	}
}

func TestTruthText(t *testing.T) {
	for a, want := range []string{"0", "?", "1"} {
		if got := impl.TruthText(a); got != want {
			t.Errorf("TruthText(%d) = %q, want %q", a, got, want)
		}
	}
	for _, a := range nonTruths {
		if got := impl.TruthText(a); got != "" {
			t.Errorf("TruthText(%d) = %q, want no text", a, got)
		}
	}
}

// Promise 3 for the negation.
func TestNotOfLessTellsLess(t *testing.T) {
	for _, a := range truths {
		for _, less := range truths {
			if tellsNoMore(a, less) && !tellsNoMore(impl.NotOf(a), impl.NotOf(less)) {
				t.Errorf("NotOf(%d) = %d, but NotOf(%d) = %d", a, impl.NotOf(a), less, impl.NotOf(less))
			}
		}
	}
}

// Promise 3 for the operations with two arguments: either or both are replaced by one that tells less.
func TestOperationsOfLessTellLess(t *testing.T) {
	for _, o := range binary {
		for _, c := range truthPairs {
			for _, d := range truthPairs {
				if !tellsNoMore(c.a, d.a) || !tellsNoMore(c.b, d.b) {
					continue
				}
				more, less := o.operate(c.a, c.b), o.operate(d.a, d.b)
				if !tellsNoMore(more, less) || !impl.IsWithin(more, less) {
					t.Errorf("%s(%d, %d) = %d, but %s(%d, %d) = %d", o.name, c.a, c.b, more, o.name, d.a, d.b, less)
				}
			}
		}
	}
}

// A definite result with Half is the result with both definite values, and with an unknown one the results may differ.
func TestHalfStandsForBothValues(t *testing.T) {
	for _, o := range binary[:2] {
		for _, a := range truths {
			if want := impl.JoinOf(o.operate(a, 0), o.operate(a, 2)); o.operate(a, 1) != want {
				t.Errorf("%s(%d, Half) = %d, want %d", o.name, a, o.operate(a, 1), want)
			}
			if want := impl.JoinOf(o.operate(0, a), o.operate(2, a)); o.operate(1, a) != want {
				t.Errorf("%s(Half, %d) = %d, want %d", o.name, a, o.operate(1, a), want)
			}
		}
	}
}

func TestIsWithinIsAnOrder(t *testing.T) {
	for _, a := range truths {
		if !impl.IsWithin(a, a) || !impl.IsWithin(a, 1) {
			t.Errorf("%d is not within itself or Half", a)
		}
		for _, b := range truths {
			if impl.IsWithin(a, b) && impl.IsWithin(b, a) && a != b {
				t.Errorf("%d and %d are within each other", a, b)
			}
			for _, c := range truths {
				if impl.IsWithin(a, b) && impl.IsWithin(b, c) && !impl.IsWithin(a, c) {
					t.Errorf("%d is within %d and this within %d, but not the first within the last", a, b, c)
				}
			}
		}
	}
}

// The join is the value that tells most among those that tell no more than either.
func TestJoinOfIsTheLeastBound(t *testing.T) {
	for _, c := range truthPairs {
		join := impl.JoinOf(c.a, c.b)
		if !impl.IsWithin(c.a, join) || !impl.IsWithin(c.b, join) || join != impl.JoinOf(c.b, c.a) {
			t.Errorf("JoinOf(%d, %d) = %d", c.a, c.b, join)
		}
		for _, bound := range truths {
			if impl.IsWithin(c.a, bound) && impl.IsWithin(c.b, bound) && !impl.IsWithin(join, bound) {
				t.Errorf("JoinOf(%d, %d) = %d, but both are within %d", c.a, c.b, join, bound)
			}
		}
	}
}

func TestOperationsAgree(t *testing.T) {
	for _, c := range truthPairs {
		if impl.NotOf(impl.NotOf(c.a)) != c.a || impl.NotOf(c.a)+c.a != 2 {
			t.Errorf("NotOf(%d) = %d", c.a, impl.NotOf(c.a))
		}
		if impl.NotOf(impl.AndOf(c.a, c.b)) != impl.OrOf(impl.NotOf(c.a), impl.NotOf(c.b)) {
			t.Errorf("AndOf and OrOf of %d and %d are not opposite", c.a, c.b)
		}
		if impl.AndOf(c.a, c.b) != min(c.a, c.b) || impl.OrOf(c.a, c.b) != max(c.a, c.b) {
			t.Errorf("AndOf and OrOf of %d and %d are not the lesser and the greater", c.a, c.b)
		}
	}
}
