package tests

import (
	"math"
	"slices"
	"strings"
	"testing"

	"loop.example/g00590/impl"
)

// nonNames lists strings that are no names.
var nonNames = []string{
	"", "abc", "aaa", "zzz", "abcd", strings.Repeat("a", 26), strings.Repeat("z", 100000),
	"A", "Z", "Ab", "aB", "AB", "0", "9", "a1", "1a", "_", "a_", "_a", "-", "a-", "'", "a'",
	" ", " a", "a ", "a b", "\n", "a\n", "\na", "\x00", "a\x00", "\x00a", "`", "{", "a`", "a{", "`a", "{a", "@", "[",
	"\u00e9", "a\u00e9", "\u00e9a", "e\u0301", "\u00e1b", "\u03b1", "\u0430", "a\u0430", "\uff41", "a\uff41", "\u2113", "\U0001d41a",
	"\u0161", "\u017a", "\U00010061", "\u212a", "\u017f", "\ufffd", "a\ufffd",
	"\xff", "\x80", "\xc3", "\xe1", "\xe1a", "a\xe1", "\xfa", "a\xff", "\xffa", "\xffb", "a\x80", "\xc1\xa1", "\xe0\x81\xa1", "a\xc1\xa1", "ab\xff", "ab\x00", "\xed\xa0\x80",
}

func TestConstantsOfNames(t *testing.T) {
	if impl.MaxName != 2 || impl.MaxVars != 4 {
		t.Errorf("MaxName = %d, MaxVars = %d, want 2 and 4", impl.MaxName, impl.MaxVars)
	}
}

// isLetters reports whether all bytes of s are letters a to z.
func isLetters(s string) bool {
	return strings.Trim(s, "abcdefghijklmnopqrstuvwxyz") == ""
}

func TestIsNameOfEveryTwoBytes(t *testing.T) {
	for a := range 256 {
		one := string([]byte{byte(a)})
		if got := impl.IsName(one); got != isLetters(one) {
			t.Errorf("IsName(%q) = %t", one, got)
		}
		for b := range 256 {
			two := string([]byte{byte(a), byte(b)})
			if got := impl.IsName(two); got != isLetters(two) {
				t.Errorf("IsName(%q) = %t", two, got)
			}
			if three := two + "a"; impl.IsName(three) {
				t.Errorf("IsName(%q) = true", three)
			}
		}
	}
}

func TestIsNameOfOneRune(t *testing.T) {
	for r := rune(0); r <= 0x3000; r++ {
		want := r >= 'a' && r <= 'z'
		for _, s := range []string{string(r), string(r) + "a", "a" + string(r)} {
			if got := impl.IsName(s); got != want {
				t.Errorf("IsName(%q) = %t, want %t", s, got, want)
			}
		}
	}
}

func TestIsNameRejects(t *testing.T) {
	for _, s := range nonNames {
		if impl.IsName(s) {
			t.Errorf("IsName(%q) = true", s)
		}
	}
}

func TestAreVars(t *testing.T) {
	cases := []struct {
		list []string
		want bool
	}{
		{nil, false},
		{[]string{}, false},
		{[]string{"x"}, true},
		{[]string{"ab"}, true},
		{[]string{"aa"}, true},
		{[]string{"x", "y"}, true},
		{[]string{"y", "x"}, true},
		{[]string{"a", "aa"}, true},
		{[]string{"ab", "ba"}, true},
		{[]string{"ab", "a", "b"}, true},
		{[]string{"a", "b", "c", "d"}, true},
		{[]string{"zz", "zy", "z", "y"}, true},
		{[]string{"a", "b", "c", "d", "e"}, false},
		{[]string{"a", "b", "c", "d", "a"}, false},
		{[]string{"a", "b", "c", "d", ""}, false},
		{[]string{"a", "b", "c", "d", "e", "f", "g"}, false},
		{[]string{"x", "x"}, false},
		{[]string{"ab", "ab"}, false},
		{[]string{"x", "x", "x"}, false},
		{[]string{"x", "x", "y"}, false},
		{[]string{"x", "y", "x"}, false},
		{[]string{"y", "x", "x"}, false},
		{[]string{"a", "b", "c", "a"}, false},
		{[]string{"a", "b", "c", "b"}, false},
		{[]string{"a", "b", "c", "c"}, false},
		{[]string{"a", "b", "a", "b"}, false},
		{[]string{"a", "b", "", ""}, false},
	}
	for _, c := range cases {
		if got := impl.AreVars(c.list); got != c.want {
			t.Errorf("AreVars(%q) = %t, want %t", c.list, got, c.want)
		}
	}
}

func TestAreVarsRejectsNonNames(t *testing.T) {
	for _, s := range nonNames {
		for count := range impl.MaxVars {
			for place := 0; place <= count; place++ {
				list := slices.Insert([]string{"a", "b", "c"}[:count:count], place, s)
				if impl.AreVars(list) {
					t.Errorf("AreVars(%q) = true", list)
				}
			}
		}
	}
}

// Promise 2, for all lists of up to five of a few names and non-names.
func TestVariablesAreDifferentNames(t *testing.T) {
	elements := []string{"a", "b", "ab", "ba", "z", "abc", ""}
	for _, choice := range stringsUpTo("0123456", impl.MaxVars+1) {
		var list []string
		for i := range len(choice) {
			list = append(list, elements[choice[i]-'0'])
		}
		want := len(list) >= 1 && len(list) <= impl.MaxVars
		seen := map[string]bool{}
		for _, s := range list {
			want = want && len(s) >= 1 && len(s) <= impl.MaxName && !seen[s]
			seen[s] = true
		}
		if got := impl.AreVars(list); got != want {
			t.Errorf("AreVars(%q) = %t, want %t", list, got, want)
		}
	}
}

func TestIndexOf(t *testing.T) {
	cases := []struct {
		list []string
		s    string
		want int
	}{
		{nil, "", -1},
		{nil, "b", -1},
		{[]string{}, "b", -1},
		{[]string{""}, "", 0},
		{[]string{""}, "a", -1},
		{[]string{"a"}, "", -1},
		{[]string{"a", "b"}, "a", 0},
		{[]string{"a", "b"}, "b", 1},
		{[]string{"a", "b"}, "c", -1},
		{[]string{"a", "b"}, "ab", -1},
		{[]string{"ab", "b"}, "b", 1},
		{[]string{"a", "b", "a", "b"}, "a", 0},
		{[]string{"a", "b", "a", "b"}, "b", 1},
		{[]string{"c", "b", "a", "a", "a"}, "a", 2},
		{[]string{"a", "b", "c", "d", "e", "f"}, "f", 5},
		{[]string{"A", "a"}, "a", 1},
		{[]string{"a\x00", "a"}, "a", 1},
		{[]string{"\xff", "\xfe", "\ufffd"}, "\xfe", 1},
		{[]string{"\xff", "\xfe", "\ufffd"}, "\ufffd", 2},
		{[]string{"e\u0301", "\u00e9"}, "\u00e9", 1},
		{[]string{"long name", "longer name"}, "longer name", 1},
	}
	for _, c := range cases {
		if got := impl.IndexOf(c.list, c.s); got != c.want {
			t.Errorf("IndexOf(%q, %q) = %d, want %d", c.list, c.s, got, c.want)
		}
	}
}

func TestPositions(t *testing.T) {
	cases := []struct {
		list []int
		n    int
		want []int
	}{
		{nil, 0, nil},
		{nil, 5, nil},
		{[]int{}, 5, nil},
		{[]int{5}, 5, []int{0}},
		{[]int{5}, 0, nil},
		{[]int{5}, -5, nil},
		{[]int{0}, 0, []int{0}},
		{[]int{1, 2, 1}, 1, []int{0, 2}},
		{[]int{1, 2, 1}, 2, []int{1}},
		{[]int{1, 2, 1}, 3, nil},
		{[]int{7, 7, 7, 7, 7}, 7, []int{0, 1, 2, 3, 4}},
		{[]int{-1, 0, -1, 1, -1}, -1, []int{0, 2, 4}},
		{[]int{2, 1, 0}, 0, []int{2}},
		{[]int{math.MaxInt, math.MinInt, math.MaxInt}, math.MaxInt, []int{0, 2}},
		{[]int{math.MaxInt, math.MinInt, math.MaxInt}, math.MinInt, []int{1}},
		{[]int{1 << 32, 0, 1}, 0, []int{1}},
	}
	for _, c := range cases {
		if got := impl.Positions(c.list, c.n); !slices.Equal(got, c.want) {
			t.Errorf("Positions(%d, %d) = %d, want %d", c.list, c.n, got, c.want)
		}
	}
}

// Each index is among the positions of its element alone, and the first position is the index.
func TestPositionsCoverTheList(t *testing.T) {
	for _, choice := range stringsUpTo("012", 6) {
		var numbers []int
		var names []string
		for i := range len(choice) {
			numbers = append(numbers, int(choice[i]-'0'))
			names = append(names, choice[i:i+1])
		}
		total := 0
		for n := range 3 {
			found := impl.Positions(numbers, n)
			total += len(found)
			first := -1
			for i, position := range found {
				if numbers[position] != n || i > 0 && position <= found[i-1] {
					t.Errorf("Positions(%d, %d) = %d", numbers, n, found)
				}
			}
			if len(found) > 0 {
				first = found[0]
			}
			if got := impl.IndexOf(names, impl.FormatInt(n)); got != first {
				t.Errorf("IndexOf(%q, %d) = %d, want %d", names, n, got, first)
			}
		}
		if total != len(numbers) {
			t.Errorf("the positions in %d are %d in number", numbers, total)
		}
	}
}

func TestNamesLeaveArgumentsAlone(t *testing.T) {
	names := []string{"b", "a", "b", "spare"}
	if impl.AreVars(names[:2]) != true || impl.AreVars(names[:3]) || impl.IndexOf(names[:2], "spare") != -1 {
		t.Error("a part of a slice is read wrongly")
	}
	if !slices.Equal(names, []string{"b", "a", "b", "spare"}) {
		t.Errorf("the names become %q", names)
	}
	numbers := []int{1, 0, 1, 9}
	found, again := impl.Positions(numbers[:3], 1), impl.Positions(numbers[:3], 1)
	found[0] = 5
	if !slices.Equal(again, []int{0, 2}) || !slices.Equal(numbers, []int{1, 0, 1, 9}) {
		t.Errorf("Positions gives %d and leaves %d", again, numbers)
	}
}
