package tests

import (
	"math"
	"slices"
	"testing"

	"loop.example/g00590/impl"
)

// stmtKinds has a row for every kind: its number, its number of names, and the kind of its opposite (0 if it is no test).
var stmtKinds = []struct {
	name                        string
	kind, number, uses, opposed int
}{
	{"StSkip", impl.StSkip, 1, 0, 0},
	{"StNull", impl.StNull, 2, 1, 0},
	{"StNew", impl.StNew, 3, 1, 0},
	{"StCopy", impl.StCopy, 4, 2, 0},
	{"StNext", impl.StNext, 5, 2, 0},
	{"StCut", impl.StCut, 6, 1, 0},
	{"StLink", impl.StLink, 7, 2, 0},
	{"StFree", impl.StFree, 8, 1, 0},
	{"StIsNull", impl.StIsNull, 9, 1, 10},
	{"StNotNull", impl.StNotNull, 10, 1, 9},
	{"StSame", impl.StSame, 11, 2, 12},
	{"StDiffer", impl.StDiffer, 12, 2, 11},
}

// nonKinds lists numbers that are no kind, among them some whose low bits are those of one.
var nonKinds = []int{
	0, 13, -1, 14, math.MinInt, math.MaxInt, -2, -5, -7, -9, -10, -11, -12, -13, 15, 16, 20, 24, 100, 255, 256, 257, 256 + 9, 256 + 12,
	1 << 16, 1<<16 + 1, 1 << 32, 1<<32 + 1, 1<<32 + 9, 1<<32 + 12, -1 << 32, -1<<32 + 10,
	math.MinInt + 1, math.MinInt + 9, math.MinInt + 12, math.MaxInt - 1, math.MaxInt32, math.MinInt32,
}

// namePairs lists what A and B may be, whether valid or not.
var namePairs = [][2]string{
	{"", ""}, {"x", ""}, {"", "x"}, {"x", "y"}, {"y", "x"}, {"x", "x"}, {"zz", "q"}, {"abc", "X"}, {"\xff", "\x00"}, {"?", " "},
}

func TestKindsOfStatements(t *testing.T) {
	for _, c := range stmtKinds {
		if c.kind != c.number {
			t.Errorf("%s = %d, want %d", c.name, c.kind, c.number)
		}
	}
}

func TestNamesOf(t *testing.T) {
	for _, c := range stmtKinds {
		if got := impl.NamesOf(c.number); got != c.uses {
			t.Errorf("NamesOf(%s) = %d, want %d", c.name, got, c.uses)
		}
	}
	for _, kind := range nonKinds {
		if got := impl.NamesOf(kind); got != -1 {
			t.Errorf("NamesOf(%d) = %d, want -1", kind, got)
		}
	}
	for kind := -1000; kind <= 1000; kind++ {
		if got := impl.NamesOf(kind); (got == -1) != (kind < 1 || kind > 12) {
			t.Errorf("NamesOf(%d) = %d", kind, got)
		}
	}
}

func TestIsTest(t *testing.T) {
	for _, names := range namePairs {
		for _, c := range stmtKinds {
			s := impl.Stmt{Kind: c.number, A: names[0], B: names[1]}
			if got := impl.IsTest(s); got != (c.number >= 9) {
				t.Errorf("IsTest(%#v) = %t", s, got)
			}
		}
		for _, kind := range nonKinds {
			if s := (impl.Stmt{Kind: kind, A: names[0], B: names[1]}); impl.IsTest(s) {
				t.Errorf("IsTest(%#v) = true", s)
			}
		}
	}
}

// Promise 4, for every test with any names.
func TestOppositeOfTests(t *testing.T) {
	for _, names := range namePairs {
		for _, c := range stmtKinds[8:] {
			s := impl.Stmt{Kind: c.number, A: names[0], B: names[1]}
			want := impl.Stmt{Kind: c.opposed, A: names[0], B: names[1]}
			opposite, ok := impl.OppositeOf(s)
			if opposite != want || !ok {
				t.Errorf("OppositeOf(%#v) = %#v, %t, want %#v, true", s, opposite, ok, want)
			}
			if !impl.IsTest(opposite) {
				t.Errorf("OppositeOf(%#v) = %#v is no test", s, opposite)
			}
			if again, ok := impl.OppositeOf(opposite); again != s || !ok {
				t.Errorf("OppositeOf(%#v) = %#v, %t, want %#v, true", opposite, again, ok, s)
			}
		}
	}
}

func checkNoOpposite(t *testing.T, s impl.Stmt) {
	t.Helper()
	if got, ok := impl.OppositeOf(s); got != (impl.Stmt{}) || ok {
		t.Errorf("OppositeOf(%#v) = %#v, %t, want the zero Stmt and false", s, got, ok)
	}
}

func TestOppositeOfOthers(t *testing.T) {
	checkNoOpposite(t, impl.Stmt{})
	for _, names := range namePairs {
		for _, c := range stmtKinds[:8] {
			checkNoOpposite(t, impl.Stmt{Kind: c.number, A: names[0], B: names[1]})
		}
		for _, kind := range nonKinds {
			checkNoOpposite(t, impl.Stmt{Kind: kind, A: names[0], B: names[1]})
		}
	}
}

// There is an opposite exactly for the tests, and it is a statement exactly if the test is one.
func TestOppositeIsStatementToo(t *testing.T) {
	vars := []string{"x", "y"}
	for kind := -20; kind <= 30; kind++ {
		for _, names := range namePairs {
			s := impl.Stmt{Kind: kind, A: names[0], B: names[1]}
			opposite, ok := impl.OppositeOf(s)
			if ok != impl.IsTest(s) {
				t.Errorf("OppositeOf(%#v) gives %t, IsTest %t", s, ok, !ok)
			}
			if ok && impl.IsStmt(vars, s) != impl.IsStmt(vars, opposite) {
				t.Errorf("one of %#v and %#v alone is a statement", s, opposite)
			}
		}
	}
}

func TestIsStmt(t *testing.T) {
	cases := []struct {
		kind int
		a, b string
		want bool
	}{
		{impl.StSkip, "", "", true},
		{impl.StSkip, "x", "", false},
		{impl.StSkip, "", "x", false},
		{impl.StSkip, "x", "y", false},
		{impl.StNull, "x", "", true},
		{impl.StNull, "y", "", true},
		{impl.StNull, "", "", false},
		{impl.StNull, "", "x", false},
		{impl.StNull, "x", "y", false},
		{impl.StNull, "x", "x", false},
		{impl.StNull, "q", "", false},
		{impl.StNew, "yz", "", true},
		{impl.StNew, "y", "z", false},
		{impl.StNew, "z", "", false},
		{impl.StCopy, "x", "y", true},
		{impl.StCopy, "y", "x", true},
		{impl.StCopy, "x", "x", true},
		{impl.StCopy, "x", "", false},
		{impl.StCopy, "", "x", false},
		{impl.StCopy, "", "", false},
		{impl.StCopy, "q", "x", false},
		{impl.StCopy, "x", "q", false},
		{impl.StNext, "x", "yz", true},
		{impl.StNext, "x", "x", true},
		{impl.StNext, "x", "", false},
		{impl.StNext, "x", "q", false},
		{impl.StCut, "x", "", true},
		{impl.StCut, "x", "x", false},
		{impl.StLink, "y", "y", true},
		{impl.StLink, "y", "", false},
		{impl.StFree, "y", "", true},
		{impl.StFree, "y", "y", false},
		{impl.StIsNull, "x", "", true},
		{impl.StIsNull, "x", "y", false},
		{impl.StNotNull, "yz", "", true},
		{impl.StNotNull, "yz", "x", false},
		{impl.StSame, "x", "y", true},
		{impl.StSame, "x", "x", true},
		{impl.StSame, "x", "", false},
		{impl.StDiffer, "y", "yz", true},
		{impl.StDiffer, "", "yz", false},
		{0, "", "", false},
		{0, "x", "", false},
		{0, "x", "y", false},
		{13, "", "", false},
		{13, "x", "", false},
		{13, "x", "y", false},
	}
	for _, c := range cases {
		s := impl.Stmt{Kind: c.kind, A: c.a, B: c.b}
		if got := impl.IsStmt([]string{"x", "y", "yz"}, s); got != c.want {
			t.Errorf("IsStmt(x y yz, %#v) = %t, want %t", s, got, c.want)
		}
	}
}

// wantStmt tells apart from the program's own tables whether a statement over variables is valid.
func wantStmt(vars []string, uses int, s impl.Stmt) bool {
	a, b := slices.Contains(vars, s.A), slices.Contains(vars, s.B)
	switch uses {
	case 0:
		return s.A == "" && s.B == ""
	case 1:
		return a && s.B == ""
	}
	return a && b
}

// listsOfVars lists variables, from the least to the greatest number.
var listsOfVars = [][]string{{"x"}, {"zz"}, {"x", "y"}, {"y", "xy", "x"}, {"a", "b", "c", "d"}, {"d", "zz", "x", "dd"}}

// operands lists what may stand for A or B: variables of some of the lists, names that are none, and no names at all.
var operands = []string{
	"", "x", "y", "zz", "xy", "a", "b", "c", "d", "dd", "q", "yx", "z", "xyx", "abc", "X", "Y", "x ", " x", " ", "x\x00", "\x00", "\xff",
	"0", "x1", "null", "x.n", "\u00e9", "e\u0301", "\u0445", "\uff58", "\ufffd",
}

func TestIsStmtOfEveryKindAndName(t *testing.T) {
	for _, vars := range listsOfVars {
		for _, a := range operands {
			for _, b := range operands {
				for _, c := range stmtKinds {
					s := impl.Stmt{Kind: c.number, A: a, B: b}
					if got, want := impl.IsStmt(vars, s), wantStmt(vars, c.uses, s); got != want {
						t.Errorf("IsStmt(%q, %#v) = %t, want %t", vars, s, got, want)
					}
				}
			}
		}
	}
}

func TestIsStmtRejectsOtherKinds(t *testing.T) {
	for _, vars := range listsOfVars {
		first, last := vars[0], vars[len(vars)-1]
		for _, names := range [][2]string{{"", ""}, {first, ""}, {"", last}, {first, last}, {first, first}, {"q", ""}} {
			for _, kind := range nonKinds {
				if s := (impl.Stmt{Kind: kind, A: names[0], B: names[1]}); impl.IsStmt(vars, s) {
					t.Errorf("IsStmt(%q, %#v) = true", vars, s)
				}
			}
		}
	}
}

// The statements would be valid if the lists were variables.
func TestIsStmtRejectsNonVariables(t *testing.T) {
	lists := [][]string{
		nil, {}, {""}, {"", ""}, {"x", "x"}, {"x", "y", "x"}, {"y", "x", "x"}, {"x", ""}, {"", "x"}, {"x", "abc"}, {"abc", "x"}, {"X", "x"},
		{"x", "y", "1"}, {"x", " "}, {"x", "\xff"}, {"x", "\u00e9"}, {"a", "b", "c", "d", "x"}, {"x", "a", "b", "c", "d"}, {"a", "b", "c", "d", "d"},
		{"x", "a", "b", "c", "d", "e", "f"},
	}
	for _, vars := range lists {
		candidates := append([]string{"", "x"}, vars...)
		for _, c := range stmtKinds {
			for _, a := range candidates {
				for _, b := range candidates {
					if s := (impl.Stmt{Kind: c.number, A: a, B: b}); impl.IsStmt(vars, s) {
						t.Errorf("IsStmt(%q, %#v) = true", vars, s)
					}
				}
			}
		}
	}
}

func TestStatementsLeaveArgumentsAlone(t *testing.T) {
	room := []string{"y", "x", "spare", "x"}
	if !impl.IsStmt(room[:2], impl.Stmt{Kind: impl.StCopy, A: "x", B: "y"}) || impl.IsStmt(room[:2], impl.Stmt{Kind: impl.StNull, A: "spare"}) {
		t.Error("a part of a slice is read wrongly")
	}
	if !slices.Equal(room, []string{"y", "x", "spare", "x"}) {
		t.Errorf("the variables become %q", room)
	}
	s := impl.Stmt{Kind: impl.StSame, A: "x", B: "y"}
	if impl.OppositeOf(s); s != (impl.Stmt{Kind: impl.StSame, A: "x", B: "y"}) {
		t.Errorf("OppositeOf leaves %#v", s)
	}
}
