package tests

import (
	"fmt"
	"math"
	"regexp"
	"slices"
	"strconv"
	"strings"
	"testing"

	"loop.example/g00590/impl"
)

// programTexts lists texts of programs; the last six are those of the document's examples.
var programTexts = []string{
	"x;1",
	"x;12",
	"ab;2",
	"a b c d;1",
	"zz z zy y;12",
	"x;1;0 0 skip",
	"x;2;0 1 x=new",
	"x;2;1 0 free x",
	"x;2;0 1 skip;0 1 skip",
	"x;2;1 1 x=x.n;1 1 x=x.n;1 1 x.n=x",
	"x;12;11 11 free x;0 11 x==x;11 0 x!=x;10 9 skip",
	"n nu ne nn;3;0 1 n=nu;1 2 n=n.n;2 0 nn.n=ne;2 2 n=null;0 0 ne=new;2 1 n.n=null;1 0 free nu",
	"x y t;7;0 1 y=null;1 6 x==null;1 2 x!=null;2 3 t=y;3 4 y=x;4 5 x=x.n;5 1 y.n=t",
	"x y;4;0 1 y=x;1 2 y!=null;2 1 y=y.n;1 3 y==null",
	"x t;6;0 5 x==null;0 1 x!=null;1 2 t=x.n;2 3 free x;3 4 x=t;4 0 t=null",
	"x y;3;0 1 y=x.n;1 2 x=y.n",
	"x y;3;0 1 x=new;1 2 x=null",
	"x y;4;0 1 y=new;1 2 y.n=x;2 3 x=y;3 0 y=null",
}

// badNumbers lists texts that are no numbers from 0 to 11; some of them are 1 in another spelling, or with only the low bits of the number.
var badNumbers = []string{
	"", "00", "01", "001", "+1", "-1", "-0", "+0", "--1", "1.", "1.0", "0x1", "0b1", "1e0", "1_", "1x", "x", "?", "\uff11", "\u0661", "1\x00", "1\n", "\t1",
	"13", "99", "100", "257", "65537", "999999", "1000000", "1000001", "4294967297", "9223372036854775807", "9223372036854775808", "9223372036854775809",
	"18446744073709551616", "18446744073709551617", "99999999999999999999999999999999", "-9223372036854775808", strings.Repeat("0", 1000) + "1",
}

func sameProgram(a impl.Program, b impl.Program) bool {
	return slices.Equal(a.Vars, b.Vars) && a.Points == b.Points && slices.Equal(a.Edges, b.Edges)
}

// checkProgram checks that a program has a text, and is parsed from it again.
func checkProgram(t *testing.T, p impl.Program, text string) {
	t.Helper()
	if !impl.IsProgram(p) {
		t.Errorf("IsProgram(%#v) = false", p)
	}
	if got := impl.ProgramText(p); got != text {
		t.Errorf("ProgramText(%#v) = %q, want %q", p, got, text)
	}
	if got, ok := impl.ParseProgram(text); !sameProgram(got, p) || !ok {
		t.Errorf("ParseProgram(%q) = %#v, %t, want %#v, true", text, got, ok, p)
	}
}

func checkNoProgram(t *testing.T, text string) {
	t.Helper()
	if got, ok := impl.ParseProgram(text); !sameProgram(got, impl.Program{}) || ok {
		t.Errorf("ParseProgram(%.200q) = %#v, %t, want the zero Program and false", text, got, ok)
	}
}

// checkRejectedProgram checks that what is no program has no text, and is not parsed from the text that it would have
// (which another program may have: a name with a space in it looks like two names).
func checkRejectedProgram(t *testing.T, why string, p impl.Program) {
	t.Helper()
	if impl.IsProgram(p) {
		t.Errorf("%s: IsProgram(%#v) = true", why, p)
	}
	if got := impl.ProgramText(p); got != "" {
		t.Errorf("%s: ProgramText(%#v) = %q, want no text", why, p, got)
	}
	checkParseProgram(t, rawProgramText(p))
}

// rawProgramText writes programs as the document says, and others in the same way.
func rawProgramText(p impl.Program) string {
	text := strings.Join(p.Vars, " ") + ";" + strconv.Itoa(p.Points)
	for _, e := range p.Edges {
		text += fmt.Sprintf(";%d %d %s", e.From, e.To, impl.StmtText(e.Stmt))
	}
	return text
}

// programForm matches the texts of programs, but for what the statements are, which points there are, and which names the variables have.
var programForm = regexp.MustCompile("^([a-z]{1,2}(?: [a-z]{1,2}){0,3});([1-9]|1[0-2])((?:;(?:[0-9]|1[01]) (?:[0-9]|1[01]) [^;]+){0,24})$")

var stmtPatterns = formPatterns()

// wantProgram tells apart from the program's own reader which program has a text.
func wantProgram(text string) (impl.Program, bool) {
	groups := programForm.FindStringSubmatch(text)
	if groups == nil {
		return impl.Program{}, false
	}
	p := impl.Program{Vars: strings.Split(groups[1], " ")}
	p.Points, _ = strconv.Atoi(groups[2])
	for i, name := range p.Vars {
		if slices.Contains(p.Vars[:i], name) {
			return impl.Program{}, false
		}
	}
	for _, part := range strings.Split(groups[3], ";")[1:] {
		fields := strings.SplitN(part, " ", 3)
		from, _ := strconv.Atoi(fields[0])
		to, _ := strconv.Atoi(fields[1])
		list := matchingStmts(stmtPatterns, fields[2])
		if len(list) != 1 || from >= p.Points || to >= p.Points || !namesAmong(p.Vars, list[0]) {
			return impl.Program{}, false
		}
		p.Edges = append(p.Edges, impl.Edge{From: from, To: to, Stmt: list[0]})
	}
	return p, true
}

func namesAmong(vars []string, s impl.Stmt) bool {
	for _, name := range []string{s.A, s.B} {
		if name != "" && !slices.Contains(vars, name) {
			return false
		}
	}
	return true
}

// checkParseProgram compares ParseProgram of any text with the program that the pattern tells.
func checkParseProgram(t *testing.T, text string) {
	t.Helper()
	if want, ok := wantProgram(text); ok {
		checkProgram(t, want, text)
	} else {
		checkNoProgram(t, text)
	}
}

// programOf returns a program of x, y and xy with 3 points and one edge of every kind.
func programOf() impl.Program {
	p := impl.Program{Vars: []string{"x", "y", "xy"}, Points: 3}
	for i, c := range stmtKinds {
		p.Edges = append(p.Edges, impl.Edge{From: i % 3, To: i / 2 % 3, Stmt: stmtWith(c.number, c.uses, "x", "xy")})
	}
	return p
}

func edgesOf(count int, e impl.Edge) []impl.Edge {
	return slices.Repeat([]impl.Edge{e}, count)
}

func TestConstantsOfPrograms(t *testing.T) {
	if impl.MaxPoints != 12 || impl.MaxEdges != 24 {
		t.Errorf("MaxPoints = %d, MaxEdges = %d", impl.MaxPoints, impl.MaxEdges)
	}
}

func TestProgramText(t *testing.T) {
	x := []string{"x"}
	skip := impl.Stmt{Kind: impl.StSkip}
	cases := []struct {
		p    impl.Program
		text string
	}{
		{impl.Program{Vars: x, Points: 1}, "x;1"},
		{impl.Program{Vars: x, Points: 1, Edges: []impl.Edge{}}, "x;1"},
		{impl.Program{Vars: []string{"a", "zz", "b", "c"}, Points: 12}, "a zz b c;12"},
		{impl.Program{Vars: x, Points: 1, Edges: []impl.Edge{{Stmt: skip}}}, "x;1;0 0 skip"},
		{impl.Program{Vars: x, Points: 10, Edges: []impl.Edge{{From: 9, To: 0, Stmt: skip}}}, "x;10;9 0 skip"},
		{impl.Program{Vars: x, Points: 12, Edges: []impl.Edge{{From: 10, To: 11, Stmt: skip}, {From: 10, To: 11, Stmt: skip}}}, "x;12;10 11 skip;10 11 skip"},
		{impl.Program{Vars: []string{"y", "x"}, Points: 3, Edges: []impl.Edge{
			{From: 2, To: 1, Stmt: impl.Stmt{Kind: impl.StNext, A: "x", B: "y"}},
			{From: 0, To: 0, Stmt: impl.Stmt{Kind: impl.StFree, A: "y"}},
			{From: 1, To: 2, Stmt: impl.Stmt{Kind: impl.StDiffer, A: "y", B: "x"}},
		}}, "y x;3;2 1 x=y.n;0 0 free y;1 2 y!=x"},
		{programOf(), "x y xy;3;0 0 skip;1 0 x=null;2 1 x=new;0 1 x=xy;1 2 x=xy.n;2 2 x.n=null;0 0 x.n=xy;1 0 free x;2 1 x==null;0 1 x!=null;1 2 x==xy;2 2 x!=xy"},
	}
	for _, c := range cases {
		checkProgram(t, c.p, c.text)
	}
}

// Promise 6, of the listed texts.
func TestListedProgramsAreParsedFromTheirTexts(t *testing.T) {
	for _, text := range programTexts {
		p, ok := wantProgram(text)
		if !ok {
			t.Errorf("%q is no text of a program", text)
		}
		checkProgram(t, p, text)
	}
}

// Promise 6, with every number of points, every pair of these, every kind, and every list of variables.
func TestProgramsAreParsedFromTheirTexts(t *testing.T) {
	for _, vars := range listsOfVars {
		for points := 1; points <= impl.MaxPoints; points++ {
			p := impl.Program{Vars: vars, Points: points}
			checkProgram(t, p, rawProgramText(p))
			for from := range points {
				for to := range points {
					kind := stmtKinds[(from+points*to)%len(stmtKinds)]
					s := stmtWith(kind.number, kind.uses, vars[from%len(vars)], vars[to%len(vars)])
					p.Edges = append(p.Edges, impl.Edge{From: from, To: to, Stmt: s})
					if len(p.Edges) > impl.MaxEdges {
						p.Edges = p.Edges[1:]
					}
					checkProgram(t, p, rawProgramText(p))
				}
			}
		}
	}
}

func TestLimitsOfPrograms(t *testing.T) {
	for count := 1; count <= impl.MaxPoints; count++ {
		last := impl.Edge{From: count - 1, To: count - 1, Stmt: impl.Stmt{Kind: impl.StSkip}}
		p := impl.Program{Vars: []string{"x"}, Points: count, Edges: edgesOf(1, last)}
		checkProgram(t, p, fmt.Sprintf("x;%d;%d %d skip", count, count-1, count-1))
	}
	edge := impl.Edge{From: 11, To: 10, Stmt: impl.Stmt{Kind: impl.StFree, A: "dd"}}
	for _, count := range []int{0, 1, 2, 12, 13, 23, 24, 25, 26, 48, 100, 1000} {
		p := impl.Program{Vars: []string{"dd", "c", "b", "a"}, Points: 12, Edges: edgesOf(count, edge)}
		if text := "dd c b a;12" + strings.Repeat(";11 10 free dd", count); count <= 24 {
			checkProgram(t, p, text)
		} else {
			checkRejectedProgram(t, "too many edges", p)
			checkNoProgram(t, text)
		}
	}
}

func TestNonProgramsOfVarsAndPoints(t *testing.T) {
	checkRejectedProgram(t, "zero", impl.Program{})
	lists := [][]string{
		nil, {}, {""}, {"", ""}, {"x", "x"}, {"x", "y", "x"}, {"x", "y", "y"}, {"x", ""}, {"", "x"}, {"x", "abc"}, {"X"}, {"x", "1"}, {" x"}, {"x y"}, {"x;1"},
		{"a", "b", "c", "d", "x"}, {"x", "a", "b", "c", "d", "e"}, {"x", "a", "b", "c", "c"},
	}
	for _, none := range nonNames {
		lists = append(lists, []string{none}, []string{"x", none}, []string{none, "x"})
	}
	for _, vars := range lists {
		checkRejectedProgram(t, "variables", impl.Program{Vars: vars, Points: 1})
		checkRejectedProgram(t, "variables", impl.Program{Vars: vars, Points: 2, Edges: []impl.Edge{{To: 1, Stmt: impl.Stmt{Kind: impl.StSkip}}}})
	}
	for _, points := range []int{0, 13, -1, -12, 14, 24, 256 + 1, 1<<16 + 1, 1<<32 + 1, 1<<32 + 12, math.MaxInt, math.MinInt, math.MinInt + 1} {
		checkRejectedProgram(t, "points", impl.Program{Vars: []string{"x"}, Points: points})
		checkRejectedProgram(t, "points", impl.Program{Vars: []string{"x"}, Points: points, Edges: []impl.Edge{{Stmt: impl.Stmt{Kind: impl.StSkip}}}})
	}
}

// Every edge of a program in turn has an end that is no point, or a statement that is none.
func TestNonProgramsOfEdges(t *testing.T) {
	for i := range programOf().Edges {
		for _, none := range []int{-1, 3, 4, 12, -3, 256, 1 << 32, 1<<32 + 1, math.MaxInt, math.MinInt} {
			p := programOf()
			p.Edges[i].From = none
			checkRejectedProgram(t, "from", p)
			p = programOf()
			p.Edges[i].To = none
			checkRejectedProgram(t, "to", p)
		}
		for _, s := range []impl.Stmt{
			{}, {Kind: 13}, {Kind: -1, A: "x"}, {Kind: impl.StSkip, A: "x"}, {Kind: impl.StSkip, B: "x"}, {Kind: impl.StNull}, {Kind: impl.StNull, B: "x"},
			{Kind: impl.StNull, A: "x", B: "y"}, {Kind: impl.StNull, A: "z"}, {Kind: impl.StFree, A: "yx"}, {Kind: impl.StCopy, A: "x"}, {Kind: impl.StCopy, A: "x", B: "z"},
			{Kind: impl.StCopy, A: "z", B: "x"}, {Kind: impl.StLink, A: "x", B: "null"}, {Kind: impl.StDiffer, A: "X", B: "y"}, {Kind: impl.StSame, A: "xy", B: "xyx"},
		} {
			p := programOf()
			p.Edges[i].Stmt = s
			checkRejectedProgram(t, "statement", p)
		}
	}
}

// The names of a statement are those of the program, for every kind and place.
func TestNamesOfStatementsAreVariables(t *testing.T) {
	for _, c := range stmtKinds {
		for _, names := range [][2]string{{"q", "y"}, {"x", "q"}, {"q", "q"}, {"xy", "x"}, {"y", "xy"}} {
			s := stmtWith(c.number, c.uses, names[0], names[1])
			p := impl.Program{Vars: []string{"x", "y"}, Points: 1, Edges: []impl.Edge{{Stmt: s}}}
			if namesAmong(p.Vars, s) {
				checkProgram(t, p, rawProgramText(p))
			} else {
				checkRejectedProgram(t, "names", p)
			}
		}
	}
}

func TestEdgesFrom(t *testing.T) {
	skip := impl.Stmt{Kind: impl.StSkip}
	edges := []impl.Edge{{From: 1, To: 0, Stmt: skip}, {From: 0, To: 1, Stmt: skip}, {From: 1, To: 1, Stmt: skip}, {From: 1, To: 1, Stmt: skip}, {From: 3, To: 2, Stmt: skip}, {From: 0, To: 3, Stmt: skip}}
	p := impl.Program{Vars: []string{"x"}, Points: 5, Edges: edges}
	// Edges of what is no program count like others: From alone decides.
	other := impl.Program{Edges: []impl.Edge{{From: -1}, {From: 12, To: -1}, {From: -1, To: 5, Stmt: skip}, {From: math.MinInt}, {To: math.MaxInt}, {From: 12}}}
	cases := []struct {
		p     impl.Program
		point int
		want  []int
	}{
		{p, 0, []int{1, 5}}, {p, 1, []int{0, 2, 3}}, {p, 2, nil}, {p, 3, []int{4}}, {p, 4, nil}, {p, 5, nil}, {p, 6, nil}, {p, 12, nil},
		{p, -1, nil}, {p, -3, nil}, {p, 1<<32 + 1, nil}, {p, 256, nil}, {p, math.MinInt, nil}, {p, math.MaxInt, nil},
		{other, -1, []int{0, 2}}, {other, 12, []int{1, 5}}, {other, math.MinInt, []int{3}}, {other, 0, []int{4}}, {other, 5, nil}, {other, math.MaxInt, nil},
		{impl.Program{}, 0, nil}, {impl.Program{Vars: []string{"x"}, Points: 1}, 0, nil},
		{impl.Program{Vars: []string{"x"}, Points: 1, Edges: edgesOf(3, impl.Edge{Stmt: skip})}, 0, []int{0, 1, 2}},
	}
	for _, c := range cases {
		if got := impl.EdgesFrom(c.p, c.point); !slices.Equal(got, c.want) {
			t.Errorf("EdgesFrom(%#v, %d) = %v, want %v", c.p, c.point, got, c.want)
		}
	}
}

// Every edge is from exactly one point, and the indices ascend.
func TestEdgesFromCoverTheProgram(t *testing.T) {
	for _, text := range programTexts {
		p, _ := impl.ParseProgram(text)
		var all []int
		for point := range p.Points {
			list := impl.EdgesFrom(p, point)
			if !slices.IsSorted(list) {
				t.Errorf("EdgesFrom(%q, %d) = %v", text, point, list)
			}
			for _, i := range list {
				if p.Edges[i].From != point {
					t.Errorf("EdgesFrom(%q, %d) = %v", text, point, list)
				}
			}
			all = append(all, list...)
		}
		if slices.Sort(all); len(all) != len(p.Edges) || len(slices.Compact(all)) != len(p.Edges) {
			t.Errorf("the points of %q have %d edges", text, len(all))
		}
	}
}

func TestParseProgramRejects(t *testing.T) {
	for _, text := range []string{
		"", " ", ";", ";;", "x", "x;", ";1", ";1;0 0 skip", "x;;", "x 1", "x,1", "x;1;", "x;1;;", "x;1 ", "x; 1", "x ;1", " x;1", "x;1\n", "\nx;1", "x;1;0 0 skip\n", "x;1\x00",
		"x  y;1", " x y;1", "x y ;1", "x\ty;1", "x,y;1", "xy z;1;", "x;y;1", "x y;1;x;1", "xyz;1", "X;1", "x1;1", "x X;1", "\xff;1", "\u00e9;1", "null;1", "1;x", "1;1",
		"x x;1", "x y x;1", "y x x;1", "ab b ab;1", "a b c d e;1", "a b c d d;1", "x;0", "x;13", "x;-1", "x;x", "x;1 2", "x;1,0 0 skip", "x;1 0 0 skip",
		"x;2;skip", "x;2;0", "x;2;0 ", "x;2;0 1", "x;2;0 1 ", "x;2;0 skip", "x;2;0 1skip", "x;2;01 skip", "x;2;0;1;skip", "x;2;0;1 skip", "x;2;0 1;skip", "x;2;0,1 skip",
		"x;2; 0 1 skip", "x;2;0  1 skip", "x;2;0 1  skip", "x;2;0 1 skip ", "x;2;0 1 skip;", "x;2;0 1 skip;;", "x;2;;0 1 skip", "x;2;0 1 skip;;1 0 skip", "x;2;0 1 skip; 1 0 skip",
		"x;2;0 1 skip 1 0 skip", "x;2;0 1 skip,1 0 skip", "x;2;0 1 skip\n1 0 skip", "x;2;0\t1 skip", "x;2;0 1 skip;0", "x;2;0 1 skip;0 1", "x;2;0 1 skip;0 1 ", "x;2;0 1 skip;x",
		"x;2 ;0 1 skip", "x;2;0 1 skip;1 2 skip", "x;2;0 1 skip;2 1 skip", "x;2;2 0 skip", "x;2;0 2 skip", "x;1;0 1 skip", "x;1;1 0 skip", "x;1;0 0", "x;12;0 12 skip", "x;12;12 0 skip",
		"x;2;0 1 y=null", "x;2;0 1 x=y", "x;2;0 1 y=x", "x;2;0 1 free y", "x;2;0 1 x!=y", "x y;2;0 1 xy=null", "xy;2;0 1 x=null", "x y;2;0 1 x=xy", "x;2;0 1 x=null;0 1 y=null",
		"x;2;0 1 Skip", "x;2;0 1 skip x", "x;2;0 1 freex", "x;2;0 1 free  x", "x;2;0 1 free", "x;2;0 1 free ", "x;2;0 1 x = null", "x;2;0 1 x=", "x;2;0 1 =x", "x;2;0 1 x===x", "x;2;0 1 null=x",
		"x;2;0 1 x=null x=new", "x;2;0 1 ?", "?", "x;2;0 1 skip//", "(x;1)", "x;2:0 1 skip", "x:2;0 1 skip", "x;2;0 1 1 skip", "x;2;0 1 skip;0 1 1 skip", "\ufeffx;1",
	} {
		checkNoProgram(t, text)
	}
}

func TestNumbersOfPrograms(t *testing.T) {
	for _, form := range []string{"x;#", "x;#;0 0 skip", "x;12;# 0 skip", "x;12;0 # skip", "x;12;0 0 skip;# 0 skip", "x;12;11 11 free x;0 # free x"} {
		for _, number := range badNumbers {
			checkNoProgram(t, strings.Replace(form, "#", number, 1))
		}
		for _, number := range []string{" 1", "1 ", "1;", ";1", "1,", " ", ";"} {
			checkNoProgram(t, strings.Replace(form, "#", number, 1))
		}
		if text := strings.Replace(form, "#", "1", 1); impl.ProgramText(parsed(t, text)) != text {
			t.Errorf("%q is not parsed", text)
		}
	}
}

func parsed(t *testing.T, text string) impl.Program {
	t.Helper()
	p, ok := impl.ParseProgram(text)
	if !ok {
		t.Errorf("ParseProgram(%q) fails", text)
	}
	return p
}

// All texts of a few pieces behind some beginnings, valid or not.
func TestParseProgramOfSmallTexts(t *testing.T) {
	words := []string{";", " ", "0", "1", "2", ";0 1", " skip", " x=y", "+", "x"}
	for _, choice := range stringsUpTo("0123456789", 5) {
		var text string
		for i := range len(choice) {
			text += words[choice[i]-'0']
		}
		for _, beginning := range []string{"", "x;2", "x y;2;1 0"} {
			checkParseProgram(t, beginning+text)
		}
	}
}

// One byte of a text is left out, written twice, replaced by every byte, or has every byte before it.
func TestParseProgramOfChangedTexts(t *testing.T) {
	for _, text := range programTexts {
		for i := range len(text) {
			checkParseProgram(t, text[:i])
			checkParseProgram(t, text[i:])
			checkParseProgram(t, text[:i]+text[i+1:])
			for b := range 256 {
				other := string([]byte{byte(b)})
				checkParseProgram(t, text[:i]+other+text[i+1:])
				checkParseProgram(t, text[:i]+other+text[i:])
			}
		}
		for b := range 256 {
			checkParseProgram(t, text+string([]byte{byte(b)}))
		}
	}
}

func TestParseProgramOfLongTexts(t *testing.T) {
	for _, piece := range []string{"x", " ", ";", "x ", "x;", "0", "1;", "x;1;", "0 0 skip;", ";0 0 skip", "\xff"} {
		for _, beginning := range []string{"", "x;", "x;1", "x;1;", "x;1;0 0 ", "x;1;0 0 skip"} {
			checkNoProgram(t, beginning+strings.Repeat(piece, 20000))
		}
	}
}

func checkEqualProgram(t *testing.T, a impl.Program, b impl.Program, want bool) {
	t.Helper()
	if impl.EqualProgram(a, b) != want || impl.EqualProgram(b, a) != want {
		t.Errorf("EqualProgram(%#v, %#v) = %t, %t, want %t", a, b, impl.EqualProgram(a, b), impl.EqualProgram(b, a), want)
	}
}

func TestEqualProgramOfOneChange(t *testing.T) {
	changes := []func(e *impl.Edge){
		func(e *impl.Edge) { e.From++ },
		func(e *impl.Edge) { e.From -= 1 << 32 },
		func(e *impl.Edge) { e.To-- },
		func(e *impl.Edge) { e.To += 1 << 32 },
		func(e *impl.Edge) { e.Stmt.Kind++ },
		func(e *impl.Edge) { e.Stmt.Kind = -e.Stmt.Kind },
		func(e *impl.Edge) { e.Stmt.A += "z" },
		func(e *impl.Edge) { e.Stmt.B += "z" },
	}
	checkEqualProgram(t, programOf(), programOf(), true)
	for i := range programOf().Edges {
		for _, change := range changes {
			p := programOf()
			change(&p.Edges[i])
			checkEqualProgram(t, p, programOf(), false)
			checkEqualProgram(t, p, p, true)
		}
		p := programOf()
		p.Edges = slices.Delete(p.Edges, i, i+1)
		checkEqualProgram(t, p, programOf(), false)
		p = programOf()
		p.Edges = slices.Insert(p.Edges, i, p.Edges[i])
		checkEqualProgram(t, p, programOf(), false)
	}
	for i := range programOf().Vars {
		p := programOf()
		p.Vars[i] += "q"
		checkEqualProgram(t, p, programOf(), false)
		p.Vars = slices.Delete(programOf().Vars, i, i+1)
		checkEqualProgram(t, p, programOf(), false)
	}
	p := programOf()
	p.Points++
	checkEqualProgram(t, p, programOf(), false)
	p = programOf()
	p.Vars[0], p.Vars[1] = p.Vars[1], p.Vars[0]
	checkEqualProgram(t, p, programOf(), false)
	p = programOf()
	p.Edges[0], p.Edges[1] = p.Edges[1], p.Edges[0]
	checkEqualProgram(t, p, programOf(), false)
}

// Fields alone decide, whether the arguments are programs or not; nil and empty slices are the same.
func TestEqualProgramOfOthers(t *testing.T) {
	empty := impl.Program{Vars: []string{}, Edges: []impl.Edge{}}
	checkEqualProgram(t, impl.Program{}, impl.Program{}, true)
	checkEqualProgram(t, impl.Program{}, empty, true)
	checkEqualProgram(t, impl.Program{}, impl.Program{Points: -1}, false)
	checkEqualProgram(t, impl.Program{}, impl.Program{Vars: []string{""}}, false)
	checkEqualProgram(t, impl.Program{}, impl.Program{Edges: []impl.Edge{{}}}, false)
	checkEqualProgram(t, impl.Program{Vars: []string{"x y"}}, impl.Program{Vars: []string{"x", "y"}}, false)
	checkEqualProgram(t, impl.Program{Vars: []string{"\xff"}, Points: 99}, impl.Program{Vars: []string{"\xff"}, Points: 99}, true)
	checkEqualProgram(t, impl.Program{Vars: []string{"\xff"}}, impl.Program{Vars: []string{"\xfe"}}, false)
	checkEqualProgram(t, impl.Program{Edges: []impl.Edge{{From: -1}}}, impl.Program{Edges: []impl.Edge{{From: -1}}}, true)
	for i, a := range programTexts {
		for j, b := range programTexts {
			checkEqualProgram(t, parsed(t, a), parsed(t, b), i == j)
		}
	}
}

func TestProgramsLeaveArgumentsAlone(t *testing.T) {
	vars := []string{"x", "y", "xy", "spare"}
	edges := append(programOf().Edges, impl.Edge{From: 77, To: 77})
	p := impl.Program{Vars: vars[:3], Points: 3, Edges: edges[:len(edges)-1]}
	checkProgram(t, p, rawProgramText(programOf()))
	checkEqualProgram(t, p, programOf(), true)
	if got := impl.EdgesFrom(p, 77); len(got) != 0 {
		t.Errorf("EdgesFrom finds %v behind the edges", got)
	}
	if !slices.Equal(vars, []string{"x", "y", "xy", "spare"}) || !slices.Equal(edges, append(programOf().Edges, impl.Edge{From: 77, To: 77})) {
		t.Errorf("the program becomes %q, %v", vars, edges)
	}
}

func TestProgramsShareNoMemory(t *testing.T) {
	text := rawProgramText(programOf())
	a, b := parsed(t, text), parsed(t, text)
	from := impl.EdgesFrom(a, 0)
	for i := range a.Vars {
		a.Vars[i] = "?"
	}
	for i := range a.Edges {
		a.Edges[i] = impl.Edge{}
	}
	if !sameProgram(b, programOf()) || !sameProgram(parsed(t, text), programOf()) {
		t.Error("a program changes with another one")
	}
	if !slices.Equal(from, []int{0, 3, 6, 9}) {
		t.Errorf("the indices become %v", from)
	}
}
