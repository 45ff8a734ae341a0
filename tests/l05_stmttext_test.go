package tests

import (
	"math"
	"regexp"
	"strings"
	"testing"

	"loop.example/g00590/impl"
)

// stmtForms has the text of every kind, in their order, with A and B in the places of the names.
var stmtForms = []string{
	"skip", "A=null", "A=new", "A=B", "A=B.n", "A.n=null", "A.n=B", "free A", "A==null", "A!=null", "A==B", "A!=B",
}

// stmtNames lists names, most of which are the beginning, the end or another part of a word of a statement.
var stmtNames = []string{
	"x", "y", "n", "nn", "no", "nu", "ne", "ew", "ll", "l", "w", "sk", "ip", "s", "f", "fr", "re", "ee", "e", "a", "z", "aa", "zz", "az", "xy", "yx",
}

// fillForm writes names in the places of A and B.
func fillForm(form string, a string, b string) string {
	return strings.NewReplacer("A", a, "B", b).Replace(form)
}

// formPatterns returns for every kind the expression that matches its texts, with the names as groups.
func formPatterns() []*regexp.Regexp {
	var list []*regexp.Regexp
	for _, form := range stmtForms {
		list = append(list, regexp.MustCompile("^"+fillForm(regexp.QuoteMeta(form), "([a-z]{1,2})", "([a-z]{1,2})")+"$"))
	}
	return list
}

// matchingStmts returns the statements that the patterns tell of any text.
func matchingStmts(patterns []*regexp.Regexp, text string) []impl.Stmt {
	var list []impl.Stmt
	for i, pattern := range patterns {
		if groups := pattern.FindStringSubmatch(text); groups != nil {
			groups = append(groups, "", "")
			list = append(list, impl.Stmt{Kind: i + 1, A: groups[1], B: groups[2]})
		}
	}
	return list
}

// checkParse compares ParseStmt of any text with the statement that the patterns tell.
func checkParse(t *testing.T, patterns []*regexp.Regexp, text string) {
	t.Helper()
	want := matchingStmts(patterns, text)
	if len(want) > 1 {
		t.Fatalf("%q is the text of %#v", text, want)
	}
	if len(want) == 0 {
		checkNoStmt(t, text)
		return
	}
	if got, ok := impl.ParseStmt(text); got != want[0] || !ok {
		t.Errorf("ParseStmt(%q) = %#v, %t, want %#v, true", text, got, ok, want[0])
	}
}

func checkNoStmt(t *testing.T, text string) {
	t.Helper()
	if got, ok := impl.ParseStmt(text); got != (impl.Stmt{}) || ok {
		t.Errorf("ParseStmt(%q) = %#v, %t, want the zero Stmt and false", text, got, ok)
	}
}

// checkStmtText checks that a statement has a text, and is parsed from it again.
func checkStmtText(t *testing.T, s impl.Stmt, want string) {
	t.Helper()
	if got := impl.StmtText(s); got != want {
		t.Errorf("StmtText(%#v) = %q, want %q", s, got, want)
	}
	if got, ok := impl.ParseStmt(want); got != s || !ok {
		t.Errorf("ParseStmt(%q) = %#v, %t, want %#v, true", want, got, ok, s)
	}
}

func checkNoText(t *testing.T, s impl.Stmt) {
	t.Helper()
	if got := impl.StmtText(s); got != "" {
		t.Errorf("StmtText(%#v) = %q, want no text", s, got)
	}
}

// stmtWith returns a statement of a kind with as many of the names as it uses.
func stmtWith(kind int, uses int, a string, b string) impl.Stmt {
	if uses < 1 {
		a = ""
	}
	if uses < 2 {
		b = ""
	}
	return impl.Stmt{Kind: kind, A: a, B: b}
}

func TestStmtTextOfEveryKind(t *testing.T) {
	cases := []struct {
		kind       int
		a, b, text string
	}{
		{impl.StSkip, "", "", "skip"},
		{impl.StNull, "x", "", "x=null"},
		{impl.StNull, "ab", "", "ab=null"},
		{impl.StNew, "x", "", "x=new"},
		{impl.StNew, "ab", "", "ab=new"},
		{impl.StCopy, "x", "y", "x=y"},
		{impl.StCopy, "ab", "y", "ab=y"},
		{impl.StCopy, "x", "cd", "x=cd"},
		{impl.StNext, "x", "y", "x=y.n"},
		{impl.StNext, "ab", "cd", "ab=cd.n"},
		{impl.StNext, "x", "x", "x=x.n"},
		{impl.StCut, "x", "", "x.n=null"},
		{impl.StCut, "ab", "", "ab.n=null"},
		{impl.StLink, "x", "y", "x.n=y"},
		{impl.StLink, "ab", "cd", "ab.n=cd"},
		{impl.StFree, "x", "", "free x"},
		{impl.StFree, "ab", "", "free ab"},
		{impl.StIsNull, "x", "", "x==null"},
		{impl.StIsNull, "ab", "", "ab==null"},
		{impl.StNotNull, "x", "", "x!=null"},
		{impl.StNotNull, "ab", "", "ab!=null"},
		{impl.StSame, "x", "y", "x==y"},
		{impl.StSame, "ab", "cd", "ab==cd"},
		{impl.StDiffer, "x", "y", "x!=y"},
		{impl.StDiffer, "ab", "cd", "ab!=cd"},
	}
	for _, c := range cases {
		checkStmtText(t, impl.Stmt{Kind: c.kind, A: c.a, B: c.b}, c.text)
	}
}

// The texts differ by little, or a name in them is a part of a word.
func TestTextsThatLookAlike(t *testing.T) {
	cases := []struct {
		text string
		kind int
		a, b string
	}{
		{"n=n", impl.StCopy, "n", "n"},
		{"n=n.n", impl.StNext, "n", "n"},
		{"n.n=n", impl.StLink, "n", "n"},
		{"n==n", impl.StSame, "n", "n"},
		{"n!=n", impl.StDiffer, "n", "n"},
		{"nn=n", impl.StCopy, "nn", "n"},
		{"x=yn", impl.StCopy, "x", "yn"},
		{"xn=y", impl.StCopy, "xn", "y"},
		{"xn=null", impl.StNull, "xn", ""},
		{"n=null", impl.StNull, "n", ""},
		{"n=new", impl.StNew, "n", ""},
		{"n.n=null", impl.StCut, "n", ""},
		{"n==null", impl.StIsNull, "n", ""},
		{"n!=null", impl.StNotNull, "n", ""},
		{"free n", impl.StFree, "n", ""},
		{"x=n", impl.StCopy, "x", "n"},
		{"x=no", impl.StCopy, "x", "no"},
		{"x=nu", impl.StCopy, "x", "nu"},
		{"x=ne", impl.StCopy, "x", "ne"},
		{"x=ne.n", impl.StNext, "x", "ne"},
		{"x=nu.n", impl.StNext, "x", "nu"},
		{"x.n=nu", impl.StLink, "x", "nu"},
		{"x.n=ne", impl.StLink, "x", "ne"},
		{"x==nu", impl.StSame, "x", "nu"},
		{"x!=ne", impl.StDiffer, "x", "ne"},
		{"no=nu", impl.StCopy, "no", "nu"},
		{"fr=sk", impl.StCopy, "fr", "sk"},
		{"sk=new", impl.StNew, "sk", ""},
		{"free fr", impl.StFree, "fr", ""},
		{"free f", impl.StFree, "f", ""},
		{"free sk", impl.StFree, "sk", ""},
		{"free nu", impl.StFree, "nu", ""},
	}
	for _, c := range cases {
		checkStmtText(t, impl.Stmt{Kind: c.kind, A: c.a, B: c.b}, c.text)
	}
}

// Promise 5, for every kind with names that look like words of statements.
func TestStatementsAreParsedFromTheirTexts(t *testing.T) {
	statementOf := map[string]impl.Stmt{}
	for _, c := range stmtKinds {
		for _, a := range stmtNames {
			for _, b := range stmtNames {
				s := stmtWith(c.number, c.uses, a, b)
				text := fillForm(stmtForms[c.number-1], a, b)
				checkStmtText(t, s, text)
				if other, met := statementOf[text]; met && other != s {
					t.Errorf("%#v and %#v have the text %q", other, s, text)
				}
				statementOf[text] = s
			}
		}
	}
}

// Promise 5, for every kind with every name in either place.
func TestEveryNameIsWritten(t *testing.T) {
	for _, name := range stringsUpTo("abcdefghijklmnopqrstuvwxyz", impl.MaxName)[1:] {
		for _, c := range stmtKinds {
			form := stmtForms[c.number-1]
			checkStmtText(t, stmtWith(c.number, c.uses, name, "n"), fillForm(form, name, "n"))
			checkStmtText(t, stmtWith(c.number, c.uses, "n", name), fillForm(form, "n", name))
		}
	}
}

func TestStmtTextRejectsOtherKinds(t *testing.T) {
	checkNoText(t, impl.Stmt{})
	for _, names := range append(namePairs, [2]string{"n", "nu"}) {
		for _, kind := range nonKinds {
			checkNoText(t, impl.Stmt{Kind: kind, A: names[0], B: names[1]})
		}
	}
	for _, kind := range []int{0, 13, -1, -12, math.MinInt, math.MaxInt} {
		checkNoText(t, impl.Stmt{Kind: kind})
		checkNoText(t, impl.Stmt{Kind: kind, A: "x", B: "y"})
	}
}

func TestStmtTextRejectsNonNames(t *testing.T) {
	words := []string{"null", "new", "skip", "free", "x.n", ".n", "x=y", "x=", "=x", "x.", "free x"}
	for _, none := range append(words, nonNames...) {
		for _, c := range stmtKinds {
			if c.uses >= 1 {
				checkNoText(t, stmtWith(c.number, c.uses, none, "y"))
			}
			if c.uses >= 2 {
				checkNoText(t, stmtWith(c.number, c.uses, "x", none))
				checkNoText(t, stmtWith(c.number, c.uses, none, none))
			}
		}
	}
}

// What stands in the place of a name that a kind does not use is wrong, be it a name or not.
func TestStmtTextRejectsUnusedNames(t *testing.T) {
	for _, c := range stmtKinds {
		for _, unused := range []string{"x", "y", "ab", "n", "null", "abc", "X", " ", "\x00", "\xff", "."} {
			if c.uses < 2 {
				s := stmtWith(c.number, c.uses, "x", "")
				s.B = unused
				checkNoText(t, s)
			}
			if c.uses < 1 {
				checkNoText(t, impl.Stmt{Kind: c.number, A: unused})
				checkNoText(t, impl.Stmt{Kind: c.number, A: unused, B: unused})
			}
		}
	}
}

// A statement has a text exactly if it is valid over the variables that it names.
func TestStatementsHaveTexts(t *testing.T) {
	for kind := -20; kind <= 30; kind++ {
		for _, a := range operands {
			for _, b := range operands {
				s := impl.Stmt{Kind: kind, A: a, B: b}
				vars := []string{"v"}
				for _, name := range []string{a, b} {
					if name != "" && name != vars[len(vars)-1] {
						vars = append(vars, name)
					}
				}
				if got, want := impl.StmtText(s) != "", impl.IsStmt(vars, s); got != want {
					t.Errorf("StmtText(%#v) = %q, but IsStmt gives %t", s, impl.StmtText(s), want)
				}
			}
		}
	}
}

func TestParseStmtRejects(t *testing.T) {
	list := []string{
		"", " ", "x", "ab", "n", "null", "new", "free", "free ", "skip ", " skip", "Skip", "SKIP", "skipx", "ski", "skip skip", "skip x",
		"x=", "=x", "=", "==", "!=", "!", ".n", ".n=", "x.n", "x.n=", "=x.n", "x==", "==x", "x!=", "!=x", "=null", "==null", "!=null", ".n=null", "=new",
		"x = y", "x= y", "x =y", " x=y", "x=y ", "x == y", "x= =y", "x! =y", "x=null ", "x= null", "x. n=y", "x .n=y", "x=y .n", "x=y. n", "x=n ull",
		"free  x", "freex", "free x ", " free x", "free\tx", "Free x", "free x y", "free x.n", "free null", "free new", "free abc", "free x=y", "free free",
		"x===y", "x====y", "x!==y", "x=!=y", "x=!y", "x!!=y", "x=y=z", "x==y=z", "x=y==z", "x==y==z", "x!=y!=z", "x!=y==z", "x==y!=z", "x:=y", "x<y", "x=>y",
		"x=y.m", "x=y.N", "x=y.nn", "x=y.", "x=y..n", "x=y.n.n", "x.n.n=y", "x..n=y", "x.m=y", "x.=y", "x.nn=y", "x.n=y.n", "x=.n", "xn=.y",
		"x.n=new", "x.n==y", "x.n!=y", "x.n==null", "x.n!=null", "x==y.n", "x!=y.n", "x==new", "x!=new", "x=null.n", "x=new.n", "x=skip", "x.n=skip",
		"null=x", "new=x", "null=null", "null=new", "null==null", "null==x", "null!=x", "null.n=x", "null.n=null", "new.n=null", "skip=null", "free=x", "free=null",
		"x=nul", "x=nulll", "x=Null", "x=NULL", "x=New", "x=neww", "x=nil", "x==nul", "x!=nulll", "x.n=nul", "x=null=null", "x=null==null",
		"abc=x", "x=abc", "xyz=y", "abc=null", "abc=new", "x=abc.n", "abc.n=null", "abc.n=x", "x.n=abc", "abc==null", "abc!=null", "abc==x", "x!=abc",
		"X=y", "x=Y", "x1=y", "x=y1", "1=2", "x=0", "_=x", "x=_", "x-y", "x,y", "x;y", "x=y;", "x=y\n", "\nx=y", "x=y\x00", "\x00x=y", "x\x00=y", "x=y\r",
		"\xff=x", "x=\xff", "x\xff=y", "x=y\xff", "x=y\x80", "\u00e9=x", "x=\u00e9", "x\u0301=y", "x\uff1dy", "x\u2260y", "x=\uff59", "free \u0445", "free\u00a0x", "s\u212aip",
		"A=B", "A=null", "A", "?", "x=?", strings.Repeat("x", 1000), strings.Repeat("=", 1000), "x=" + strings.Repeat("y", 100000), strings.Repeat("x=y", 1000),
	}
	patterns := formPatterns()
	for _, text := range list {
		checkNoStmt(t, text)
		checkParse(t, patterns, text)
	}
}

func TestParseStmtRejectsNonNames(t *testing.T) {
	for _, none := range nonNames {
		for _, form := range stmtForms[1:] {
			checkNoStmt(t, fillForm(form, none, "n"))
			if strings.Contains(form, "B") {
				checkNoStmt(t, fillForm(form, "n", none))
			}
		}
	}
}

// All texts of a few bytes and words, valid or not.
func TestParseStmtOfSmallTexts(t *testing.T) {
	patterns := formPatterns()
	for _, text := range stringsUpTo("=!.nx ", 6) {
		checkParse(t, patterns, text)
	}
	words := []string{"=", "!", ".n", "x", "n", "null", "new", "skip", "free", " "}
	for _, choice := range stringsUpTo("0123456789", 5) {
		var text string
		for i := range len(choice) {
			text += words[choice[i]-'0']
		}
		checkParse(t, patterns, text)
	}
}

// One byte of a text of each kind is left out, written twice, replaced by every byte, or has every byte before it.
func TestParseStmtOfChangedTexts(t *testing.T) {
	patterns := formPatterns()
	for _, form := range stmtForms {
		for _, names := range [][2]string{{"x", "y"}, {"n", "nu"}, {"ab", "ne"}} {
			text := fillForm(form, names[0], names[1])
			for i := range len(text) {
				checkParse(t, patterns, text[:i])
				checkParse(t, patterns, text[i:])
				checkParse(t, patterns, text[:i]+text[i+1:])
				checkParse(t, patterns, text[:i+1]+text[i:])
				for b := range 256 {
					other := string([]byte{byte(b)})
					checkParse(t, patterns, text[:i]+other+text[i+1:])
					checkParse(t, patterns, text[:i]+other+text[i:])
					checkParse(t, patterns, text+other)
				}
			}
		}
	}
}
