package tests

import (
	"math"
	"math/rand"
	"regexp"
	"slices"
	"strings"
	"testing"

	"loop.example/g00590/impl"
)

// formulaForms has the text of every kind, in their order, with X for the program variable, U and V for the logic variables, and F and G for the Args.
var formulaForms = []string{
	"true", "on X:U", "from X:U", "shared:U", "next:UV", "same:UV", "path:UV", "!F", "(F&G)", "(F|G)", "some U.F", "all U.F",
}

// formulaVars lists variables of programs, of which most are words of formulas, or begin with one, or are a part of one.
var formulaVars = [][]string{
	{"x"}, {"on"}, {"u"}, {"zz"},
	{"x", "y", "t"}, {"t", "y", "x"}, {"u", "v", "w", "z"}, {"z", "w", "v", "u"}, {"on", "o", "n", "no"}, {"o", "on", "oo"},
	{"tr", "fr", "sh", "ne"}, {"sa", "pa", "so", "al"}, {"t", "f", "s", "a"}, {"n", "ne", "p", "pa"}, {"ue", "om", "ed", "xt"}, {"me", "th", "ll", "l"},
	{"x", "xx", "xy", "y"}, {"xy", "x", "yx"}, {"uv", "u", "vu", "v"}, {"uu", "uv", "uw", "uz"},
}

// wordsOfFormulas lists the words of formulas and their beginnings, and the letters.
var wordsOfFormulas = []string{
	"true", "on", "from", "shared", "next", "same", "path", "some", "all", "u", "v", "w", "z",
	"t", "tr", "tru", "o", "f", "fr", "fro", "s", "sh", "sha", "n", "ne", "nex", "sa", "sam", "p", "pa", "pat", "so", "som", "a", "al",
}

// nonVars lists what are no variables.
func nonVars() [][]string {
	list := [][]string{
		nil, {}, {"x", "x"}, {"x", "y", "x"}, {"x", "y", "t", "y"}, {"x", "y", "t", "u", "v"}, {"x", "y", "t", "u", "x"}, {"x", "y", "t", "u", "v", "w", "z"},
		{"true"}, {"x", "from"}, {"shared", "x"}, {"x", "y", "x:u"}, {"on x"}, {"x:"}, {"x", "y", "!"}, {"x", "y", "(", ")"},
	}
	for _, none := range nonNames {
		list = append(list, []string{none}, []string{"x", none}, []string{none, "x", "y"}, []string{"x", "y", "t", none})
	}
	return list
}

// wantFormulaText writes formulas as the forms say, and what is none in the same way, if its kind and fields allow it.
func wantFormulaText(vars []string, f impl.Formula) string {
	name := func(list []string, i int) string {
		if i < 0 || i >= len(list) {
			return "?"
		}
		return list[i]
	}
	var args []string
	for _, arg := range f.Args {
		args = append(args, wantFormulaText(vars, arg))
	}
	args = append(args, "", "")
	letters := []string{"u", "v", "w", "z"}
	return strings.NewReplacer("X", name(vars, f.K), "U", name(letters, f.U), "V", name(letters, f.V), "F", args[0], "G", args[1]).Replace(name(formulaForms, f.Kind-1))
}

var (
	leafPattern = regexp.MustCompile(`^(?:true|(on|from) ([a-z]{1,2}):([uvwz])|(shared):([uvwz])|(next|same|path):([uvwz])([uvwz]))$`)
	bodyPattern = regexp.MustCompile(`^(some|all) ([uvwz])\.`)
)

func logicNumber(letter string) int { return strings.Index("uvwz", letter) }

// wantLeaf tells by a pattern which formula without Args has a text.
func wantLeaf(vars []string, s string) []impl.Formula {
	groups := leafPattern.FindStringSubmatch(s)
	switch {
	case groups == nil:
		return nil
	case groups[1] != "":
		k := slices.Index(vars, groups[2])
		if k < 0 {
			return nil
		}
		return []impl.Formula{formula(map[string]int{"on": 2, "from": 3}[groups[1]], k, logicNumber(groups[3]), 0)}
	case groups[4] != "":
		return []impl.Formula{sharedAt(logicNumber(groups[5]))}
	case groups[6] != "":
		kind := map[string]int{"next": 5, "same": 6, "path": 7}[groups[6]]
		return []impl.Formula{formula(kind, 0, logicNumber(groups[7]), logicNumber(groups[8]))}
	}
	return []impl.Formula{always()}
}

// wantFormulas tries every way of dividing a text, and returns all formulas, of any size, that have it.
func wantFormulas(vars []string, s string) []impl.Formula {
	list := wantLeaf(vars, s)
	if rest, found := strings.CutPrefix(s, "!"); found {
		for _, f := range wantFormulas(vars, rest) {
			list = append(list, not(f))
		}
	}
	if groups := bodyPattern.FindStringSubmatch(s); groups != nil {
		for _, f := range wantFormulas(vars, s[len(groups[0]):]) {
			list = append(list, formula(map[string]int{"some": 11, "all": 12}[groups[1]], 0, logicNumber(groups[2]), 0, f))
		}
	}
	if len(s) < 2 || s[0] != '(' || s[len(s)-1] != ')' {
		return list
	}
	depth := 0
	for i := 1; i < len(s)-1; i++ {
		depth += strings.Count(s[i:i+1], "(") - strings.Count(s[i:i+1], ")")
		if depth != 0 || s[i] != '&' && s[i] != '|' {
			continue
		}
		for _, a := range wantFormulas(vars, s[1:i]) {
			for _, b := range wantFormulas(vars, s[i+1:len(s)-1]) {
				list = append(list, formula(map[byte]int{'&': 9, '|': 10}[s[i]], 0, 0, 0, a, b))
			}
		}
	}
	return list
}

// checkFormulaText checks that a formula has a text, and is parsed from it again.
func checkFormulaText(t *testing.T, vars []string, f impl.Formula, text string) {
	t.Helper()
	if got := impl.FormulaText(vars, f); got != text {
		t.Errorf("FormulaText(%q, %s) = %q, want %q", vars, rawFormula(f), got, text)
	}
	got, ok := impl.ParseFormula(vars, text)
	if rawFormula(got) != rawFormula(f) || !ok {
		t.Errorf("ParseFormula(%q, %q) = %s, %t, want %s, true", vars, text, rawFormula(got), ok, rawFormula(f))
	}
	if again := impl.FormulaText(vars, got); again != text {
		t.Errorf("FormulaText of the formula of %q is %q", text, again)
	}
}

func checkNoFormulaText(t *testing.T, vars []string, f impl.Formula) {
	t.Helper()
	if got := impl.FormulaText(vars, f); got != "" {
		t.Errorf("FormulaText(%q, %s) = %q, want no text", vars, rawFormula(f), got)
	}
}

func checkNoFormula(t *testing.T, vars []string, text string) {
	t.Helper()
	if got, ok := impl.ParseFormula(vars, text); rawFormula(got) != "(0 0 0 0)" || ok {
		t.Errorf("ParseFormula(%.100q, %.200q) = %s, %t, want the zero Formula and false", vars, text, rawFormula(got), ok)
	}
}

// checkParseFormula compares ParseFormula of any text with the formula that the patterns tell, and reports whether there is one.
func checkParseFormula(t *testing.T, vars []string, text string) bool {
	t.Helper()
	list := wantFormulas(vars, text)
	if len(list) > 1 {
		t.Fatalf("%q is the text of %d formulas", text, len(list))
	}
	if len(list) == 0 || !wantIsFormula(len(vars), list[0]) {
		checkNoFormula(t, vars, text)
		return false
	}
	checkFormulaText(t, vars, list[0], text)
	return true
}

func TestListedFormulaTexts(t *testing.T) {
	cases := []struct {
		text string
		f    impl.Formula
	}{
		{"true", always()},
		{"on x:u", onVar(0, 0)},
		{"on t:z", onVar(2, 3)},
		{"from y:v", fromVar(1, 1)},
		{"from t:w", fromVar(2, 2)},
		{"shared:u", sharedAt(0)},
		{"shared:z", sharedAt(3)},
		{"next:uv", nextTo(0, 1)},
		{"next:vu", nextTo(1, 0)},
		{"next:ww", nextTo(2, 2)},
		{"same:uz", sameAs(0, 3)},
		{"path:zw", pathTo(3, 2)},
		{"!true", not(always())},
		{"!!shared:u", not(not(sharedAt(0)))},
		{"(true&true)", both(always(), always())},
		{"(on x:u|on y:u)", either(onVar(0, 0), onVar(1, 0))},
		{"some u.true", some(0, always())},
		{"some v.on x:v", some(1, onVar(0, 1))},
		{"all w.path:wz", all(2, pathTo(2, 3))},
		{"all z.!from x:z", all(3, not(fromVar(0, 3)))},
		{"!(true|true)", not(either(always(), always()))},
		{"(!true|true)", either(not(always()), always())},
		{"some u.(true&true)", some(0, both(always(), always()))},
		{"(some u.true&true)", both(some(0, always()), always())},
		{"(true&some u.true)", both(always(), some(0, always()))},
		{"((true&true)|true)", either(both(always(), always()), always())},
		{"(true&(true|true))", both(always(), either(always(), always()))},
		{"((true|true)&(true&true))", both(either(always(), always()), both(always(), always()))},
		{"!some u.!all u.!true", not(some(0, not(all(0, not(always())))))},
		{"some v.(on x:v&path:vu)", some(1, both(onVar(0, 1), pathTo(1, 0)))},
		{"some v.some w.((next:vu&next:wu)&!same:vw)", some(1, some(2, both(both(nextTo(1, 0), nextTo(2, 0)), not(sameAs(1, 2)))))},
		{"all u.!shared:u", all(0, not(sharedAt(0)))},
		{"all u.!(from x:u&from y:u)", all(0, not(both(fromVar(0, 0), fromVar(1, 0))))},
		{"all u.(!from t:u|!shared:u)", all(0, either(not(fromVar(2, 0)), not(sharedAt(0))))},
		{"(next:uv|(on x:u&on y:v))", either(nextTo(0, 1), both(onVar(0, 0), onVar(1, 1)))},
	}
	for _, c := range cases {
		checkFormulaText(t, []string{"x", "y", "t"}, c.f, c.text)
		checkFormulaText(t, []string{"x", "y", "t", "on"}, c.f, c.text)
		checkParseFormula(t, []string{"x", "y", "t"}, c.text)
	}
}

// Promise 11, for formulas of all kinds in each other, which all have different texts.
func TestFormulasAreParsedFromTheirTexts(t *testing.T) {
	formulaWith := map[string]string{}
	for i, f := range validFormulas() {
		for _, vars := range [][]string{{"x", "y", "t"}, {"u", "uv", "v", "on"}, formulaVars[i%len(formulaVars)]} {
			if wantIsFormula(len(vars), f) {
				checkFormulaText(t, vars, f, wantFormulaText(vars, f))
			}
		}
		text := impl.FormulaText([]string{"x", "y", "t"}, f)
		if other, met := formulaWith[text]; met && other != rawFormula(f) {
			t.Errorf("%s and %s have the text %q", other, rawFormula(f), text)
		}
		formulaWith[text] = rawFormula(f)
	}
}

// Promise 11, for formulas of any form with up to the greatest size and depth, over names that look like words.
func TestRandomFormulasAreParsedFromTheirTexts(t *testing.T) {
	random := rand.New(rand.NewSource(11))
	valid := 0
	for range 10000 {
		vars := formulaVars[random.Intn(len(formulaVars))]
		f := randomFormula(random, len(vars), random.Intn(13))
		if wantIsFormula(len(vars), f) {
			valid++
			checkFormulaText(t, vars, f, wantFormulaText(vars, f))
		} else {
			checkNoFormulaText(t, vars, f)
			checkNoFormula(t, vars, wantFormulaText(vars, f))
		}
	}
	if valid < 2500 {
		t.Errorf("only %d formulas are valid", valid)
	}
}

// randomFormula returns what is a formula but for its size and depth.
func randomFormula(random *rand.Rand, vars int, levels int) impl.Formula {
	kind := 1 + random.Intn(7)
	if levels > 0 {
		kind = 8 + random.Intn(5)
	}
	row := formulaKinds[kind-1]
	f := formula(kind, 0, 0, 0)
	if strings.Contains(row.uses, "K") {
		f.K = random.Intn(vars)
	}
	if strings.Contains(row.uses, "U") {
		f.U = random.Intn(4)
	}
	if strings.Contains(row.uses, "V") {
		f.V = random.Intn(4)
	}
	for i := range row.args {
		below := levels - 1
		if i > 0 {
			below = random.Intn(levels)
		}
		f.Args = append(f.Args, randomFormula(random, vars, below))
	}
	if len(f.Args) == 2 && random.Intn(2) == 0 {
		slices.Reverse(f.Args)
	}
	return f
}

func TestEveryLogicVariableAtEveryPlace(t *testing.T) {
	vars := []string{"x", "u"}
	for u, one := range []string{"u", "v", "w", "z"} {
		checkFormulaText(t, vars, onVar(0, u), "on x:"+one)
		checkFormulaText(t, vars, onVar(1, u), "on u:"+one)
		checkFormulaText(t, vars, fromVar(0, u), "from x:"+one)
		checkFormulaText(t, vars, fromVar(1, u), "from u:"+one)
		checkFormulaText(t, vars, sharedAt(u), "shared:"+one)
		for v, two := range []string{"u", "v", "w", "z"} {
			checkFormulaText(t, vars, nextTo(u, v), "next:"+one+two)
			checkFormulaText(t, vars, sameAs(u, v), "same:"+one+two)
			checkFormulaText(t, vars, pathTo(u, v), "path:"+one+two)
			checkFormulaText(t, vars, some(u, sharedAt(v)), "some "+one+".shared:"+two)
			checkFormulaText(t, vars, all(u, some(v, onVar(1, u))), "all "+one+".some "+two+".on u:"+one)
		}
	}
}

// All letters but u, v, w and z, and all other bytes, stand for no logic variable.
func TestLettersThatAreNoLogicVariables(t *testing.T) {
	vars := []string{"x", "k"}
	for b := range 256 {
		letter := string([]byte{byte(b)})
		for _, form := range []string{"on x:U", "from k:U", "shared:U", "next:UU", "next:Uv", "same:vU", "path:Uu", "some U.true", "all U.shared:u", "some u.shared:U", "(true|!next:wU)"} {
			text := strings.ReplaceAll(form, "U", letter)
			if got := checkParseFormula(t, vars, text); got != strings.Contains("uvwz", letter) {
				t.Errorf("ParseFormula(%q) gives a formula: %t", text, got)
			}
		}
	}
	for _, letter := range []string{"", "uu", "uvw", "x", "k", "\u00fc", "\uff55", "0", "3", "true"} {
		for _, form := range []string{"on x:U", "from k:U", "shared:U", "next:Uv", "next:vU", "some U.true", "all U.shared:u"} {
			checkNoFormula(t, vars, strings.ReplaceAll(form, "U", letter))
		}
	}
}

// Every name, in the place of each variable, with another one that it begins with or that begins with it.
func TestEveryNameInFormulas(t *testing.T) {
	for _, name := range stringsUpTo("abcdefghijklmnopqrstuvwxyz", impl.MaxName)[1:] {
		other := name[:1]
		if len(name) == 1 {
			other = name + "u"
		}
		for _, vars := range [][]string{{name}, {name, other}, {other, name}} {
			for k, written := range vars {
				checkFormulaText(t, vars, onVar(k, 0), "on "+written+":u")
				checkFormulaText(t, vars, some(3, not(fromVar(k, 3))), "some z.!from "+written+":z")
				checkFormulaText(t, vars, both(fromVar(k, 1), onVar(0, 2)), "(from "+written+":v&on "+vars[0]+":w)")
			}
			checkParseFormula(t, vars, "on "+name+name+":u")
			checkNoFormula(t, vars, name+":u")
			checkNoFormula(t, vars, name)
		}
		checkNoFormula(t, []string{other}, "on "+name+":u")
	}
}

// Words of formulas are names only where they are short enough, and a name is never taken for a word.
func TestWordsAsNames(t *testing.T) {
	for _, word := range wordsOfFormulas {
		for _, vars := range [][]string{{word}, {"q", word}, {word, "q", "qq"}} {
			k := slices.Index(vars, word)
			for _, f := range append(leaves(), onVar(k, 0), fromVar(k, 3), some(0, onVar(k, 0)), not(fromVar(k, 1)), both(onVar(k, 2), fromVar(k, 2))) {
				if text := wantFormulaText(vars, f); len(word) > impl.MaxName {
					checkNoFormulaText(t, vars, f)
					checkNoFormula(t, vars, text)
				} else if wantIsFormula(len(vars), f) {
					checkFormulaText(t, vars, f, text)
				}
			}
		}
		for _, vars := range formulaVars {
			for _, form := range []string{"W", "W:u", "W:uv", "W x:u", "W u.true", "on W:u", "from W:z", "some W.true", "all W.W", "!W", "(W&W)", "(W|true)", "W W:W", "W:WW", "on on:W", "W.W", "W true"} {
				checkParseFormula(t, vars, strings.ReplaceAll(form, "W", word))
			}
		}
	}
}

// A name is a variable only if it is one of vars; the others have their places there.
func TestNamesThatAreNoVariables(t *testing.T) {
	for _, vars := range formulaVars {
		for _, name := range append([]string{"q", "qx", "xq", "X", "ON", "U", "on ", " on", "x ", "x:", "x:u", "x!", "(x)", "?", "0", "1"}, nonNames...) {
			for _, text := range []string{"on " + name + ":u", "from " + name + ":v", "!on " + name + ":u", "(true&from " + name + ":z)"} {
				if !slices.Contains(vars, name) {
					checkNoFormula(t, vars, text)
				}
			}
		}
		for k, name := range vars {
			checkFormulaText(t, vars, onVar(k, 1), "on "+name+":v")
			checkNoFormula(t, slices.Delete(slices.Clone(vars), k, k+1), "on "+name+":v")
		}
	}
}

func TestGreatestFormulaTexts(t *testing.T) {
	vars := []string{"x"}
	for nodes := 1; nodes <= 100; nodes++ {
		f := formulaOfSize(nodes)
		for _, whole := range []impl.Formula{f, not(f), both(always(), f), both(f, always()), some(2, f)} {
			if text := wantFormulaText(vars, whole); wantSize(whole) <= 40 {
				checkFormulaText(t, vars, whole, text)
			} else {
				checkNoFormulaText(t, vars, whole)
				checkNoFormula(t, vars, text)
			}
		}
	}
}

// The longest texts have as many pairs as there can be, and a program variable with a long name in all of them.
func TestLongestFormulaTexts(t *testing.T) {
	vars := []string{"xy"}
	for _, leaf := range []impl.Formula{fromVar(0, 0), always(), sharedAt(3)} {
		for _, pair := range []func(a impl.Formula, b impl.Formula) impl.Formula{both, either} {
			f := doubled(4, leaf)
			left := pair(pair(pair(leaf, f), pair(leaf, leaf)), leaf)
			right := pair(leaf, pair(pair(leaf, leaf), pair(leaf, f)))
			for _, f := range []impl.Formula{left, right} {
				for _, whole := range []impl.Formula{some(0, f), not(f), all(3, f)} {
					checkMeasures(t, whole, 40, 9)
					checkFormulaText(t, vars, whole, wantFormulaText(vars, whole))
					for _, large := range []impl.Formula{not(whole), some(1, whole), pair(f, leaf), pair(leaf, f), pair(whole, whole)} {
						checkNoFormulaText(t, vars, large)
						checkNoFormula(t, vars, wantFormulaText(vars, large))
					}
				}
			}
		}
	}
}

func TestDeepestFormulaTexts(t *testing.T) {
	vars := []string{"x"}
	for way := range nestings {
		for depth := 1; depth <= 30; depth++ {
			f := formulaOfDepth(depth, way)
			for _, whole := range []impl.Formula{f, not(f), both(always(), f), either(f, always()), all(0, f)} {
				if text := wantFormulaText(vars, whole); wantDepth(whole) <= 12 {
					checkFormulaText(t, vars, whole, text)
				} else {
					checkNoFormulaText(t, vars, whole)
					checkNoFormula(t, vars, text)
				}
			}
		}
	}
	// Both limits are met, or the size is missed.
	for nodes := 20; nodes <= 40; nodes++ {
		whole := both(formulaOfDepth(11, 0), formulaOfSize(nodes))
		if text := wantFormulaText(vars, whole); nodes <= 28 {
			checkFormulaText(t, vars, whole, text)
		} else {
			checkNoFormulaText(t, vars, whole)
			checkNoFormula(t, vars, text)
		}
	}
}

// What is no formula, for its numbers, its Args or its size, has no text.
func TestFormulaTextRejectsWhatIsNone(t *testing.T) {
	vars := []string{"x", "y", "t"}
	checkNoFormulaText(t, vars, impl.Formula{})
	for _, f := range oddFormulas() {
		for count := 1; count <= 3; count++ {
			if wantIsFormula(count, f) {
				checkFormulaText(t, vars[:count], f, wantFormulaText(vars[:count], f))
			} else {
				checkNoFormulaText(t, vars[:count], f)
			}
		}
	}
	for _, kind := range nonKinds {
		for count := range 4 {
			args := slices.Repeat(leaves()[:1], count)
			checkNoFormulaText(t, vars, formula(kind, 0, 0, 0, args...))
			checkNoFormulaText(t, vars, not(formula(kind, 1, 2, 3, args...)))
		}
	}
	for i, f := range nodesOf() {
		for count := range 6 {
			f.Args = slices.Repeat(leaves()[:1], count)
			if got := impl.FormulaText(vars, f) != ""; got != (count == formulaKinds[i].args) {
				t.Errorf("FormulaText(%s) = %q", rawFormula(f), impl.FormulaText(vars, f))
			}
		}
	}
}

func TestFormulaTextRejectsWrongNumbers(t *testing.T) {
	for _, vars := range formulaVars {
		for _, kind := range []int{2, 3} {
			for _, k := range append([]int{len(vars), len(vars) + 1}, outside...) {
				if k < 0 || k >= len(vars) {
					checkNoFormulaText(t, vars, formula(kind, k, 0, 0))
					checkNoFormulaText(t, vars, some(1, both(always(), formula(kind, k, 1, 0))))
				}
			}
		}
	}
	vars := []string{"x", "y", "t", "on"}
	for i, f := range nodesOf() {
		for _, n := range append([]int{1, 2, 3}, outside...) {
			changes := []func(part *impl.Formula){
				func(part *impl.Formula) { part.K = n },
				func(part *impl.Formula) { part.U = n },
				func(part *impl.Formula) { part.V = n },
			}
			for j, change := range changes {
				changed := f
				change(&changed)
				if n > 3 || n < 0 || !strings.Contains(formulaKinds[i].uses, "KUV"[j:j+1]) {
					checkNoFormulaText(t, vars, changed)
					checkNoFormulaText(t, vars, not(some(0, changed)))
				}
			}
		}
	}
}

// Over what are no variables nothing has a text, also where no program variable is written.
func TestFormulasOverNoVariables(t *testing.T) {
	for _, vars := range nonVars() {
		for _, f := range append(leaves(), not(always()), both(onVar(0, 0), nextTo(0, 1)), some(1, fromVar(0, 1))) {
			checkNoFormulaText(t, vars, f)
			checkNoFormula(t, vars, wantFormulaText(vars, f))
			checkNoFormula(t, vars, wantFormulaText([]string{"x", "y", "t"}, f))
		}
		checkNoFormula(t, vars, "")
		checkNoFormulaText(t, vars, impl.Formula{})
	}
}

func TestParseFormulaRejects(t *testing.T) {
	list := []string{
		"", " ", "x", "u", "?", "0", "1", "false", "True", "TRUE", "tru", "truee", "true ", " true", "true true", "truetrue", "true.", "true:", "true:u", "true u", "true\n", "\ttrue",
		"on", "on ", "on x", "on x:", "on :u", "on:u", "on u", "on xu", "onx:u", "on  x:u", "on x :u", "on x: u", "on x:u ", " on x:u", "on x:uv", "on x.u", "on x;u", "on x::u", "on x,y:u", "on x y:u", "On x:u", "ON x:u", "on X:u", "on x:U", "on x:x", "on q:u", "on 0:u", "on xy:u", "x:u", "on on x:u",
		"from", "from x", "from x:", "from:u", "from :u", "fromx:u", "from  x:u", "from x:u:v", "From x:u", "from x:k", "form x:u", "from x:uu",
		"shared", "shared:", "shared u", "shared :u", "shared: u", "shared:uv", "shared:x", "shared x:u", "Shared:u", "share:u", "sharedu", "shared.u", "shared::u",
		"next", "next:", "next:u", "next:uvw", "next:u,v", "next:u v", "next uv", "next: uv", "next :uv", "next:UV", "next:xy", "next:ux", "next:xu", "nextuv", "next:u:v", "next x:u", "Next:uv", "next.uv",
		"same:u", "same:uvw", "same uv", "path:u", "path:uvw", "path uv", "path:uv ", "path:", "same:", "some:uv", "all:uv", "same u.true", "path u.true",
		"!", "!!", "!!!", "! true", "true!", "!true!", "!(true)", "not true", "~true", "-true", "!x", "!()", "!&", "!)", "!(", "(!", "!.true",
		"(", ")", "()", ")(", "(true)", "((true))", "(true&true", "true&true)", "true&true", "true|true", "((true&true)", "(true&true))", "((true&true))", "(true&true)true", "(true&true)&true", "(true&true)&(true&true)", "true(true&true)",
		"(true&)", "(&true)", "(&)", "(|)", "(true|)", "(|true)", "(true true)", "(true,true)", "(true&&true)", "(true||true)", "(true&|true)", "(true+true)", "(true & true)", "( true&true)", "(true&true )", "(true& true)", "(true &true)",
		"(true&true&true)", "(true|true|true)", "(true&true|true)", "(true&true&true&true)", "(true)&(true)", "((true)&true)", "(true&(true))", "(!true)", "!(true&true", "(some u.true)", "((true&true)&true", "[true&true]", "{true|true}", "(true&true]", "(true.true)", "(true!true)", "(true(true)", "(true)true)",
		"some", "some ", "some u", "some u.", "some u.u", "some .true", "some.true", "some u true", "some u:true", "some u. true", "some  u.true", "some u .true", "some uv.true", "some u,v.true", "some u v.true", "some u..true", "some u.true.", "some x.true", "Some u.true", "SOME u.true", "someu.true", "some u.(true)", "some u.()", "some U.true", "some u.some v", "some u.some v.",
		"all", "all u", "all u.", "all.true", "all u true", "all  u.true", "all x.true", "All u.true", "allu.true", "all u.all", "all uu.true", "any u.true", "all u.!", "all u.(true&true", "(all u.true)&true", "all u.true&true", "some u.true|true", "every u.true", "\u2203u.true", "\u2200u.true",
		"true&", "&true", "&", "|", "&&", ".", ":", "u.true", "true)", "(true", "(true(", ")true(", "true,true", "true;true", "true\x00", "\x00true", "tr\x00ue", "true\xff", "\xfftrue", "\xff", "\x80\x80", "on \xff:u", "on x:\xff", "(true\xfftrue)", "on x\uff1au", "\uff08true&true\uff09", "on\u00a0x:u", "true\u00e9", "!\u0301true", "next:u\u0301v",
	}
	for _, text := range list {
		for _, vars := range [][]string{{"x"}, {"x", "y", "t"}} {
			checkNoFormula(t, vars, text)
			if checkParseFormula(t, vars, text) {
				t.Errorf("%q is the text of a formula", text)
			}
		}
	}
}

// longTexts lists texts that are longer than those of all formulas; none of them is one.
func longTexts() []string {
	list := []string{"(" + strings.Repeat("true&", 100000) + "true)", strings.Repeat("(", 100000) + "true" + strings.Repeat("&true)", 100000), strings.Repeat("(true|", 100000) + "true" + strings.Repeat(")", 100000)}
	for _, part := range []string{"!", "(", ")", "&", "|", ".", ":", " ", "x", "u", "\xff", "true", "on ", "on x:u", "some u.", "all z.", "some ", "next:", "(true&", "!(", "true&true", "on x:"} {
		many := strings.Repeat(part, 200000)
		list = append(list, many, many+"true", "true"+many, "on x:u"+many, "on x"+many+":u", "on "+many, "("+many+"&true)", "(true"+many, "shared:u"+many)
	}
	return list
}

func TestParseFormulaRejectsLongTexts(t *testing.T) {
	for _, text := range longTexts() {
		checkNoFormula(t, []string{"x"}, text)
	}
	// A call within a call for each of so many parts would be more than the stack can hold.
	for _, part := range []string{"!", "(", "some u.", "(true&"} {
		checkNoFormula(t, []string{"x"}, strings.Repeat(part, 10000000)+"true")
	}
	for count := range 200 {
		for _, part := range []string{"!", "some u.", "all w.", "(true&", "(", "!("} {
			text := strings.Repeat(part, count) + "on x:u"
			checkParseFormula(t, []string{"x"}, text)
			checkParseFormula(t, []string{"x"}, text+strings.Repeat(")", count))
		}
	}
}

// All texts of a few parts, valid or not.
func TestParseFormulaOfSmallTexts(t *testing.T) {
	vars := []string{"x", "on", "u"}
	parts := [][]string{
		{"true", "!", "(", ")", "&", "|", "some u.", "on x:u", "next:uv", " "},
		{"on", "from", " ", ":", "u", "x", "shared", "next", "v"},
		{"some", "all", " ", "u", ".", "true", "!", "w"},
		{"(", ")", "&", "|", "true", "!"},
	}
	for i, most := range []int{5, 5, 5, 7} {
		found := 0
		for _, choice := range stringsUpTo("0123456789"[:len(parts[i])], most) {
			var text string
			for _, digit := range choice {
				text += parts[i][digit-'0']
			}
			if checkParseFormula(t, vars, text) {
				found++
			}
		}
		if found < 5 {
			t.Errorf("only %d texts of %q are those of formulas", found, parts[i])
		}
	}
}

// The text is cut off at every place, before and behind it; one byte is left out, written twice, replaced by every byte, or has every byte before it.
func TestParseFormulaOfChangedTexts(t *testing.T) {
	vars := []string{"x", "on", "xy", "u"}
	for _, text := range []string{
		"true", "on x:u", "from xy:v", "on on:w", "from u:u", "shared:z", "next:uv", "same:vw", "path:zz", "!true", "(true&shared:u)", "(on x:u|true)", "some w.true", "all v.!next:vu",
		"some u.(on xy:u&!(path:uv|all z.same:zu))", "((true&true)|(!true&!!true))",
	} {
		if !checkParseFormula(t, vars, text) {
			t.Errorf("%q is not the text of a formula", text)
		}
		for i := range len(text) {
			checkNoFormula(t, vars, text[:i])
			checkParseFormula(t, vars, text[i:])
			checkParseFormula(t, vars, text[:i]+text[i+1:])
			checkParseFormula(t, vars, text[:i+1]+text[i:])
			for b := range 256 {
				other := string([]byte{byte(b)})
				checkParseFormula(t, vars, text[:i]+other+text[i+1:])
				checkParseFormula(t, vars, text[:i]+other+text[i:])
			}
			for _, more := range []string{" ", "  ", "()", "(", ")", "true", "\u00e9"} {
				checkNoFormula(t, vars, text[:i]+more+text[i:])
			}
		}
		for b := range 256 {
			checkNoFormula(t, vars, text+string([]byte{byte(b)}))
		}
		for _, more := range []string{" ", "true", "&true", "|true)", "(true&true)", "!", ".true", text} {
			checkNoFormula(t, vars, text+more)
		}
		for _, around := range []string{"(F)", "((F))", " F", "F ", "(F", "F)", "(F&F&F)", "(F|F&F)", "F&F", "F!", "{F}", "(F,F)", "()F", "(F)&(F)"} {
			checkNoFormula(t, vars, strings.ReplaceAll(around, "F", text))
		}
		checkNoFormula(t, vars, strings.ToUpper(text))
	}
}

// What shares its memory has a text, and what has itself within it, or more nodes than can be counted, has none.
func TestFormulaTextOfPartsThatShareMemory(t *testing.T) {
	vars := []string{"x"}
	for levels := range 100 {
		f := doubled(levels, some(0, nextTo(0, 3)))
		if levels < 4 {
			checkFormulaText(t, vars, f, wantFormulaText(vars, f))
		} else if got := impl.FormulaText(vars, f); got != "" {
			t.Errorf("with %d levels FormulaText is %q", levels, got)
		}
	}
	wide := formula(9, 0, 0, 0, slices.Repeat([]impl.Formula{sharedAt(3)}, 200000)...)
	deep := pathTo(1, 2)
	for range 200000 {
		deep = not(deep)
	}
	for _, f := range []impl.Formula{wide, deep, endless(9, 0, always()), not(endless(10, 0, sharedAt(3))), endless(11, 1, nextTo(1, 2)), endless(8, 0, always()), endless(math.MaxInt, 0, always())} {
		if got := impl.FormulaText(vars, f); got != "" {
			t.Errorf("FormulaText of what is no formula is %q", got)
		}
	}
}

// Neither the variables, nor the nodes, nor what is behind them in memory changes.
func TestFormulaTextsLeaveArgumentsAlone(t *testing.T) {
	for _, f := range append(validFormulas()[:2000], oddFormulas()[:2000]...) {
		roomy, names := roomyFormula(f), []string{"x", "on", "u", "spare", "xy"}
		vars := names[:3]
		text := impl.FormulaText(vars, roomy)
		impl.ParseFormula(vars, text)
		impl.ParseFormula(vars, text+")")
		impl.ParseFormula(vars, "on spare:u")
		if rawFormula(roomy) != rawFormula(f) || !isSpared(roomy) || !slices.Equal(names, []string{"x", "on", "u", "spare", "xy"}) {
			t.Fatalf("%s becomes %s, and the names %q", rawFormula(f), rawFormula(roomy), names)
		}
		checkNoFormula(t, vars, "on spare:u")
		checkNoFormula(t, vars, "on xy:u")
	}
}

// A change of one answer, also behind its Args, changes neither another one nor other parts of it.
func TestParsedFormulasShareNoMemory(t *testing.T) {
	vars := []string{"x", "y", "t"}
	for _, f := range validFormulas() {
		text, raw := wantFormulaText(vars, f), rawFormula(f)
		one, _ := impl.ParseFormula(vars, text)
		two, _ := impl.ParseFormula(vars, text)
		for i, part := range partsOf(&one) {
			part.K = 1000 + i
			spare := part.Args[len(part.Args):cap(part.Args)]
			for j := range spare {
				spare[j] = formula(77, 0, 0, 0)
			}
		}
		for i, part := range partsOf(&one) {
			if part.K != 1000+i || part.Kind == 77 {
				t.Fatalf("two parts of the formula of %q share memory", text)
			}
		}
		if rawFormula(two) != raw || impl.FormulaText(vars, two) != text {
			t.Fatalf("with one answer the other becomes %s", rawFormula(two))
		}
		checkFormulaText(t, vars, f, text)
	}
}

// An answer stays when the variables with which it was asked for change, and the next one is that of the new ones.
func TestFormulaTextsAreKeptNowhere(t *testing.T) {
	vars := []string{"x", "y"}
	f, ok := impl.ParseFormula(vars, "on y:u")
	text := impl.FormulaText(vars, f)
	vars[0], vars[1] = "y", "x"
	if rawFormula(f) != "(2 1 0 0)" || !ok || text != "on y:u" {
		t.Errorf("with the variables the answers become %s and %q", rawFormula(f), text)
	}
	checkFormulaText(t, vars, onVar(1, 0), "on x:u")
	checkFormulaText(t, vars, onVar(0, 0), "on y:u")
	vars[1] = "y"
	checkNoFormulaText(t, vars, always())
	checkNoFormula(t, vars, "true")
}
