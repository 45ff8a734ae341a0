package tests

import (
	"fmt"
	"math"
	"math/rand"
	"slices"
	"strings"
	"testing"

	"loop.example/g00590/impl"
)

// formulaKinds has a row for every kind: its number, its number of Args, and the letters of the fields that it uses.
var formulaKinds = []struct {
	name               string
	kind, number, args int
	uses               string
}{
	{"FmTrue", impl.FmTrue, 1, 0, ""},
	{"FmVar", impl.FmVar, 2, 0, "KU"},
	{"FmReach", impl.FmReach, 3, 0, "KU"},
	{"FmShared", impl.FmShared, 4, 0, "U"},
	{"FmNext", impl.FmNext, 5, 0, "UV"},
	{"FmSame", impl.FmSame, 6, 0, "UV"},
	{"FmPath", impl.FmPath, 7, 0, "UV"},
	{"FmNot", impl.FmNot, 8, 1, ""},
	{"FmAnd", impl.FmAnd, 9, 2, ""},
	{"FmOr", impl.FmOr, 10, 2, ""},
	{"FmSome", impl.FmSome, 11, 1, "U"},
	{"FmAll", impl.FmAll, 12, 1, "U"},
}

func formula(kind int, k int, u int, v int, args ...impl.Formula) impl.Formula {
	return impl.Formula{Kind: kind, K: k, U: u, V: v, Args: args}
}

func always() impl.Formula              { return formula(1, 0, 0, 0) }
func onVar(k int, u int) impl.Formula   { return formula(2, k, u, 0) }
func fromVar(k int, u int) impl.Formula { return formula(3, k, u, 0) }
func sharedAt(u int) impl.Formula       { return formula(4, 0, u, 0) }
func nextTo(u int, v int) impl.Formula  { return formula(5, 0, u, v) }
func sameAs(u int, v int) impl.Formula  { return formula(6, 0, u, v) }
func pathTo(u int, v int) impl.Formula  { return formula(7, 0, u, v) }

func not(f impl.Formula) impl.Formula                    { return formula(8, 0, 0, 0, f) }
func both(a impl.Formula, b impl.Formula) impl.Formula   { return formula(9, 0, 0, 0, a, b) }
func either(a impl.Formula, b impl.Formula) impl.Formula { return formula(10, 0, 0, 0, a, b) }
func some(u int, f impl.Formula) impl.Formula            { return formula(11, 0, u, 0, f) }
func all(u int, f impl.Formula) impl.Formula             { return formula(12, 0, u, 0, f) }

// nestings lists the ways in which a formula can be the part of another one.
var nestings = []func(part impl.Formula) impl.Formula{
	func(part impl.Formula) impl.Formula { return not(part) },
	func(part impl.Formula) impl.Formula { return both(part, always()) },
	func(part impl.Formula) impl.Formula { return both(always(), part) },
	func(part impl.Formula) impl.Formula { return either(part, nextTo(3, 2)) },
	func(part impl.Formula) impl.Formula { return either(sharedAt(1), part) },
	func(part impl.Formula) impl.Formula { return some(0, part) },
	func(part impl.Formula) impl.Formula { return some(3, part) },
	func(part impl.Formula) impl.Formula { return all(1, part) },
}

// leaves lists formulas without Args, over at least three program variables.
func leaves() []impl.Formula {
	return []impl.Formula{always(), onVar(0, 0), onVar(2, 3), fromVar(1, 1), sharedAt(2), nextTo(0, 1), nextTo(3, 3), sameAs(1, 2), pathTo(2, 0)}
}

// nestedOnce returns each kind with each of the formulas, or each two of them, as its Args.
func nestedOnce(parts []impl.Formula) []impl.Formula {
	var list []impl.Formula
	for _, a := range parts {
		list = append(list, not(a))
		for u := range 4 {
			list = append(list, some(u, a), all(u, a))
		}
		for _, b := range parts {
			list = append(list, both(a, b), either(a, b))
		}
	}
	return list
}

// validFormulas lists formulas of all kinds, nested in each other, over three program variables.
func validFormulas() []impl.Formula {
	list := append(leaves(), nestedOnce(leaves())...)
	for _, f := range nestedOnce(leaves()[1:6]) {
		for _, nest := range nestings {
			for _, again := range nestings {
				list = append(list, again(nest(f)))
			}
		}
	}
	return append(list, some(1, both(onVar(2, 1), nextTo(1, 0))), all(0, not(both(fromVar(0, 0), fromVar(1, 0)))), formulaOfSize(40), formulaOfDepth(12, 0))
}

// oddFormulas lists what is no formula, and some formulas, with any kinds, numbers and numbers of Args.
func oddFormulas() []impl.Formula {
	random := rand.New(rand.NewSource(10))
	var list []impl.Formula
	for range 20000 {
		list = append(list, oddFormula(random, random.Intn(6)))
	}
	return list
}

func oddFormula(random *rand.Rand, levels int) impl.Formula {
	kind := random.Intn(14)
	f := formula(kind, random.Intn(3), random.Intn(6)-1, random.Intn(6)-1)
	count := random.Intn(4)
	if kind >= 1 && kind <= 12 && random.Intn(4) > 0 {
		count = formulaKinds[kind-1].args
	}
	if levels > 0 {
		for range count {
			f.Args = append(f.Args, oddFormula(random, levels-1))
		}
	}
	return f
}

// formulaOfSize returns a formula with so many nodes that is as flat as can be.
func formulaOfSize(nodes int) impl.Formula {
	switch nodes {
	case 1:
		return onVar(0, 1)
	case 2:
		return some(1, onVar(0, 1))
	}
	left := (nodes - 1) / 2
	return either(formulaOfSize(left), formulaOfSize(nodes-1-left))
}

// formulaOfDepth returns a formula of a depth that is nested in one of the ways alone.
func formulaOfDepth(depth int, way int) impl.Formula {
	f := pathTo(0, 3)
	for range depth - 1 {
		f = nestings[way](f)
	}
	return f
}

func cloneFormula(f impl.Formula) impl.Formula {
	f.Args = slices.Clone(f.Args)
	for i := range f.Args {
		f.Args[i] = cloneFormula(f.Args[i])
	}
	return f
}

// partsOf returns where the nodes of a formula stand, beginning with itself.
func partsOf(f *impl.Formula) []*impl.Formula {
	list := []*impl.Formula{f}
	for i := range f.Args {
		list = append(list, partsOf(&f.Args[i])...)
	}
	return list
}

// changedParts returns a formula in which a change is made at one of its nodes, for each of them.
func changedParts(f impl.Formula, change func(part *impl.Formula)) []impl.Formula {
	var list []impl.Formula
	for i := range partsOf(&f) {
		whole := cloneFormula(f)
		change(partsOf(&whole)[i])
		list = append(list, whole)
	}
	return list
}

// rawFormula writes all fields of a formula, which may be none.
func rawFormula(f impl.Formula) string {
	var text strings.Builder
	fmt.Fprintf(&text, "(%d %d %d %d", f.Kind, f.K, f.U, f.V)
	for _, arg := range f.Args {
		text.WriteString(rawFormula(arg))
	}
	return text.String() + ")"
}

func wantSize(f impl.Formula) int {
	size := 1
	for _, arg := range f.Args {
		size += wantSize(arg)
	}
	return size
}

func wantDepth(f impl.Formula) int {
	deepest := 0
	for _, arg := range f.Args {
		deepest = max(deepest, wantDepth(arg))
	}
	return deepest + 1
}

// wantNode tells by the table of kinds whether a node has one of the forms.
func wantNode(vars int, f impl.Formula) bool {
	if f.Kind < 1 || f.Kind > 12 {
		return false
	}
	row := formulaKinds[f.Kind-1]
	fits := func(letter string, n int, limit int) bool {
		if strings.Contains(row.uses, letter) {
			return 0 <= n && n < limit
		}
		return n == 0
	}
	return len(f.Args) == row.args && fits("K", f.K, vars) && fits("U", f.U, 4) && fits("V", f.V, 4)
}

func wantIsFormula(vars int, f impl.Formula) bool {
	for _, part := range partsOf(&f) {
		if !wantNode(vars, *part) {
			return false
		}
	}
	return wantSize(f) <= 40 && wantDepth(f) <= 12
}

// wantFree goes from the inside to the outside: it takes what a node binds from what its Args leave free.
func wantFree(f impl.Formula) [4]bool {
	var free [4]bool
	for _, arg := range f.Args {
		for n, isFree := range wantFree(arg) {
			free[n] = free[n] || isFree
		}
	}
	set := func(n int, value bool) {
		if 0 <= n && n < 4 {
			free[n] = value
		}
	}
	switch f.Kind {
	case 2, 3, 4:
		set(f.U, true)
	case 5, 6, 7:
		set(f.U, true)
		set(f.V, true)
	case 11, 12:
		set(f.U, false)
	}
	return free
}

func checkMeasures(t *testing.T, f impl.Formula, size int, depth int) {
	t.Helper()
	if got := impl.SizeOf(f); got != size {
		t.Errorf("SizeOf%s = %d, want %d", rawFormula(f), got, size)
	}
	if got := impl.DepthOf(f); got != depth {
		t.Errorf("DepthOf%s = %d, want %d", rawFormula(f), got, depth)
	}
}

func checkIsFormula(t *testing.T, vars int, f impl.Formula, want bool) {
	t.Helper()
	if got := impl.IsFormula(vars, f); got != want {
		t.Errorf("IsFormula(%d, %s) = %t", vars, rawFormula(f), got)
	}
}

func checkFree(t *testing.T, f impl.Formula, want ...int) {
	t.Helper()
	if got := impl.FreeLogic(f); !slices.Equal(got, want) {
		t.Errorf("FreeLogic%s = %v, want %v", rawFormula(f), got, want)
	}
}

func checkWantedFree(t *testing.T, f impl.Formula) {
	t.Helper()
	var want []int
	for n, isFree := range wantFree(f) {
		if isFree {
			want = append(want, n)
		}
	}
	checkFree(t, f, want...)
}

func checkEqualFormula(t *testing.T, a impl.Formula, b impl.Formula, want bool) {
	t.Helper()
	if impl.EqualFormula(a, b) != want || impl.EqualFormula(b, a) != want {
		t.Errorf("EqualFormula(%s, %s) = %t, %t, want %t", rawFormula(a), rawFormula(b), impl.EqualFormula(a, b), impl.EqualFormula(b, a), want)
	}
}

func TestConstantsOfFormulas(t *testing.T) {
	if impl.MaxFormula != 40 || impl.MaxDepth != 12 || impl.LogicVars != 4 {
		t.Errorf("MaxFormula, MaxDepth, LogicVars = %d, %d, %d", impl.MaxFormula, impl.MaxDepth, impl.LogicVars)
	}
	for _, c := range formulaKinds {
		if c.kind != c.number {
			t.Errorf("%s = %d, want %d", c.name, c.kind, c.number)
		}
	}
}

func TestArityOf(t *testing.T) {
	for _, c := range formulaKinds {
		if got := impl.ArityOf(c.number); got != c.args {
			t.Errorf("ArityOf(%s) = %d, want %d", c.name, got, c.args)
		}
	}
	for _, kind := range nonKinds {
		if got := impl.ArityOf(kind); got != -1 {
			t.Errorf("ArityOf(%d) = %d, want -1", kind, got)
		}
	}
	for kind := -1000; kind <= 1000; kind++ {
		if got := impl.ArityOf(kind); (got == -1) != (kind < 1 || kind > 12) {
			t.Errorf("ArityOf(%d) = %d", kind, got)
		}
	}
}

func TestListedMeasures(t *testing.T) {
	cases := []struct {
		f           impl.Formula
		size, depth int
	}{
		{impl.Formula{}, 1, 1},
		{always(), 1, 1},
		{pathTo(1, 2), 1, 1},
		{not(always()), 2, 2},
		{both(always(), always()), 3, 2},
		{either(not(always()), always()), 4, 3},
		{either(always(), not(always())), 4, 3},
		{some(1, both(onVar(2, 1), nextTo(1, 0))), 4, 3},
		{all(0, not(both(fromVar(0, 0), fromVar(1, 0)))), 5, 4},
		{both(both(always(), always()), both(always(), always())), 7, 3},
		{both(both(both(always(), always()), always()), always()), 7, 4},
		{both(always(), both(always(), both(always(), always()))), 7, 4},
		{some(0, all(1, some(2, all(3, not(always()))))), 6, 6},
	}
	for _, c := range cases {
		checkMeasures(t, c.f, c.size, c.depth)
		checkIsFormula(t, 3, c.f, c.f.Kind != 0)
	}
}

// Promise 10, where the sizes and depths of the Args are those that the program says.
func TestSizesAreThoseOfTheParts(t *testing.T) {
	for _, f := range append(validFormulas(), oddFormulas()...) {
		for _, part := range partsOf(&f) {
			size, depth := 1, 1
			for _, arg := range part.Args {
				size += impl.SizeOf(arg)
				depth = max(depth, impl.DepthOf(arg)+1)
			}
			checkMeasures(t, *part, size, depth)
		}
		checkMeasures(t, f, wantSize(f), wantDepth(f))
	}
}

// Without Args a formula has size and depth 1, also where its kind should have some, or is none.
func TestMeasuresWithoutArgs(t *testing.T) {
	for _, kind := range append([]int{1, 2, 3, 4, 5, 6, 7, 8, 9, 10, 11, 12}, nonKinds...) {
		for _, n := range []int{0, 1, -1, 4, math.MinInt, math.MaxInt} {
			checkMeasures(t, formula(kind, n, n, n), 1, 1)
			checkMeasures(t, impl.Formula{Kind: kind, U: n, Args: []impl.Formula{}}, 1, 1)
		}
	}
}

// Every one of the Args counts, whatever their number should be.
func TestMeasuresOfAnyNumberOfArgs(t *testing.T) {
	for _, kind := range append([]int{1, 2, 3, 4, 5, 6, 7, 8, 9, 10, 11, 12}, nonKinds...) {
		for count := 1; count <= 50; count++ {
			checkMeasures(t, formula(kind, 0, 0, 0, slices.Repeat(leaves()[:1], count)...), count+1, 2)
		}
		for deep := range 4 {
			args := slices.Repeat(leaves()[:1], 4)
			args[deep] = formula(kind, 0, 0, 0, not(always()), always(), always())
			checkMeasures(t, formula(kind, 0, 0, 0, args...), 9, 4)
		}
	}
}

func TestValidFormulas(t *testing.T) {
	for _, f := range validFormulas() {
		checkIsFormula(t, 3, f, true)
		checkIsFormula(t, 4, f, true)
		for vars := -1; vars < 3; vars++ {
			checkIsFormula(t, vars, f, wantIsFormula(vars, f))
		}
	}
}

func TestOddFormulas(t *testing.T) {
	valid := 0
	for _, f := range oddFormulas() {
		for vars := 0; vars <= 3; vars++ {
			checkIsFormula(t, vars, f, wantIsFormula(vars, f))
		}
		if wantIsFormula(3, f) {
			valid++
		}
	}
	if valid < 100 {
		t.Errorf("only %d formulas are valid", valid)
	}
}

func TestGreatestSize(t *testing.T) {
	for nodes := 1; nodes <= 100; nodes++ {
		f := formulaOfSize(nodes)
		if depth := wantDepth(f); wantSize(f) != nodes || depth > 7 {
			t.Fatalf("formulaOfSize(%d) has %d nodes and the depth %d", nodes, wantSize(f), depth)
		}
		checkIsFormula(t, 1, f, nodes <= 40)
		checkIsFormula(t, 1, not(f), nodes <= 39)
		checkIsFormula(t, 1, both(always(), f), nodes <= 38)
		checkIsFormula(t, 1, both(f, always()), nodes <= 38)
	}
}

func TestGreatestDepth(t *testing.T) {
	for way := range nestings {
		for depth := 1; depth <= 30; depth++ {
			f := formulaOfDepth(depth, way)
			checkIsFormula(t, 1, f, depth <= 12)
			checkIsFormula(t, 1, both(always(), f), depth <= 11)
			checkIsFormula(t, 1, both(f, always()), depth <= 11)
			checkIsFormula(t, 1, either(formulaOfDepth(3, 2), f), depth <= 11)
		}
	}
}

// Both limits are met, or one of them is missed by one.
func TestSizeAndDepthTogether(t *testing.T) {
	for way := range nestings {
		deep, deeper := formulaOfDepth(11, way), formulaOfDepth(12, way)
		flat := 40 - 1 - wantSize(deep)
		checkIsFormula(t, 1, both(deep, formulaOfSize(flat)), true)
		checkIsFormula(t, 1, both(formulaOfSize(flat), deep), true)
		checkIsFormula(t, 1, either(deep, formulaOfSize(flat+1)), false)
		checkIsFormula(t, 1, either(formulaOfSize(flat+1), deep), false)
		flat = 40 - 1 - wantSize(deeper)
		checkIsFormula(t, 1, both(deeper, formulaOfSize(flat)), false)
		checkIsFormula(t, 1, both(formulaOfSize(flat), deeper), false)
	}
}

// outside lists numbers that are not from 0 to 3; the low bits of some are those of one.
var outside = []int{-1, 4, 5, -2, -3, -4, 8, 256, -256, 257, 1 << 32, 1<<32 + 1, -1 << 32, 1 - 1<<32, math.MinInt, math.MinInt + 1, math.MaxInt, math.MaxInt - 3, math.MaxInt32, math.MinInt32}

// nodesOf returns a valid node of each kind over one program variable.
func nodesOf() []impl.Formula {
	var list []impl.Formula
	for _, c := range formulaKinds {
		list = append(list, formula(c.number, 0, 0, 0, slices.Repeat(leaves()[:1], c.args)...))
	}
	return list
}

// checkWithin compares IsFormula of a formula, and of others of which it is a part, with what is wanted of all of them.
func checkWithin(t *testing.T, vars int, f impl.Formula, want bool) {
	t.Helper()
	checkIsFormula(t, vars, f, want)
	for _, nest := range nestings {
		checkIsFormula(t, vars, nest(f), want)
		checkIsFormula(t, vars, nestings[2](nestings[5](nest(f))), want)
	}
}

func TestProgramVariablesOfFormulas(t *testing.T) {
	for _, kind := range []int{2, 3} {
		for vars := -2; vars <= 6; vars++ {
			for k := -3; k <= 8; k++ {
				checkWithin(t, vars, formula(kind, k, 1, 0), k >= 0 && k < vars)
			}
			for _, k := range []int{math.MinInt, math.MaxInt, -1 << 32, 1 << 32, 1<<32 + 1, 256} {
				checkWithin(t, vars, formula(kind, k, 1, 0), false)
			}
		}
		for _, vars := range []int{math.MinInt, math.MinInt + 1, -1 << 32, -1} {
			for _, k := range []int{0, 1, -1, vars, vars - 1, math.MaxInt} {
				checkWithin(t, vars, formula(kind, k, 0, 0), false)
			}
		}
		checkWithin(t, math.MaxInt, formula(kind, math.MaxInt-1, 0, 0), true)
		checkWithin(t, math.MaxInt, formula(kind, math.MaxInt, 0, 0), false)
	}
}

// Only the kinds that speak of a program variable need one.
func TestFormulasWithoutProgramVariables(t *testing.T) {
	for _, vars := range []int{0, -1, math.MinInt, 1, math.MaxInt} {
		for i, f := range nodesOf() {
			number := i + 1
			checkWithin(t, vars, f, vars > 0 || number != 2 && number != 3)
		}
	}
}

func TestLogicVariablesOfFormulas(t *testing.T) {
	for i, f := range nodesOf() {
		for n := range 4 {
			usesU, usesV := strings.Contains(formulaKinds[i].uses, "U"), strings.Contains(formulaKinds[i].uses, "V")
			one, two := f, f
			one.U, two.V = n, n
			checkWithin(t, 1, one, n == 0 || usesU)
			checkWithin(t, 1, two, n == 0 || usesV)
			one.V = 3 - n
			checkWithin(t, 1, one, (n == 0 || usesU) && (n == 3 || usesV))
		}
		for _, n := range outside {
			one, two := f, f
			one.U, two.V = n, n
			checkWithin(t, 1, one, false)
			checkWithin(t, 1, two, false)
			one.V = 3
			checkWithin(t, 1, one, false)
		}
	}
}

// A kind that does not use a field has zero there, however valid another number were for other kinds.
func TestFieldsThatAreNotUsed(t *testing.T) {
	for i, f := range nodesOf() {
		uses := formulaKinds[i].uses
		for _, n := range append([]int{1, 2, 3}, outside...) {
			k, u, v := f, f, f
			k.K, u.U, v.V = n, n, n
			if !strings.Contains(uses, "K") {
				checkWithin(t, 4, k, false)
			}
			if !strings.Contains(uses, "U") {
				checkWithin(t, 4, u, false)
			}
			if !strings.Contains(uses, "V") {
				checkWithin(t, 4, v, false)
			}
		}
	}
}

func TestNumbersOfArgs(t *testing.T) {
	for i, f := range nodesOf() {
		for count := range 50 {
			f.Args = slices.Repeat(leaves()[:1], count)
			checkWithin(t, 1, f, count == formulaKinds[i].args)
		}
		f.Args = nil
		checkWithin(t, 1, f, formulaKinds[i].args == 0)
	}
}

func TestKindsThatAreNone(t *testing.T) {
	for _, kind := range nonKinds {
		for count := range 4 {
			args := slices.Repeat(leaves()[:1], count)
			checkWithin(t, 4, formula(kind, 0, 0, 0, args...), false)
			checkWithin(t, 4, formula(kind, 1, 2, 3, args...), false)
		}
	}
}

// wrongParts lists changes that make a node of a formula over three program variables none.
var wrongParts = []func(part *impl.Formula){
	func(part *impl.Formula) { part.Kind = 0 },
	func(part *impl.Formula) { part.Kind = 13 },
	func(part *impl.Formula) { part.Kind = -part.Kind },
	func(part *impl.Formula) { part.K = 3 },
	func(part *impl.Formula) { part.K = -1 },
	func(part *impl.Formula) { part.U = 4 },
	func(part *impl.Formula) { part.U = -1 },
	func(part *impl.Formula) { part.V = 4 },
	func(part *impl.Formula) { part.V = -1 },
	func(part *impl.Formula) { part.Args = append(part.Args, sharedAt(1)) },
	func(part *impl.Formula) { part.Args = append(part.Args, sharedAt(1), always(), always()) },
}

// One part that is no formula is enough, wherever it stands.
func TestOneWrongPart(t *testing.T) {
	for i, f := range validFormulas() {
		if i%3 != 0 {
			continue
		}
		for _, change := range wrongParts {
			for _, whole := range changedParts(f, change) {
				checkIsFormula(t, 3, whole, false)
			}
		}
		for at, whole := range changedParts(f, func(part *impl.Formula) { part.Args = nil }) {
			checkIsFormula(t, 3, whole, len(partsOf(&f)[at].Args) == 0)
		}
	}
}

func TestNoArgsAreNilOrEmpty(t *testing.T) {
	for _, f := range validFormulas() {
		empty := cloneFormula(f)
		for _, part := range partsOf(&empty) {
			if len(part.Args) == 0 {
				part.Args = []impl.Formula{}
			}
		}
		checkEqualFormula(t, f, empty, true)
		checkIsFormula(t, 3, empty, true)
		checkMeasures(t, empty, wantSize(f), wantDepth(f))
		checkWantedFree(t, empty)
		for i := range partsOf(&f) {
			half := cloneFormula(f)
			if part := partsOf(&half)[i]; len(part.Args) == 0 {
				part.Args = make([]impl.Formula, 0, 5)
				checkEqualFormula(t, f, half, true)
			}
		}
	}
}

func TestFreeLogicOfNodes(t *testing.T) {
	checkFree(t, always())
	for u := range 4 {
		for k := range 4 {
			checkFree(t, onVar(k, u), u)
			checkFree(t, fromVar(k, u), u)
		}
		checkFree(t, sharedAt(u), u)
		for v := range 4 {
			for _, f := range []impl.Formula{nextTo(u, v), sameAs(u, v), pathTo(u, v)} {
				if u == v {
					checkFree(t, f, u)
				} else {
					checkFree(t, f, min(u, v), max(u, v))
				}
			}
		}
	}
}

func TestFreeLogicOfListedFormulas(t *testing.T) {
	x, y := onVar(0, 0), onVar(0, 1)
	checkFree(t, both(pathTo(3, 1), either(sharedAt(2), nextTo(0, 3))), 0, 1, 2, 3)
	checkFree(t, both(sharedAt(3), both(sharedAt(1), sharedAt(3))), 1, 3)
	checkFree(t, not(nextTo(2, 0)), 0, 2)
	checkFree(t, not(always()))

	// Bound: nothing, one of two, both.
	checkFree(t, some(0, always()))
	checkFree(t, all(3, always()))
	checkFree(t, some(1, both(onVar(2, 1), nextTo(1, 0))), 0)
	checkFree(t, both(onVar(2, 1), nextTo(1, 0)), 0, 1)
	checkFree(t, some(0, pathTo(0, 2)), 2)
	checkFree(t, all(2, pathTo(0, 2)), 0)
	checkFree(t, all(2, some(0, pathTo(0, 2))))
	checkFree(t, some(0, all(2, pathTo(0, 2))))
	checkFree(t, some(1, sameAs(1, 1)))

	// Both bound and free: before the bound part, behind it, around it, and bound in one of the Args alone.
	checkFree(t, both(x, some(0, x)), 0)
	checkFree(t, both(some(0, x), x), 0)
	checkFree(t, either(all(0, x), nextTo(0, 1)), 0, 1)
	checkFree(t, both(both(x, all(0, x)), y), 0, 1)
	checkFree(t, both(some(0, x), some(1, y)))
	checkFree(t, both(some(0, y), some(1, x)), 0, 1)
	checkFree(t, both(some(0, some(1, nextTo(0, 1))), sharedAt(1)), 1)
	checkFree(t, both(sharedAt(1), some(0, some(1, nextTo(0, 1)))), 1)
	checkFree(t, some(1, both(some(0, nextTo(0, 1)), x)), 0)
	checkFree(t, some(1, both(x, some(0, nextTo(0, 1)))), 0)
	checkFree(t, not(both(some(2, sharedAt(2)), not(sharedAt(2)))), 2)

	// Bound twice: in each other, also by the other kind, and side by side.
	checkFree(t, some(0, some(0, x)))
	checkFree(t, some(0, all(0, both(x, y))), 1)
	checkFree(t, all(0, some(0, some(0, nextTo(0, 3)))), 3)
	checkFree(t, both(some(0, x), all(0, x)))
	checkFree(t, either(some(0, nextTo(0, 2)), some(0, nextTo(3, 0))), 2, 3)
	checkFree(t, both(both(all(0, x), all(0, x)), x), 0)

	// The inner one hides the outer one, which is bound behind it still.
	checkFree(t, some(0, both(some(0, x), x)))
	checkFree(t, some(0, both(x, all(0, x))))
	checkFree(t, some(0, both(all(1, some(0, nextTo(0, 1))), nextTo(0, 1))), 1)

	// One that does not occur where it is bound, and one that is free only there.
	checkFree(t, some(0, y), 1)
	checkFree(t, all(1, x), 0)
	checkFree(t, some(0, some(1, some(2, sharedAt(3)))), 3)
	checkFree(t, some(2, some(1, some(0, always()))))
	checkFree(t, both(some(0, always()), y), 1)
}

func TestFreeLogicOfFormulas(t *testing.T) {
	for _, f := range append(validFormulas(), oddFormulas()...) {
		checkWantedFree(t, f)
	}
}

// What is bound around a formula is no longer free in it; all others stay.
func TestBoundLogicVariablesAreNotFree(t *testing.T) {
	for _, f := range append(validFormulas(), oddFormulas()...) {
		free := impl.FreeLogic(f)
		for u := range 4 {
			rest := slices.DeleteFunc(slices.Clone(free), func(n int) bool { return n == u })
			checkFree(t, some(u, f), rest...)
			checkFree(t, all(u, f), rest...)
		}
		checkFree(t, not(f), free...)
		checkFree(t, both(f, always()), free...)
		checkFree(t, either(some(0, all(1, some(2, all(3, f)))), f), free...)
	}
}

// Numbers that are no logic variables neither occur nor are bound.
func TestNoLogicVariables(t *testing.T) {
	for _, n := range outside {
		for _, f := range []impl.Formula{onVar(0, n), fromVar(0, n), sharedAt(n), nextTo(n, n), sameAs(n, n), pathTo(n, n)} {
			checkFree(t, f)
			checkFree(t, both(f, sharedAt(3)), 3)
			checkFree(t, some(0, f))
		}
		for _, kind := range []int{5, 6, 7} {
			checkFree(t, formula(kind, 0, n, 2), 2)
			checkFree(t, formula(kind, 0, 1, n), 1)
			checkFree(t, some(1, formula(kind, 0, 1, n)))
		}
		for u := range 4 {
			checkFree(t, some(n, sharedAt(u)), u)
			checkFree(t, all(n, sharedAt(u)), u)
			checkFree(t, all(u, some(n, sharedAt(u))))
			checkFree(t, some(n, all(u, nextTo(u, 3-u))), 3-u)
		}
		checkFree(t, some(n, sharedAt(n)))
		checkFree(t, all(n, pathTo(0, 3)), 0, 3)
	}
}

// A field that a kind does not use has no logic variable, and the number of a program variable is none.
func TestUnusedFieldsAreNotFree(t *testing.T) {
	checkFree(t, formula(1, 1, 2, 3))
	checkFree(t, formula(2, 1, 2, 3), 2)
	checkFree(t, formula(3, 3, 0, 1), 0)
	checkFree(t, formula(4, 2, 1, 3), 1)
	checkFree(t, formula(5, 3, 1, 2), 1, 2)
	checkFree(t, formula(8, 1, 2, 3, sharedAt(0)), 0)
	checkFree(t, formula(8, 1, 2, 3, sharedAt(2)), 2)
	checkFree(t, formula(9, 1, 2, 3, sharedAt(1), sharedAt(2)), 1, 2)
	checkFree(t, formula(10, 1, 2, 3, sharedAt(0), sharedAt(2)), 0, 2)
	checkFree(t, formula(11, 1, 2, 3, nextTo(1, 3)), 1, 3)
	checkFree(t, formula(12, 1, 2, 3, nextTo(1, 2)), 1)
}

// The Args count, whatever their number should be, and the kind binds or uses what it does with the right number.
func TestFreeLogicOfAnyNumberOfArgs(t *testing.T) {
	checkFree(t, formula(1, 0, 0, 0, sharedAt(2), sharedAt(1)), 1, 2)
	checkFree(t, formula(2, 0, 0, 0, sharedAt(2)), 0, 2)
	checkFree(t, formula(4, 0, 3, 0, some(3, sharedAt(3)), some(1, nextTo(1, 2))), 2, 3)
	checkFree(t, formula(5, 0, 0, 1, sharedAt(1), sharedAt(3)), 0, 1, 3)
	checkFree(t, formula(8, 0, 0, 0))
	checkFree(t, formula(8, 0, 0, 0, sharedAt(0), sharedAt(1)), 0, 1)
	checkFree(t, formula(9, 0, 0, 0))
	checkFree(t, formula(9, 0, 0, 0, sharedAt(3)), 3)
	checkFree(t, formula(10, 0, 0, 0, sharedAt(3), sharedAt(0), sharedAt(2)), 0, 2, 3)
	checkFree(t, formula(11, 0, 1, 0))
	checkFree(t, formula(11, 0, 1, 0, sharedAt(1), sharedAt(1), nextTo(0, 1)), 0)
	checkFree(t, formula(12, 0, 1, 0))
	checkFree(t, formula(12, 0, 1, 0, sharedAt(2), sharedAt(1)), 2)
}

// What is no kind uses no field and binds nothing, but has its Args.
func TestFreeLogicOfKindsThatAreNone(t *testing.T) {
	for _, kind := range nonKinds {
		checkFree(t, formula(kind, 1, 2, 3))
		checkFree(t, formula(kind, 0, 0, 0, sharedAt(0)), 0)
		checkFree(t, formula(kind, 1, 2, 3, sharedAt(2), some(1, nextTo(1, 3))), 2, 3)
		checkFree(t, some(2, formula(kind, 2, 2, 2, nextTo(2, 0))), 0)
	}
}

func TestEqualFormulaOfPairs(t *testing.T) {
	list := append(leaves(), nestedOnce(leaves()[:5])...)
	list = append(list, oddFormulas()[:300]...)
	for _, a := range list {
		for _, b := range list {
			checkEqualFormula(t, a, cloneFormula(b), rawFormula(a) == rawFormula(b))
		}
	}
}

func TestEqualFormulaOfOneChange(t *testing.T) {
	for i, f := range append(validFormulas(), oddFormulas()[:2000]...) {
		checkEqualFormula(t, f, f, true)
		checkEqualFormula(t, f, cloneFormula(f), true)
		if i%5 != 0 {
			continue
		}
		for _, step := range []int{1, -1, 1 << 32, math.MinInt} {
			changes := []func(part *impl.Formula){
				func(part *impl.Formula) { part.Kind += step },
				func(part *impl.Formula) { part.K += step },
				func(part *impl.Formula) { part.U += step },
				func(part *impl.Formula) { part.V += step },
			}
			for _, change := range changes {
				for _, whole := range changedParts(f, change) {
					checkEqualFormula(t, f, whole, false)
				}
			}
		}
	}
}

func TestEqualFormulaOfOtherArgs(t *testing.T) {
	for _, f := range append(validFormulas()[:500], oddFormulas()[:1000]...) {
		changes := []func(part *impl.Formula){
			func(part *impl.Formula) { part.Args = append(part.Args, impl.Formula{}) },
			func(part *impl.Formula) { part.Args = append([]impl.Formula{{}}, part.Args...) },
			func(part *impl.Formula) { part.Args = append(part.Args, part.Args...) },
			func(part *impl.Formula) { part.Args = part.Args[:max(0, len(part.Args)-1)] },
			func(part *impl.Formula) { part.Args = part.Args[min(1, len(part.Args)):] },
			func(part *impl.Formula) { part.Args = nil },
			func(part *impl.Formula) { slices.Reverse(part.Args) },
		}
		for _, change := range changes {
			for _, whole := range changedParts(f, change) {
				checkEqualFormula(t, f, whole, rawFormula(f) == rawFormula(whole))
			}
		}
	}
	checkEqualFormula(t, both(sharedAt(0), sharedAt(1)), both(sharedAt(1), sharedAt(0)), false)
	checkEqualFormula(t, some(0, either(always(), not(always()))), some(0, either(not(always()), always())), false)
	// The same nodes, but not the same Args of each.
	checkEqualFormula(t, both(both(always(), always()), always()), both(always(), both(always(), always())), false)
	checkEqualFormula(t, impl.Formula{}, impl.Formula{Args: []impl.Formula{}}, true)
	checkEqualFormula(t, impl.Formula{}, impl.Formula{Args: []impl.Formula{{}}}, false)
}

// doubled returns a formula with so many levels above the last one, where both Args have the same Args in memory.
func doubled(levels int, last impl.Formula) impl.Formula {
	f := last
	for range levels {
		f = both(f, f)
	}
	return f
}

// Parts that share their memory count wherever they occur.
func TestPartsThatShareMemory(t *testing.T) {
	for levels := range 100 {
		f, size := doubled(levels, some(0, nextTo(0, 3))), math.MaxInt
		if levels < 62 {
			size = 3<<levels - 1
		}
		if got := impl.SizeOf(f); got != size {
			t.Errorf("with %d levels SizeOf is %d, want %d", levels, got, size)
		}
		if got := impl.DepthOf(f); got != levels+2 {
			t.Errorf("with %d levels DepthOf is %d, want %d", levels, got, levels+2)
		}
		if got := impl.FreeLogic(f); !slices.Equal(got, []int{3}) {
			t.Errorf("with %d levels FreeLogic is %v", levels, got)
		}
		if got := impl.IsFormula(4, f); got != (size <= 40) {
			t.Errorf("with %d levels IsFormula is %t", levels, got)
		}
		if !impl.EqualFormula(f, doubled(levels, some(0, nextTo(0, 3)))) || impl.EqualFormula(f, doubled(levels, some(0, nextTo(0, 2)))) || impl.EqualFormula(f, both(f, f)) {
			t.Errorf("with %d levels EqualFormula is wrong", levels)
		}
	}
	// A part is bound in one place, and free in another one.
	part := not(both(sharedAt(1), sharedAt(2)))
	checkFree(t, both(some(1, part), some(2, part)), 1, 2)
	checkFree(t, some(1, both(some(2, part), part)), 2)
	checkFree(t, both(all(1, some(2, part)), all(2, some(1, part))))
	checkMeasures(t, both(some(1, part), part), 10, 5)
	// Args that are a part of each other's memory.
	list := []impl.Formula{sharedAt(0), sharedAt(1), nextTo(0, 2)}
	checkMeasures(t, both(formula(9, 0, 0, 0, list[:2]...), formula(9, 0, 0, 0, list[1:]...)), 7, 3)
	checkFree(t, both(formula(9, 0, 0, 0, list[:2]...), some(1, formula(9, 0, 0, 0, list[1:]...))), 0, 1, 2)
	checkEqualFormula(t, formula(9, 0, 0, 0, list[:2]...), formula(9, 0, 0, 0, list[1:]...), false)
}

// A size for which there is no int is the greatest one, also where the count would come round to a small one again.
func TestSizesBeyondInt(t *testing.T) {
	for _, count := range []int{5, 10, 100} {
		f, size := always(), 1
		for depth := 2; depth <= 30; depth++ {
			f = formula(9, 0, 0, 0, slices.Repeat([]impl.Formula{f}, count)...)
			if size > (math.MaxInt-1)/count {
				size = math.MaxInt
			} else {
				size = size*count + 1
			}
			if impl.SizeOf(f) != size || impl.DepthOf(f) != depth || impl.IsFormula(1, f) {
				t.Errorf("with %d Args at %d depths SizeOf is %d, want %d, and DepthOf %d", count, depth, impl.SizeOf(f), size, impl.DepthOf(f))
			}
		}
	}
}

// endless returns a node that is one of its own Args, with another one before it.
func endless(kind int, u int, before impl.Formula) impl.Formula {
	args := []impl.Formula{before, {Kind: kind, U: u}}
	args[1].Args = args
	return args[1]
}

// What has itself within it has no size, but every call comes to an end.
func TestPartsWithinThemselves(t *testing.T) {
	for _, f := range []impl.Formula{endless(9, 0, nextTo(1, 2)), endless(11, 1, nextTo(1, 2)), both(always(), endless(10, 0, sharedAt(3))), not(endless(8, 0, always()))} {
		if impl.IsFormula(4, f) || impl.SizeOf(f) != math.MaxInt || impl.DepthOf(f) != math.MaxInt {
			t.Errorf("an endless formula has IsFormula %t, SizeOf %d, DepthOf %d", impl.IsFormula(4, f), impl.SizeOf(f), impl.DepthOf(f))
		}
		if !impl.EqualFormula(f, f) || impl.EqualFormula(f, always()) || impl.EqualFormula(not(f), f) {
			t.Error("EqualFormula of an endless formula")
		}
	}
	bound := endless(11, 1, nextTo(1, 2))
	if !slices.Equal(impl.FreeLogic(endless(9, 0, nextTo(1, 2))), []int{1, 2}) || !slices.Equal(impl.FreeLogic(bound), []int{2}) {
		t.Error("FreeLogic of an endless formula")
	}
	if !impl.EqualFormula(bound, endless(11, 1, nextTo(1, 2))) || impl.EqualFormula(bound, endless(11, 1, nextTo(1, 3))) || impl.EqualFormula(bound, endless(11, 2, nextTo(1, 2))) {
		t.Error("EqualFormula of two endless formulas")
	}
}

func TestLargeFormulas(t *testing.T) {
	const count = 200000
	deep := pathTo(1, 2)
	for range count {
		deep = not(deep)
	}
	wide := formula(9, 0, 0, 0, slices.Repeat([]impl.Formula{sharedAt(3)}, count)...)
	wide.Args[count-1] = sharedAt(0)
	for _, f := range []impl.Formula{deep, wide} {
		if impl.SizeOf(f) != count+1 || impl.IsFormula(4, f) || !impl.EqualFormula(f, f) || impl.EqualFormula(f, not(f)) {
			t.Error("a large formula has another size, is valid, or differs from itself alone")
		}
	}
	if impl.DepthOf(deep) != count+1 || !slices.Equal(impl.FreeLogic(deep), []int{1, 2}) {
		t.Error("a deep formula has another depth, or others free")
	}
	if impl.DepthOf(wide) != 2 || !slices.Equal(impl.FreeLogic(wide), []int{0, 3}) {
		t.Error("a wide formula has another depth, or others free")
	}
}

// roomyFormula returns a formula whose Args are followed by others in their memory.
func roomyFormula(f impl.Formula) impl.Formula {
	room := make([]impl.Formula, 0, len(f.Args)+2)
	for _, arg := range f.Args {
		room = append(room, roomyFormula(arg))
	}
	room = append(room, formula(77, 1, 2, 3), formula(78, 3, 2, 1))
	f.Args = room[:len(f.Args)]
	return f
}

// isSpared reports whether what is behind the Args of a roomy formula is as it was made.
func isSpared(f impl.Formula) bool {
	for _, part := range partsOf(&f) {
		spare := part.Args[len(part.Args):cap(part.Args)]
		if len(spare) != 2 || rawFormula(spare[0]) != "(77 1 2 3)" || rawFormula(spare[1]) != "(78 3 2 1)" {
			return false
		}
	}
	return true
}

// Neither the nodes of the arguments nor what is behind them changes.
func TestFormulasLeaveArgumentsAlone(t *testing.T) {
	for _, f := range append(validFormulas(), oddFormulas()[:5000]...) {
		one, two := roomyFormula(f), roomyFormula(f)
		impl.SizeOf(one)
		impl.DepthOf(one)
		impl.IsFormula(3, one)
		impl.FreeLogic(one)
		impl.EqualFormula(one, two)
		impl.EqualFormula(two, not(one))
		if rawFormula(one) != rawFormula(f) || rawFormula(two) != rawFormula(f) || !isSpared(one) || !isSpared(two) {
			t.Fatalf("%s becomes %s and %s", rawFormula(f), rawFormula(one), rawFormula(two))
		}
	}
}

// An answer changes neither the formula nor the next answer.
func TestFormulasShareNoMemory(t *testing.T) {
	for _, f := range append(validFormulas(), oddFormulas()[:5000]...) {
		text, size := rawFormula(f), impl.SizeOf(f)
		one, two := impl.FreeLogic(f), impl.FreeLogic(f)
		want := slices.Clone(one)
		fill(one)
		if !slices.Equal(two, want) || rawFormula(f) != text {
			t.Fatalf("with one answer the other becomes %v, and %s becomes %s", two, text, rawFormula(f))
		}
		checkFree(t, f, want...)
		part := cloneFormula(f)
		for _, changed := range partsOf(&part) {
			changed.U = 2
		}
		if !slices.Equal(two, want) || impl.SizeOf(f) != size {
			t.Fatalf("the answer %v changes with the formula", two)
		}
	}
}
