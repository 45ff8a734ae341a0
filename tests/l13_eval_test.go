package tests

import (
	"fmt"
	"math"
	"math/rand"
	"slices"
	"testing"

	"loop.example/g00590/impl"
)

// knownValues lists closed formulas over a and b, and their values in structures over so many variables.
var knownValues = []struct {
	vars    int
	s, f    string
	want    int
	comment string
}{
	{1, "110>1 010", "true", 2, "a list of two cells"},
	{1, "110>1 010", "!true", 0, ""},
	{1, "110>1 010", "some u.on a:u", 2, ""},
	{1, "110>1 010", "all u.on a:u", 0, ""},
	{1, "110>1 010", "all u.from a:u", 2, ""},
	{1, "110>1 010", "some u.shared:u", 0, ""},
	{1, "110>1 010", "some u.some v.next:uv", 2, ""},
	{1, "110>1 010", "some u.next:uu", 0, ""},
	{1, "110>1 010", "all u.some v.next:uv", 0, "the last one has no next one"},
	{1, "110>1 010", "some v.all u.!next:uv", 2, "the first one is no next one"},
	{1, "110>1 010", "some u.all v.!next:uv", 2, ""},
	{1, "110>1 010", "all u.all v.(path:uv|path:vu)", 2, ""},
	{1, "110>1 010", "all u.all v.path:uv", 0, ""},
	{1, "110>1 010", "some u.all v.path:uv", 2, ""},
	{1, "110>1 010", "some v.all u.path:uv", 2, ""},
	{1, "110>1 010", "all u.path:uu", 2, ""},
	{1, "110>1 010", "some u.some v.((path:uv&path:vu)&!same:uv)", 0, ""},
	{1, "110>1 010", "all u.same:uu", 2, ""},
	{1, "110>1 010", "all u.all v.same:uv", 0, ""},
	{1, "110>1 010", "all u.(on a:u|some v.(on a:v&next:vu))", 2, ""},
	{1, "110>1 011>0", "all u.all v.path:uv", 2, "a cycle"},
	{1, "110>1 011>0", "all u.some v.next:uv", 2, ""},
	{1, "110>1 011>0", "some u.shared:u", 2, ""},
	{1, "110>1 011>0", "all u.shared:u", 0, ""},
	{1, "110>1? 010*>1?", "some u.on a:u", 2, "a list of two or more cells"},
	{1, "110>1? 010*>1?", "all u.from a:u", 2, ""},
	{1, "110>1? 010*>1?", "some u.some v.next:uv", 1, ""},
	{1, "110>1? 010*>1?", "some u.(on a:u&some v.next:vu)", 0, ""},
	{1, "110>1? 010*>1?", "some u.all v.!next:vu", 2, ""},
	{1, "110>1? 010*>1?", "all u.some v.next:vu", 0, ""},
	{1, "110>1? 010*>1?", "all u.(on a:u|some v.next:vu)", 1, ""},
	{1, "110>1? 010*>1?", "all u.same:uu", 1, ""},
	{1, "110>1? 010*>1?", "some u.same:uu", 2, ""},
	{1, "110>1? 010*>1?", "some u.!same:uu", 1, ""},
	{1, "110>1? 010*>1?", "some u.some v.!same:uv", 2, ""},
	{1, "110>1? 010*>1?", "some u.all v.path:uv", 1, ""},
	{1, "110>1? 010*>1?", "all u.all v.(path:uv|path:vu)", 1, ""},
	{1, "110>1? 010*>1?", "all u.all v.(!path:uv|!path:vu)", 0, ""},
	{1, "110>1 010*>1", "all u.path:uu", 2, "paths with steps within many cells"},
	{1, "110>1 010*", "all u.path:uu", 1, ""},
	{1, "110>1 010*", "some u.all v.path:uv", 2, ""},
	{1, "???*>0?", "some u.on a:u", 1, "nothing is known"},
	{1, "???*>0?", "all u.!from a:u", 1, ""},
	{1, "???*>0?", "!some u.shared:u", 1, ""},
	{1, "???*>0?", "(true|some u.shared:u)", 2, ""},
	{1, "???*>0?", "(some u.shared:u&!true)", 0, ""},
	{1, "???*>0?", "(some u.shared:u|!true)", 1, ""},
	{1, "???*>0?", "(true&all u.next:uu)", 1, ""},
	{1, "???*>0?", "some u.(on a:u&!on a:u)", 1, ""},
	{1, "???*>0?", "all u.true", 2, ""},
	{1, "???*>0?", "some u.!true", 0, ""},
	{2, "10100>1 01111", "some u.(on a:u&on b:u)", 0, "two variables"},
	{2, "10100>1 01111", "some u.(from a:u&from b:u)", 2, ""},
	{2, "10100>1 01111", "all u.!(from a:u&from b:u)", 0, ""},
	{2, "10100>1 01111", "some u.some v.((on a:u&on b:v)&next:uv)", 2, ""},
	{2, "10100>1 01111", "some u.some v.((on b:u&on a:v)&next:uv)", 0, ""},
	{2, "10100>1 01111", "all u.(on a:u|shared:u)", 2, ""},
	{2, "?0?00 0?0?0", "some u.on a:u", 1, ""},
	{2, "?0?00 0?0?0", "some u.(on a:u&on b:u)", 0, ""},
	{2, "?0?00 0?0?0", "all u.(from a:u|from b:u)", 1, ""},
	{2, "?0?00 0?0?0", "all u.(!from a:u|!from b:u)", 2, ""},
	{1, "110>1 010>2? 010", "some u.some v.some w.((next:uv&next:vw)&!same:uw)", 1, "three nodes"},
	{1, "110>1 010>2? 010", "some u.some v.some w.(next:uv&next:wv)", 2, "w is u"},
	{1, "110>1 010>2? 010", "some u.some v.some w.((next:uv&next:wv)&!same:uw)", 0, ""},
	{1, "110>1 010>2? 010", "some u.some v.some w.some z.((!same:uv&!same:uw)&((!same:uz&!same:vw)&(!same:vz&!same:wz)))", 0, "no four of three"},
	{1, "110>1 010>2? 010", "some u.some v.some w.((!same:uv&!same:uw)&!same:vw)", 2, ""},
	{1, "-", "true", 2, "no nodes"},
	{1, "-", "some u.true", 0, ""},
	{1, "-", "all u.!true", 2, ""},
	{1, "-", "some u.all v.true", 0, ""},
	{1, "-", "all u.some v.true", 2, ""},
	{1, "-", "!some u.same:uu", 2, ""},
	{1, "-", "(all u.on a:u&some u.on a:u)", 0, ""},
	{1, "-", "(all u.on a:u|some u.on a:u)", 2, ""},
}

// A reference has a structure with the values of its paths.
type reference struct {
	s     impl.Structure
	paths [][]int
}

func referenceOf(s impl.Structure) reference { return reference{s, wantPaths(s)} }

// stepOf returns the number of a step of a path.
func stepOf(s impl.Structure, i int, j int) int {
	if len(s.Next) != len(s.Nodes)*len(s.Nodes) {
		return 1
	}
	return s.Next[i*len(s.Nodes)+j]
}

// withoutSteps returns the value of the path without steps.
func withoutSteps(s impl.Structure, i int) int {
	if s.Nodes[i].Many == 0 {
		return 2
	}
	return 1
}

// wantPaths takes the greatest of the paths of exactly one step, of two, and so on up to the number of nodes, for each pair.
// It begins below all numbers: the greatest path may lie below False.
func wantPaths(s impl.Structure) [][]int {
	count := len(s.Nodes)
	best, exact := make([][]int, count), make([][]int, count)
	for i := range count {
		best[i], exact[i] = slices.Repeat([]int{math.MinInt}, count), make([]int, count)
		for j := range count {
			exact[i][j] = stepOf(s, i, j)
		}
		best[i][i] = withoutSteps(s, i)
	}
	for range count {
		longer := make([][]int, count)
		for i := range count {
			longer[i] = slices.Repeat([]int{math.MinInt}, count)
			for j := range count {
				best[i][j] = min(2, max(best[i][j], exact[i][j]))
				for k := range count {
					longer[i][j] = max(longer[i][j], min(exact[i][k], stepOf(s, k, j)))
				}
			}
		}
		exact = longer
	}
	return best
}

// greatestPath follows every path on which no node is met twice, but for the last one.
func greatestPath(s impl.Structure, at int, to int, least int, met map[int]bool) int {
	greatest := math.MinInt
	for next := range s.Nodes {
		value := min(least, stepOf(s, at, next))
		if next == to {
			greatest = max(greatest, value)
		} else if !met[next] {
			met[next] = true
			greatest = max(greatest, greatestPath(s, next, to, value, met))
			delete(met, next)
		}
	}
	return greatest
}

// valueIn returns Half where a list has no truth value.
func valueIn(list []int, k int) int {
	if k < 0 || k >= len(list) || list[k] < 0 || list[k] > 2 {
		return 1
	}
	return list[k]
}

// wantLeafValue tells the value of a formula without Args, where -1 stands for no node.
func (r reference) wantLeafValue(f impl.Formula, u int, v int) int {
	if f.Kind == 1 {
		return 2
	}
	if u < 0 || f.Kind >= 5 && v < 0 {
		return 1
	}
	n := r.s.Nodes[u]
	switch f.Kind {
	case 2:
		return valueIn(n.Vars, f.K)
	case 3:
		return valueIn(n.Reach, f.K)
	case 4:
		return valueIn([]int{n.Shared}, 0)
	case 5:
		return valueIn([]int{stepOf(r.s, u, v)}, 0)
	case 6:
		if u != v {
			return 0
		}
		return withoutSteps(r.s, u)
	}
	return valueIn(r.paths[u], v)
}

// table returns the values of a formula for all nodes in the places of all logic variables at once, also for no node, in the order of placeIn.
func (r reference) table(f impl.Formula) []int {
	base := len(r.s.Nodes) + 1
	size := base * base * base * base
	half := slices.Repeat([]int{1}, size)
	if f.Kind < 1 || f.Kind > 12 || len(f.Args) != formulaKinds[f.Kind-1].args || f.Kind >= 11 && (f.U < 0 || f.U > 3) {
		return half
	}
	var args [][]int
	for _, arg := range f.Args {
		args = append(args, r.table(arg))
	}
	values := make([]int, size)
	for place := range values {
		switch f.Kind {
		case 8:
			values[place] = 2 - args[0][place]
		case 9:
			values[place] = min(args[0][place], args[1][place])
		case 10:
			values[place] = max(args[0][place], args[1][place])
		case 11, 12:
			values[place] = r.overNodes(f, args[0], place)
		default:
			values[place] = r.wantLeafValue(f, r.nodeIn(place, f.U), r.nodeIn(place, f.V))
		}
	}
	return values
}

func weightOf(base int, logic int) int { return []int{1, base, base * base, base * base * base}[logic] }

// nodeIn returns the node for a logic variable at a place of a table.
func (r reference) nodeIn(place int, logic int) int {
	base := len(r.s.Nodes) + 1
	if logic < 0 || logic > 3 {
		return -1
	}
	return place/weightOf(base, logic)%base - 1
}

func (r reference) placeIn(nodes []int) int {
	place, base := 0, len(r.s.Nodes)+1
	for logic, n := range nodes {
		if logic < 4 && 0 <= n && n < len(r.s.Nodes) {
			place += (n + 1) * weightOf(base, logic)
		}
	}
	return place
}

// overNodes returns the value of FmSome or FmAll from the table of its Arg.
func (r reference) overNodes(f impl.Formula, arg []int, place int) int {
	weight := weightOf(len(r.s.Nodes)+1, f.U)
	without := place - (r.nodeIn(place, f.U)+1)*weight
	value := (f.Kind - 11) * 2
	for i := range r.s.Nodes {
		if f.Kind == 11 {
			value = max(value, arg[without+(i+1)*weight])
		} else {
			value = min(value, arg[without+(i+1)*weight])
		}
	}
	return value
}

func (r reference) want(f impl.Formula, nodes []int) int { return r.table(f)[r.placeIn(nodes)] }

func checkEval(t *testing.T, s impl.Structure, f impl.Formula, nodes []int, want int) {
	t.Helper()
	if got := impl.EvalFormula(s, f, nodes); got != want {
		t.Errorf("EvalFormula(%.300s, %.300s, %v) = %d, want %d", rawStructure(s), rawFormula(f), nodes, got, want)
	}
}

func checkHolds(t *testing.T, s impl.Structure, f impl.Formula, want int) {
	t.Helper()
	checkEval(t, s, f, nil, want)
	if got := impl.HoldsIn(s, f); got != want {
		t.Errorf("HoldsIn(%.300s, %.300s) = %d, want %d", rawStructure(s), rawFormula(f), got, want)
	}
}

func checkPath(t *testing.T, s impl.Structure, i int, j int, want int) {
	t.Helper()
	if got := impl.PathOf(s, i, j); got != want {
		t.Errorf("PathOf(%.300s, %d, %d) = %d, want %d", rawStructure(s), i, j, got, want)
	}
	value := valueIn([]int{want}, 0)
	checkEval(t, s, pathTo(0, 1), []int{i, j}, value)
	checkEval(t, s, pathTo(3, 2), []int{-1, -1, j, i}, value)
}

// checkTable compares a formula with its table, with nodes for all logic variables, for some and for none.
func checkTable(t *testing.T, random *rand.Rand, r reference, f impl.Formula) {
	t.Helper()
	count, table := len(r.s.Nodes), r.table(f)
	for range 4 {
		var all, rest []int
		for range 4 {
			all = append(all, random.Intn(count))
			rest = append(rest, random.Intn(count+2)-1)
		}
		for _, nodes := range [][]int{all, rest, all[:random.Intn(4)]} {
			checkEval(t, r.s, f, nodes, table[r.placeIn(nodes)])
		}
	}
	checkHolds(t, r.s, f, table[0])
}

// definite makes a structure definite by its numbers of which low ones become False and others True.
func definite(s impl.Structure) impl.Structure {
	s = cloneStructure(s)
	for _, p := range placesOf(&s) {
		*p.value = *p.value / 2 * 2
		if p.name == "Many" {
			*p.value = 0
		}
	}
	return s
}

// randomValid returns a formula of a depth that is valid.
func randomValid(random *rand.Rand, vars int, depth int) impl.Formula {
	for {
		if f := randomFormula(random, vars, depth-1); wantIsFormula(vars, f) {
			return f
		}
	}
}

func parsedFormula(t *testing.T, vars int, text string) impl.Formula {
	t.Helper()
	f, ok := impl.ParseFormula(varNames(vars), text)
	if !ok {
		t.Fatalf("there is no formula %q", text)
	}
	return f
}

func TestKnownValues(t *testing.T) {
	for _, c := range knownValues {
		s, f := structureOfText(c.vars, c.s), parsedFormula(t, c.vars, c.f)
		if got := impl.HoldsIn(s, f); got != c.want {
			t.Errorf("%q in %q has the value %d, want %d (%s)", c.f, c.s, got, c.want, c.comment)
		}
		// The formula is closed: no node makes a difference.
		for _, nodes := range [][]int{nil, {}, {0}, {1, 0, 1, 0}, {7, -1, 9, 1, 0}} {
			checkEval(t, s, f, nodes, c.want)
		}
		checkHolds(t, s, not(f), 2-c.want)
		checkHolds(t, s, not(not(f)), c.want)
		checkHolds(t, s, both(f, f), c.want)
		checkHolds(t, s, either(f, f), c.want)
	}
}

// Each kind without Args, with every pair of nodes, at every logic variable.
func TestValuesWithoutArgs(t *testing.T) {
	for _, s := range randomStructures(1) {
		count := len(s.Nodes)
		for at := range count * count {
			i, j, u, v := at/count, at%count, at%4, (at/4+at/count)%4
			if u == v {
				j = i
			}
			nodes := []int{-1, count, -1, count}
			nodes[u], nodes[v] = i, j
			n, same := s.Nodes[i], []int{2, 1}[s.Nodes[i].Many]
			if i != j {
				same = 0
			}
			for k := range n.Vars {
				checkEval(t, s, onVar(k, u), nodes, n.Vars[k])
				checkEval(t, s, fromVar(k, u), nodes, n.Reach[k])
			}
			checkEval(t, s, always(), nodes, 2)
			checkEval(t, s, sharedAt(u), nodes, n.Shared)
			checkEval(t, s, nextTo(u, v), nodes, s.Next[i*count+j])
			checkEval(t, s, sameAs(u, v), nodes, same)
			checkEval(t, s, pathTo(u, v), nodes, impl.PathOf(s, i, j))
		}
	}
}

// Every depth that is allowed, in structures of every size, with Half and without it: promise 13 for those without.
func TestFormulasOfEveryDepth(t *testing.T) {
	random := rand.New(rand.NewSource(13))
	kinds := map[int]bool{}
	for vars := 1; vars <= 4; vars++ {
		for count := 1; count <= 10; count++ {
			for depth := 1; depth <= 12; depth++ {
				s := randomStructure(random, vars, count, []int{0, 1, 2, 2, 0})
				f := randomValid(random, vars, depth)
				for _, part := range partsOf(&f) {
					kinds[part.Kind] = true
				}
				if wantDepth(f) != depth {
					t.Fatalf("the depth is not %d: %s", depth, rawFormula(f))
				}
				checkTable(t, random, referenceOf(s), f)
				checkTable(t, random, referenceOf(definite(s)), f)
				checkDefiniteValues(t, random, definite(s), f)
			}
		}
	}
	if len(kinds) != 12 {
		t.Errorf("the formulas are of the kinds %v alone", kinds)
	}
}

// checkDefiniteValues checks that a formula has no value Half with a node for each logic variable.
func checkDefiniteValues(t *testing.T, random *rand.Rand, s impl.Structure, f impl.Formula) {
	t.Helper()
	if !impl.IsDefinite(s) {
		t.Fatalf("%s is not definite", rawStructure(s))
	}
	for range 5 {
		var nodes []int
		for range 4 {
			nodes = append(nodes, random.Intn(len(s.Nodes)))
		}
		if got := impl.EvalFormula(s, f, nodes); got != 0 && got != 2 {
			t.Errorf("EvalFormula(%s, %s, %v) = %d in a definite structure", rawStructure(s), rawFormula(f), nodes, got)
		}
	}
	if closed := some(0, all(1, some(2, all(3, f)))); impl.HoldsIn(s, closed) != 0 && impl.HoldsIn(s, closed) != 2 {
		t.Errorf("HoldsIn(%s, %s) = %d in a definite structure", rawStructure(s), rawFormula(closed), impl.HoldsIn(s, closed))
	}
}

// Promise 13 for all formulas of the list, and all small definite structures, also such that are no heaps.
func TestDefiniteStructuresGiveDefiniteValues(t *testing.T) {
	random := rand.New(rand.NewSource(14))
	for i, f := range validFormulas() {
		s := definite(randomStructure(random, 3+i%2, 1+i%10, []int{0, 2}))
		checkDefiniteValues(t, random, s, f)
	}
	small := []impl.Formula{always(), onVar(0, 0), fromVar(0, 1), sharedAt(2), nextTo(0, 1), nextTo(1, 1), sameAs(0, 1), pathTo(0, 1), pathTo(2, 3)}
	small = append(small, nestedOnce(small[1:5])...)
	for _, count := range []int{1, 2} {
		s := randomStructure(random, 1, count, []int{0})
		places := placesOf(&s)
		for number := range 1 << len(places) {
			for at, p := range places {
				if p.name != "Many" {
					*p.value = number >> at & 1 * 2
				}
			}
			checkDefiniteValues(t, random, s, small[number%len(small)])
			r, f := referenceOf(s), small[number*7%len(small)]
			checkHolds(t, s, f, r.want(f, nil))
			checkEval(t, s, f, []int{0, count - 1, 0, count - 1}, r.want(f, []int{0, count - 1, 0, count - 1}))
		}
	}
}

// With some of the values Half, a definite value stays or becomes Half.
func TestLessKnownStructures(t *testing.T) {
	random := rand.New(rand.NewSource(15))
	became := 0
	for i := range 3000 {
		vars, count := 1+i%4, 1+i%6
		f := randomValid(random, vars, 1+random.Intn(6))
		s := definite(randomStructure(random, vars, count, []int{0, 2}))
		less := cloneStructure(s)
		for _, p := range placesOf(&less) {
			if random.Intn(4) == 0 {
				*p.value = 1
			}
		}
		nodes := []int{random.Intn(count), random.Intn(count), random.Intn(count), random.Intn(count)}
		more, got := impl.EvalFormula(s, f, nodes), impl.EvalFormula(less, f, nodes)
		if got != more && got != 1 {
			t.Errorf("%s is %d in %s, but %d in %s", rawFormula(f), more, rawStructure(s), got, rawStructure(less))
		}
		if got == 1 {
			became++
		}
	}
	if became < 300 {
		t.Errorf("only %d values became Half", became)
	}
}

// PathOf against the paths themselves, followed one by one.
func TestPathsOneByOne(t *testing.T) {
	random := rand.New(rand.NewSource(16))
	seen := map[string]int{}
	for i := range 700 {
		count := 1 + i%5
		values := [][]int{{0, 1, 2}, {0, 0, 0, 1, 2}, {0, 0, 0, 2}, {0, 0, 0, 0, 0, 1, 1, 2}, {-1, 0, 0, 0, 1, 2, 3}, {-1, -2, -2, -3, -3, -3, 0, 3}, {-1, -2, -3, -4, -5}}[i/5%7]
		s := randomStructure(random, 1, count, values)
		for j := range s.Nodes {
			s.Nodes[j].Many = random.Intn(2)
		}
		for from := range count {
			for to := range count {
				want := greatestPath(s, from, to, math.MaxInt, map[int]bool{})
				if from == to {
					want = max(want, withoutSteps(s, from))
				}
				checkPath(t, s, from, to, min(want, 2))
				seen[fmt.Sprint(from == to, min(want, 2))]++
			}
		}
	}
	if len(seen) != 10 || seen["true 0"] > 0 || seen["false -1"] == 0 || seen["false -5"] == 0 {
		t.Errorf("the values of paths are %v", seen)
	}
}

// PathOf in structures of every size against the paths of each length.
func TestPathsInStructuresOfEverySize(t *testing.T) {
	for _, s := range randomStructures(2) {
		want := wantPaths(s)
		for i := range s.Nodes {
			for j := range s.Nodes {
				if got := impl.PathOf(s, i, j); got != want[i][j] {
					t.Errorf("PathOf(%s, %d, %d) = %d, want %d", rawStructure(s), i, j, got, want[i][j])
				}
			}
		}
	}
}

// listStructure returns the structure of a list of so many cells, where node i is followed by the node i + 1.
func listStructure(count int) impl.Structure {
	s := impl.Structure{Nodes: slices.Repeat(nodes(node("0", "1", 0, 0)), count), Next: make([]int, count*count)}
	for i := range count - 1 {
		s.Next[i*count+i+1] = 2
	}
	return s
}

// The least step of a long path counts, wherever it is, and the greater one of two paths.
func TestPathsOfManySteps(t *testing.T) {
	for count := 2; count <= 10; count++ {
		s := listStructure(count)
		for i := range count {
			for j := range count {
				want := 0
				if i <= j {
					want = 2
				}
				checkPath(t, s, i, j, want)
			}
		}
		for step := range count - 1 {
			for value := range 3 {
				other := cloneStructure(s)
				other.Next[step*count+step+1] = value
				checkPath(t, other, 0, count-1, value)
				checkPath(t, other, step, step+1, value)
				checkPath(t, other, 0, step, 2)
				checkPath(t, other, step+1, count-1, 2)
				// Another way, of one step: the greater value counts.
				for direct := range 3 {
					other.Next[count-1] = direct
					want := max(direct, value)
					if count == 2 {
						want = direct
					}
					checkPath(t, other, 0, count-1, want)
				}
			}
		}
		// Back from the end to the beginning, so that every node lies on a cycle of True or Half.
		for back := range 3 {
			other := cloneStructure(s)
			other.Next[(count-1)*count] = back
			for i := range count {
				for j := range count {
					want := 2
					if i > j {
						want = back
					}
					checkPath(t, other, i, j, want)
					many := cloneStructure(other)
					many.Nodes[i].Many = 1
					if i == j {
						want = max(1, back)
					}
					checkPath(t, many, i, j, want)
				}
			}
		}
	}
}

// The path without steps, and Next from the node to itself, in structures of every size.
func TestPathsWithinOneNode(t *testing.T) {
	want := [2][3]int{{2, 2, 2}, {1, 1, 2}}
	for count := 1; count <= 10; count++ {
		for i := range count {
			for many, row := range want {
				for self, value := range row {
					s := listStructure(count)
					s.Nodes[i].Many, s.Next[i*count+i] = many, self
					checkPath(t, s, i, i, value)
					for j := range count {
						if j != i {
							checkPath(t, s, j, j, 2)
						}
					}
					// The loop at a node does not lead to others.
					for j := range i {
						checkPath(t, s, i, j, 0)
					}
				}
			}
		}
	}
}

// wrongNodes returns numbers that are no node of so many.
func wrongNodes(count int) []int {
	list := []int{-1, count, count + 1, -count - 1, count * count}
	for _, n := range wrongIndices {
		if n < 0 || n >= count {
			list = append(list, n)
		}
	}
	return list
}

func TestPathsOfNoNodes(t *testing.T) {
	for count := range 11 {
		for _, value := range []int{0, 1, 2} {
			s := impl.Structure{Nodes: slices.Repeat(nodes(node("1", "1", 0, 0)), count), Next: slices.Repeat([]int{value}, count*count)}
			for _, wrong := range wrongNodes(count) {
				checkPath(t, s, wrong, wrong, 1)
				checkPath(t, s, wrong, -wrong, 1)
				for i := range count {
					checkPath(t, s, wrong, i, 1)
					checkPath(t, s, i, wrong, 1)
				}
			}
		}
	}
}

func TestNoNodes(t *testing.T) {
	for _, s := range []impl.Structure{{}, {Nodes: []impl.Node{}, Next: []int{}}, {Next: []int{2}}, {Next: []int{0, 1, 2, 2}}} {
		for u := range 4 {
			for _, f := range append(leaves(), impl.Formula{}, formula(8, 0, 0, 0), formula(13, 0, 0, 0), some(0, sharedAt(0)), all(0, sharedAt(0))) {
				checkHolds(t, s, some(u, f), 0)
				checkHolds(t, s, all(u, f), 2)
				checkHolds(t, s, not(some(u, f)), 2)
				checkEval(t, s, all(u, f), []int{0, 0, 0, 0}, 2)
			}
			checkHolds(t, s, some(u, all(3-u, always())), 0)
			checkHolds(t, s, all(u, some(3-u, always())), 2)
		}
		for _, f := range leaves()[1:] {
			checkHolds(t, s, f, 1)
			checkEval(t, s, f, []int{0, 0, 0, 0}, 1)
			checkHolds(t, s, not(f), 1)
			checkHolds(t, s, both(f, some(1, f)), 0)
			checkHolds(t, s, both(f, all(1, f)), 1)
			checkHolds(t, s, either(f, all(1, f)), 2)
		}
		checkHolds(t, s, always(), 2)
		for _, n := range outside {
			checkHolds(t, s, some(n, always()), 1)
			checkHolds(t, s, all(n, always()), 1)
		}
	}
}

func TestSameNodes(t *testing.T) {
	for count := 1; count <= 10; count++ {
		for _, many := range append([]int{0, 1, 2}, nonTruths...) {
			s := listStructure(count)
			for i := range count {
				s.Nodes[i].Many = many
			}
			same := 1
			if many == 0 {
				same = 2
			}
			for i := range count {
				for j := range count {
					want := 0
					if i == j {
						want = same
					}
					checkEval(t, s, sameAs(0, 1), []int{i, j}, want)
					checkEval(t, s, sameAs(3, 2), []int{-1, -1, j, i}, want)
				}
				checkEval(t, s, sameAs(2, 2), []int{count, count, i}, same)
			}
			checkHolds(t, s, all(0, sameAs(0, 0)), same)
			checkHolds(t, s, some(0, some(1, not(sameAs(0, 1)))), max(2-same, min(2, 2*count-2)))
		}
	}
}

// One node alone stands for many cells.
func TestOneManyNode(t *testing.T) {
	for count := 1; count <= 10; count++ {
		for at := range count {
			s := listStructure(count)
			s.Nodes[at].Many = 1
			for i := range count {
				want := 2
				if i == at {
					want = 1
				}
				checkEval(t, s, sameAs(0, 0), []int{i}, want)
				checkEval(t, s, pathTo(0, 0), []int{i}, want)
				checkEval(t, s, not(sameAs(0, 1)), []int{i, i}, 2-want)
			}
			checkHolds(t, s, all(0, sameAs(0, 0)), 1)
			checkHolds(t, s, all(0, all(1, not(sameAs(0, 1)))), min(1, 2-min(count, 2)))
		}
	}
}

// nodesWithout returns lists of nodes with no node of so many for a logic variable, and the node 0 for others.
func nodesWithout(logic int, count int) [][]int {
	list := [][]int{make([]int, logic)}
	for _, wrong := range wrongNodes(count) {
		without := make([]int, 4)
		without[logic] = wrong
		list = append(list, without, append(slices.Clone(without), 0, 0))
	}
	return list
}

// Without a node for a logic variable only what needs it is unknown.
func TestLogicVariablesWithoutNodes(t *testing.T) {
	for count := 1; count <= 10; count++ {
		s := impl.Structure{Nodes: slices.Repeat(nodes(node("2", "2", 2, 0)), count), Next: slices.Repeat([]int{2}, count*count)}
		for i := range s.Nodes {
			s.Nodes[i].Vars, s.Nodes[i].Reach = []int{2}, []int{2}
		}
		for logic := range 4 {
			other := (logic + 1) % 4
			needed := []impl.Formula{onVar(0, logic), fromVar(0, logic), sharedAt(logic), nextTo(logic, logic), sameAs(logic, logic), pathTo(logic, logic)}
			for _, kind := range []int{5, 6, 7} {
				needed = append(needed, formula(kind, 0, logic, other), formula(kind, 0, other, logic))
			}
			for _, without := range nodesWithout(logic, count) {
				// The other logic variable has a node, and those behind the end of a short list are not needed.
				with := append(slices.Clone(without), 0, 0, 0, 0)[:max(len(without), other+1)]
				if other > logic && len(without) == logic {
					with[logic] = -1
				}
				for _, f := range needed {
					checkEval(t, s, f, without, 1)
					checkEval(t, s, f, with, 1)
					checkEval(t, s, not(f), with, 1)
					checkEval(t, s, both(f, not(always())), with, 0)
					checkEval(t, s, either(f, always()), with, 2)
					checkEval(t, s, both(f, sharedAt(other)), with, 1)
					checkEval(t, s, some(other, f), with, 1)
					checkEval(t, s, some(logic, f), with, 2)
					checkEval(t, s, both(f, some(logic, f)), with, 1)
				}
				for _, f := range []impl.Formula{always(), onVar(0, other), fromVar(0, other), sharedAt(other), nextTo(other, other), sameAs(other, other), pathTo(other, other)} {
					checkEval(t, s, f, with, 2)
					checkEval(t, s, all(logic, f), with, 2)
				}
			}
		}
	}
}

// More numbers than there are logic variables make no difference.
func TestNodesBehindTheLogicVariables(t *testing.T) {
	random := rand.New(rand.NewSource(17))
	for i := range 500 {
		count := 1 + i%6
		r := referenceOf(randomStructure(random, 2, count, []int{0, 1, 2}))
		f := randomValid(random, 2, 1+i%5)
		nodes := []int{random.Intn(count), random.Intn(count), random.Intn(count), random.Intn(count)}
		want := r.want(f, nodes)
		for _, more := range [][]int{{0}, {-1}, {99, 98}, make([]int, 1000)} {
			checkEval(t, r.s, f, append(slices.Clone(nodes), more...), want)
		}
	}
}

// Numbers that are no logic variables have no nodes, however long the list, and cannot be bound.
func TestNumbersThatAreNoLogicVariables(t *testing.T) {
	long := make([]int, 300)
	s := definite(impl.Structure{Nodes: nodes(node("1", "1", 2, 0), node("1", "1", 2, 0)), Next: []int{2, 2, 2, 2}})
	for _, n := range outside {
		for _, nodes := range [][]int{nil, {0, 0, 0, 0}, {0, 0, 0, 0, 0}, long} {
			for _, f := range []impl.Formula{onVar(0, n), fromVar(0, n), sharedAt(n), nextTo(n, n), sameAs(n, n), pathTo(n, n), nextTo(0, n), nextTo(n, 0), sameAs(1, n), sameAs(n, 1), pathTo(3, n), pathTo(n, 3)} {
				checkEval(t, s, f, nodes, 1)
				checkEval(t, s, not(f), nodes, 1)
				for u := range 4 {
					checkEval(t, s, some(u, f), nodes, 1)
					checkEval(t, s, all(u, either(f, sharedAt(u))), nodes, 2)
				}
			}
			for _, body := range []impl.Formula{always(), not(always()), sharedAt(0), sharedAt(n), some(0, sharedAt(0))} {
				checkEval(t, s, some(n, body), nodes, 1)
				checkEval(t, s, all(n, body), nodes, 1)
				checkEval(t, s, not(all(n, body)), nodes, 1)
				checkEval(t, s, some(0, all(n, body)), nodes, 1)
				checkEval(t, s, both(some(n, body), not(always())), nodes, 0)
				checkEval(t, s, either(all(n, body), always()), nodes, 2)
			}
		}
	}
}

// What is bound has the nodes of FmSome or FmAll within it, and that of the list before it and behind it.
func TestBoundLogicVariables(t *testing.T) {
	s := structureOfText(2, "10100>1 01110>2 00110")
	cases := []struct {
		f    string
		want [4]int
	}{
		// The values with u at the nodes 0, 1 and 2, and without a node.
		{"on a:u", [4]int{2, 0, 0, 1}},
		{"some u.on a:u", [4]int{2, 2, 2, 2}},
		{"all u.on a:u", [4]int{0, 0, 0, 0}},
		{"(some u.on b:u&on a:u)", [4]int{2, 0, 0, 1}},
		{"(on a:u&some u.on b:u)", [4]int{2, 0, 0, 1}},
		{"(all u.from a:u&on b:u)", [4]int{0, 2, 0, 1}},
		{"((on b:u|all u.on a:u)|on a:u)", [4]int{2, 2, 0, 1}},
		{"!(some u.on a:u&!on b:u)", [4]int{0, 2, 0, 1}},
		{"some u.(on a:u&some u.on b:u)", [4]int{2, 2, 2, 2}},
		{"some u.(some u.on b:u&on a:u)", [4]int{2, 2, 2, 2}},
		{"some u.(on a:u&all u.on a:u)", [4]int{0, 0, 0, 0}},
		{"all u.(from a:u&some u.(on b:u&some u.on a:u))", [4]int{2, 2, 2, 2}},
		{"some u.(some u.on a:u&(on b:u&all u.from a:u))", [4]int{2, 2, 2, 2}},
		{"some v.(next:uv&on b:v)", [4]int{2, 0, 0, 1}},
		{"some v.(next:uv&some u.(next:vu&from b:u))", [4]int{2, 0, 0, 1}},
		{"some v.(some u.(next:vu&from b:u)&next:uv)", [4]int{2, 0, 0, 1}},
		{"(some v.next:uv&some u.next:uu)", [4]int{0, 0, 0, 0}},
		{"(some u.on b:u&(some u.on a:u&on b:u))", [4]int{0, 2, 0, 1}},
		{"some w.all u.path:wu", [4]int{2, 2, 2, 2}},
		{"(path:uu&some u.all w.path:wu)", [4]int{2, 2, 2, 1}},
		{"some u.some v.(next:uv&some u.(next:vu&some v.same:uv))", [4]int{2, 2, 2, 2}},
		{"some v.(some v.on b:v&same:uv)", [4]int{2, 2, 2, 1}},
		{"some v.(on a:v&(some v.on b:v&same:uv))", [4]int{2, 0, 0, 1}},
	}
	for _, c := range cases {
		f := parsedFormula(t, 2, c.f)
		for u, want := range c.want[:3] {
			checkEval(t, s, f, []int{u}, want)
			checkEval(t, s, f, []int{u, 2, 1, 0}, want)
		}
		for _, nodes := range [][]int{nil, {}, {-1}, {3}, {-1, 0, 0, 0}} {
			checkEval(t, s, f, nodes, c.want[3])
		}
	}
}

// Every logic variable may be bound, by FmSome and by FmAll, around every other one.
func TestEveryLogicVariableBound(t *testing.T) {
	random := rand.New(rand.NewSource(18))
	for range 20 {
		r := referenceOf(randomStructure(random, 1, 1+random.Intn(4), []int{0, 1, 2}))
		for u := range 4 {
			for v := range 4 {
				for _, body := range []impl.Formula{nextTo(u, v), sameAs(u, v), pathTo(v, u), both(onVar(0, u), not(fromVar(0, v))), either(sharedAt(v), some(u, nextTo(u, v)))} {
					for _, f := range []impl.Formula{some(u, body), all(u, body), some(v, all(u, body)), all(v, some(u, body)), both(some(u, body), body), either(body, all(v, body))} {
						checkTable(t, random, r, f)
					}
				}
			}
		}
	}
}

// checkUnknown checks that a formula is Half, and what follows from that for others of which it is a part.
func checkUnknown(t *testing.T, s impl.Structure, f impl.Formula, nodes []int) {
	t.Helper()
	checkEval(t, s, f, nodes, 1)
	checkEval(t, s, not(f), nodes, 1)
	checkEval(t, s, both(f, always()), nodes, 1)
	checkEval(t, s, both(always(), f), nodes, 1)
	checkEval(t, s, both(not(always()), f), nodes, 0)
	checkEval(t, s, both(f, not(always())), nodes, 0)
	checkEval(t, s, either(f, always()), nodes, 2)
	checkEval(t, s, either(f, not(always())), nodes, 1)
	checkEval(t, s, some(3, f), nodes, 1)
	checkEval(t, s, all(3, f), nodes, 1)
}

func TestKindsWithoutValue(t *testing.T) {
	s := listStructure(3)
	for _, kind := range nonKinds {
		for count := range 4 {
			args := slices.Repeat(leaves()[:1], count)
			for _, nodes := range [][]int{nil, {0, 1, 2, 0}} {
				checkUnknown(t, s, formula(kind, 0, 0, 0, args...), nodes)
				checkUnknown(t, s, formula(kind, 0, 1, 2, args...), nodes)
			}
		}
	}
}

// With another number of Args a kind has no value, not even where the Args would decide.
func TestOtherNumbersOfArgs(t *testing.T) {
	s := listStructure(3)
	for i, row := range formulaKinds {
		for count := range 50 {
			if count == row.args {
				continue
			}
			for _, arg := range []impl.Formula{always(), not(always()), sharedAt(0)} {
				f := formula(i+1, 0, 0, 0, slices.Repeat([]impl.Formula{arg}, count)...)
				checkUnknown(t, s, f, []int{0, 1, 2, 0})
			}
		}
	}
}

// The same for one part of a larger formula.
func TestOneWrongPartOfAFormula(t *testing.T) {
	random := rand.New(rand.NewSource(19))
	changes := append(slices.Clone(wrongParts), func(part *impl.Formula) { part.Args = nil })
	for i := range 60 {
		r := referenceOf(randomStructure(random, 2, 1+i%3, []int{0, 1, 2, 0, 2}))
		f := randomValid(random, 2, 2+i%4)
		for _, change := range changes {
			for _, whole := range changedParts(f, change) {
				checkTable(t, random, r, whole)
			}
		}
	}
}

// Odd formulas in odd structures, against the tables.
func TestOddFormulasInOddStructures(t *testing.T) {
	random := rand.New(rand.NewSource(20))
	for _, f := range oddFormulas()[:3000] {
		if wantSize(f) > 60 {
			continue
		}
		s := randomStructure(random, 1+random.Intn(3), 1+random.Intn(3), []int{0, 1, 2, 0, 2, -1, 3})
		for i := range s.Nodes {
			n := &s.Nodes[i]
			if random.Intn(4) == 0 {
				n.Vars = n.Vars[:random.Intn(len(n.Vars)+1)]
			}
			if random.Intn(4) == 0 {
				n.Reach = append(n.Reach, 2)
			}
			n.Many = random.Intn(3)
		}
		if random.Intn(8) == 0 {
			s.Next = s.Next[1:]
		}
		checkTable(t, random, referenceOf(s), f)
	}
}

// A field that a kind does not use is not looked at.
func TestFieldsThatAreNotLookedAt(t *testing.T) {
	random := rand.New(rand.NewSource(21))
	s := randomStructure(random, 1, 3, []int{0, 1, 2})
	nodes := []int{2, 1, 0, 2}
	for _, n := range append([]int{1, 2, 3}, outside...) {
		checkEval(t, s, formula(1, n, n, n), nodes, 2)
		checkEval(t, s, formula(2, 0, 1, n), nodes, s.Nodes[1].Vars[0])
		checkEval(t, s, formula(3, 0, 2, n), nodes, s.Nodes[0].Reach[0])
		checkEval(t, s, formula(4, n, 3, n), nodes, s.Nodes[2].Shared)
		checkEval(t, s, formula(5, n, 0, 1), nodes, s.Next[7])
		checkEval(t, s, formula(6, n, 0, 1), nodes, 0)
		checkEval(t, s, formula(8, n, n, n, always()), nodes, 0)
		checkEval(t, s, formula(9, n, n, n, always(), always()), nodes, 2)
		checkEval(t, s, formula(10, n, n, n, not(always()), not(always())), nodes, 0)
		checkEval(t, s, formula(11, n, 2, n, always()), nodes, 2)
		checkEval(t, s, formula(12, n, 2, n, not(always())), nodes, 0)
	}
}

func TestNumbersThatAreNoProgramVariables(t *testing.T) {
	for vars := range 6 {
		s := randomStructure(rand.New(rand.NewSource(22)), vars, 2, []int{2})
		for k := -3; k <= 8; k++ {
			want := 1
			if 0 <= k && k < vars {
				want = 2
			}
			checkEval(t, s, onVar(k, 0), []int{1}, want)
			checkEval(t, s, fromVar(k, 0), []int{1}, want)
			checkHolds(t, s, some(0, onVar(k, 0)), want)
			checkHolds(t, s, all(0, fromVar(k, 0)), want)
		}
		for _, k := range []int{1 << 32, 1<<32 + 1, -1 << 32, 256, math.MinInt, math.MaxInt} {
			checkUnknown(t, s, onVar(k, 0), []int{1})
			checkUnknown(t, s, fromVar(k, 0), []int{1})
		}
	}
}

// Vars or Reach of one node are too short or too long: only what is missing is unknown.
func TestListsThatAreTooShort(t *testing.T) {
	for count := 1; count <= 10; count++ {
		for vars := 1; vars <= 4; vars++ {
			s := randomStructure(rand.New(rand.NewSource(23)), vars, count, []int{0, 2})
			for i := range count {
				for have := range 7 {
					list := slices.Repeat([]int{2}, have)
					short, other := cloneStructure(s), cloneStructure(s)
					short.Nodes[i].Vars, other.Nodes[i].Reach = list, list
					for k := range 7 {
						want := 1
						if k < have {
							want = 2
						}
						checkEval(t, short, onVar(k, 2), []int{-1, -1, i}, want)
						checkEval(t, other, fromVar(k, 2), []int{-1, -1, i}, want)
						if k < vars {
							checkEval(t, short, fromVar(k, 2), []int{-1, -1, i}, s.Nodes[i].Reach[k])
							checkEval(t, other, onVar(k, 2), []int{-1, -1, i}, s.Nodes[i].Vars[k])
							last := (i + 1) % count
							if last != i {
								checkEval(t, short, onVar(k, 1), []int{i, last}, s.Nodes[last].Vars[k])
								checkEval(t, other, fromVar(k, 1), []int{i, last}, s.Nodes[last].Reach[k])
							}
						}
					}
				}
			}
		}
	}
}

// Next of any length but the square of the number of nodes has no value for any pair: every step may be there.
func TestValuesOfNextOfOtherLengths(t *testing.T) {
	for _, count := range []int{1, 2, 3, 10} {
		for _, length := range []int{0, 1, count, count*count - 1, count*count + 1, 2 * count * count} {
			if length == count*count {
				continue
			}
			for _, value := range []int{0, 2} {
				s := impl.Structure{Nodes: slices.Repeat(nodes(node("1", "0", 0, 0)), count), Next: slices.Repeat([]int{value}, length)}
				s.Nodes[count-1].Many = 1
				for i := range count {
					for j := range count {
						want := 1
						if i == j && i < count-1 {
							want = 2
						}
						checkEval(t, s, nextTo(0, 1), []int{i, j}, 1)
						checkPath(t, s, i, j, want)
					}
					checkEval(t, s, onVar(0, 0), []int{i}, 2)
					checkEval(t, s, fromVar(0, 0), []int{i}, 0)
				}
				checkHolds(t, s, some(0, some(1, nextTo(0, 1))), 1)
				checkHolds(t, s, all(0, all(1, nextTo(0, 1))), 1)
				checkHolds(t, s, all(0, onVar(0, 0)), 2)
			}
		}
	}
}

// Every number in turn is no truth value, or Many is neither False nor Half: by itself it counts as Half.
func TestNumbersWithoutValue(t *testing.T) {
	random := rand.New(rand.NewSource(24))
	for _, size := range [][2]int{{1, 1}, {2, 2}, {4, 3}} {
		for _, values := range [][]int{{0}, {2}, {0, 1, 2}} {
			s := randomStructure(random, size[0], size[1], values)
			for at := range placesOf(&s) {
				for _, none := range append([]int{2}, nonTruths...) {
					other, name := withNumber(s, at, none)
					if none == 2 && name != "Many" {
						continue
					}
					checkAllLeaves(t, other)
				}
			}
		}
	}
}

// checkAllLeaves compares all formulas without Args, and some around them, with the tables.
func checkAllLeaves(t *testing.T, s impl.Structure) {
	t.Helper()
	r := referenceOf(s)
	list := []impl.Formula{sharedAt(0), nextTo(0, 1), sameAs(0, 1), pathTo(0, 1)}
	for k := range 4 {
		list = append(list, onVar(k, 0), fromVar(k, 0))
	}
	for _, f := range list {
		table, negated := r.table(f), r.table(some(0, not(f)))
		for i := range s.Nodes {
			for j := range s.Nodes {
				checkEval(t, s, f, []int{i, j}, table[r.placeIn([]int{i, j})])
			}
			checkEval(t, s, some(0, not(f)), []int{-1, i}, negated[r.placeIn([]int{-1, i})])
		}
	}
}

// In paths numbers above True count as True, and numbers below False stay what they are.
func TestPathsOfOtherNumbers(t *testing.T) {
	for _, none := range nonTruths {
		value := min(none, 2)
		for count := 2; count <= 10; count++ {
			s := listStructure(count)
			for step := range count - 1 {
				other := cloneStructure(s)
				other.Next[step*count+step+1] = none
				// A detour by a third node, or the step from the first one to the last one, is False.
				want := value
				if count > 2 {
					want = max(0, value)
				}
				checkPath(t, other, 0, count-1, want)
				checkPath(t, other, step, step+1, want)
				checkEval(t, other, nextTo(0, 1), []int{step, step + 1}, 1)
				// A step of Half on the same path.
				other.Next[(count-2)*count+count-1] = 1
				if step < count-2 {
					checkPath(t, other, 0, count-1, min(want, 1))
				}
			}
			every := impl.Structure{Nodes: s.Nodes, Next: slices.Repeat([]int{none}, count*count)}
			checkPath(t, every, 0, count-1, value)
			checkPath(t, every, 0, 0, 2)
			checkEval(t, every, nextTo(0, 0), []int{0}, 1)
			every.Nodes = slices.Clone(every.Nodes)
			every.Nodes[0].Many = 1
			checkPath(t, every, 0, 0, max(value, 1))
		}
		for _, many := range append([]int{2}, nonTruths...) {
			one := structureOf(nodes(node("1", "1", 0, many)), none)
			checkPath(t, one, 0, 0, max(value, 1))
			one = structureOf(nodes(node("1", "1", 0, many)), 0)
			checkPath(t, one, 0, 0, 1)
			one = structureOf(nodes(node("1", "1", 0, many)), 2)
			checkPath(t, one, 0, 0, 2)
		}
	}
}

// Where every path has a step below False, the greatest path has no truth value, and the formula is Half.
func TestPathsBelowFalse(t *testing.T) {
	cases := []struct {
		next []int
		// The values from each node to each one, row by row, if every node stands for one cell.
		want    []int
		comment string
	}{
		{[]int{0, 0, -2, 0}, []int{2, 0, -2, 2}, "the step -2 is on all paths from 1 to 0"},
		{[]int{9, 0, -2, 9}, []int{2, 0, -2, 2}, "other steps are greater"},
		{[]int{-5, 1, -2, -7}, []int{2, 1, -2, 2}, "other steps are less"},
		{[]int{0, -1, math.MinInt, 0}, []int{2, -1, math.MinInt, 2}, "the least number"},
		{[]int{0, -3, 2, 0, 0, 0, 0, -1, 0}, []int{2, -1, 2, 0, 2, 0, 0, -1, 2}, "a path of two steps is greater than the direct one"},
		{[]int{0, -1, 2, 0, 0, 0, 0, -3, 0}, []int{2, -1, 2, 0, 2, 0, 0, -1, 2}, "the direct step is greater"},
		{[]int{0, -3, -1, 0, 0, 0, 0, -2, 0}, []int{2, -2, -1, 0, 2, 0, 0, -2, 2}, "both steps of the greater path lie below False"},
		{[]int{0, -3, -2, 0, 0, 0, 0, -1, 0}, []int{2, -2, -2, 0, 2, 0, 0, -1, 2}, "the first one is less than the second one"},
		{[]int{-9, -4, -9, -9, -9, -4, -4, -9, -9}, []int{2, -4, -4, -4, 2, -4, -4, -4, 2}, "a cycle of steps below False"},
	}
	for _, c := range cases {
		count := 2
		if len(c.next) == 9 {
			count = 3
		}
		s := impl.Structure{Nodes: slices.Repeat(nodes(node("0", "0", 0, 0)), count), Next: c.next}
		for at, want := range c.want {
			i, j := at/count, at%count
			checkPath(t, s, i, j, want)
			if want < 0 {
				checkUnknown(t, s, pathTo(0, 1), []int{i, j})
			}
		}
		every := 1
		if slices.Contains(c.want, 0) {
			every = 0
		}
		checkHolds(t, s, all(0, all(1, pathTo(0, 1))), every)
		checkHolds(t, s, some(0, some(1, not(pathTo(0, 1)))), 2-every)
		if t.Failed() {
			t.Fatal(c.comment)
		}
	}
}

// Numbers below False decide in structures of every size, wherever they stand.
func TestPathsBelowFalseInStructuresOfEverySize(t *testing.T) {
	random := rand.New(rand.NewSource(29))
	below := 0
	for _, values := range [][]int{{-1}, {-1, -2}, {-9, -8, -7, -6, -5, -4, -3, -2, -1}, {math.MinInt, math.MinInt + 1, -1 << 32}, {-5, -4, -3, -3, -4, -5, -4, -5, 0}, {-1, 3, -1, -1, -1}, {math.MinInt, math.MaxInt, -1}} {
		for count := 1; count <= 10; count++ {
			for range 4 {
				s := randomStructure(random, 1, count, values)
				for i := range count {
					s.Nodes[i].Many = random.Intn(2)
				}
				r := referenceOf(s)
				for i := range count {
					for j := range count {
						checkPath(t, s, i, j, r.paths[i][j])
						if r.paths[i][j] < 0 {
							below++
						}
					}
				}
				checkTable(t, random, r, some(0, not(pathTo(0, 1))))
				checkTable(t, random, r, all(1, either(pathTo(0, 1), pathTo(1, 0))))
			}
		}
	}
	if below < 1000 {
		t.Errorf("only %d values lie below False", below)
	}
}

// Neither the limit of nodes nor those of formulas concern the values.
func TestValuesBeyondTheLimits(t *testing.T) {
	random := rand.New(rand.NewSource(25))
	for _, count := range []int{11, 12, 17} {
		r := referenceOf(randomStructure(random, 5, count, []int{0, 1, 2, 0, 0, 0, 0}))
		for i := range 6 {
			checkTable(t, random, r, randomFormula(random, 5, 1+i%3))
		}
	}
	large := listStructure(200)
	checkPath(t, large, 0, 199, 2)
	checkPath(t, large, 1, 0, 0)
	checkHolds(t, large, some(0, all(1, pathTo(0, 1))), 2)
	checkHolds(t, large, some(2, all(1, pathTo(1, 2))), 2)
	checkHolds(t, large, all(0, some(1, nextTo(0, 1))), 0)
	for i := range 60 {
		r := referenceOf(randomStructure(random, 2, 1+i%3, []int{0, 1, 2}))
		checkTable(t, random, r, randomFormula(random, 2, 12+i%6))
	}
	deep := listStructure(3)
	for way := range nestings {
		for depth := 11; depth <= 40; depth++ {
			f := formulaOfDepth(depth, way)
			checkEval(t, deep, f, []int{0, 1, 2, 2}, referenceOf(deep).want(f, []int{0, 1, 2, 2}))
		}
	}
}

// As many bound logic variables as a formula may have, where no value decides: trying all nodes in all places would take too long.
func TestManyBoundLogicVariables(t *testing.T) {
	s := impl.Structure{Nodes: slices.Repeat(nodes(node("?", "?", 1, 1)), 10), Next: slices.Repeat([]int{1}, 100)}
	for _, f := range []impl.Formula{pathTo(0, 3), both(nextTo(0, 1), nextTo(2, 3))} {
		for _, bind := range []func(int, impl.Formula) impl.Formula{some, all} {
			whole := f
			for u := range 12 - wantDepth(f) {
				whole = bind(u%4, whole)
			}
			checkIsFormula(t, 1, whole, true)
			checkHolds(t, s, whole, 1)
		}
	}
	// Each one is bound where those around it are spoken of.
	f := either(nextTo(0, 1), nextTo(2, 3))
	for u := range 5 {
		f = some(u%4, either(f, nextTo(u%4, (u+1)%4)))
	}
	checkIsFormula(t, 1, f, true)
	checkHolds(t, s, f, 1)
	checkEval(t, s, not(f), []int{9, 9, 9, 9}, 1)
}

// Parts that share their memory count wherever they are.
func TestValuesOfPartsThatShareMemory(t *testing.T) {
	s := structureOfText(1, "110>1 010>2? 01?*")
	for levels := range 100 {
		for u, want := range []int{0, 0, 1} {
			checkLong(t, s, doubled(levels, sharedAt(0)), []int{u}, want)
			checkLong(t, s, doubled(levels, some(0, both(onVar(0, 0), nextTo(0, 1)))), []int{-1, u}, []int{0, 2, 0}[u])
		}
		bound := sharedAt(0)
		for u := range levels {
			bound = all(u%4, either(bound, bound))
		}
		checkLong(t, s, bound, []int{2}, []int{1, 0}[min(levels, 1)])
	}
	part := not(both(onVar(0, 0), nextTo(0, 1)))
	r := referenceOf(s)
	for _, f := range []impl.Formula{both(some(0, part), part), both(part, all(0, part)), either(some(0, not(part)), all(1, part)), some(0, both(all(1, part), part))} {
		checkTable(t, rand.New(rand.NewSource(26)), r, f)
	}
	list := []impl.Formula{sharedAt(0), onVar(0, 0), nextTo(0, 1)}
	checkEval(t, s, either(formula(10, 0, 0, 0, list[:2]...), formula(9, 0, 0, 0, list[1:]...)), []int{0, 1}, 2)
	checkEval(t, s, both(formula(10, 0, 0, 0, list[:2]...), formula(9, 0, 0, 0, list[1:]...)), []int{0, 2}, 0)
}

// checkLong is checkEval for a formula that is too large to be written.
func checkLong(t *testing.T, s impl.Structure, f impl.Formula, nodes []int, want int) {
	t.Helper()
	if got := impl.EvalFormula(s, f, nodes); got != want {
		t.Errorf("EvalFormula of a large formula for %v is %d, want %d", nodes, got, want)
	}
}

// What has itself within it has no value, but every call comes to an end.
func TestValuesOfPartsWithinThemselves(t *testing.T) {
	s := structureOfText(1, "110>1 010>1")
	for _, f := range []impl.Formula{endless(8, 0, always()), endless(9, 0, nextTo(1, 2)), endless(10, 0, always()), endless(11, 1, nextTo(1, 2)), not(endless(12, 0, always())), both(always(), endless(9, 0, sharedAt(3))), some(0, both(sharedAt(0), endless(11, 1, always())))} {
		for _, nodes := range [][]int{nil, {0, 1, 0, 1}} {
			if got := impl.EvalFormula(s, f, nodes); got != 1 {
				t.Errorf("EvalFormula of an endless formula is %d", got)
			}
		}
		if got := impl.HoldsIn(s, f); got != 1 {
			t.Errorf("HoldsIn of an endless formula is %d", got)
		}
	}
}

func TestValuesOfLargeFormulas(t *testing.T) {
	const count = 100000
	s := structureOfText(1, "110>1? 010*")
	deep, bound := nextTo(0, 1), pathTo(0, 1)
	for i := range count {
		deep = not(deep)
		bound = some(2+i%2, bound)
	}
	wide := formula(9, 0, 0, 0, slices.Repeat([]impl.Formula{not(always())}, count)...)
	for u, want := range []int{0, 1} {
		checkLong(t, s, deep, []int{0, u}, want)
		checkLong(t, s, not(deep), []int{0, u}, 2-want)
		checkLong(t, s, bound, []int{0, u}, []int{2, 1}[u])
	}
	checkLong(t, s, bound, nil, 1)
	checkLong(t, s, wide, nil, 1)
	checkLong(t, s, both(not(always()), wide), nil, 0)
}

// Neither the values of the arguments nor what is behind them changes.
func TestEvaluationLeavesArgumentsAlone(t *testing.T) {
	random := rand.New(rand.NewSource(27))
	formulas := append(validFormulas(), oddFormulas()[:500]...)
	for i, s := range append(randomStructures(4), structureOf(nodes(impl.Node{})), structureOf(nodes(node("12", "3", 4, 5)), 6, 7)) {
		one := roomyStructure(s)
		before := rawStructure(wholeOf(one))
		list := []int{random.Intn(5), random.Intn(5) - 1, random.Intn(9), random.Intn(4), 5, 91, 92, 93}
		want := slices.Clone(list)
		for k := range 8 {
			f := formulas[(i*8+k)*31%len(formulas)]
			two := roomyFormula(f)
			first := impl.EvalFormula(one, two, list[:k%6])
			holds := impl.HoldsIn(one, two)
			if again := impl.EvalFormula(one, two, list[:k%6]); again != first || impl.HoldsIn(one, two) != holds {
				t.Fatalf("EvalFormula(%s, %s, %v) is %d, then %d", before, rawFormula(f), list[:k%6], first, again)
			}
			if rawFormula(two) != rawFormula(f) || !isSpared(two) {
				t.Fatalf("%s becomes %s", rawFormula(f), rawFormula(two))
			}
		}
		for j := range len(s.Nodes) + 2 {
			impl.PathOf(one, j-1, len(s.Nodes)-j)
		}
		if rawStructure(wholeOf(one)) != before || !slices.Equal(list, want) {
			t.Fatalf("%s becomes %s, and %v becomes %v", before, rawStructure(wholeOf(one)), want, list)
		}
	}
}

// A value found for one structure is not taken for another one in the same memory.
func TestValuesAreKeptNowhere(t *testing.T) {
	random := rand.New(rand.NewSource(28))
	s, f := listStructure(4), some(0, all(1, pathTo(0, 1)))
	parts := partsOf(&f)
	for range 300 {
		for _, p := range placesOf(&s) {
			if random.Intn(3) == 0 {
				*p.value = random.Intn(3)
			}
		}
		for i := range s.Nodes {
			s.Nodes[i].Many = random.Intn(2)
		}
		parts[0].Kind, parts[1].Kind = 11+random.Intn(2), 11+random.Intn(2)
		*parts[2] = formula(2+random.Intn(6), 0, random.Intn(4), random.Intn(4))
		checkTable(t, random, referenceOf(s), f)
		for i := range s.Nodes {
			checkPath(t, s, i, 3-i, referenceOf(s).paths[i][3-i])
		}
	}
}
