package tests

import (
	"fmt"
	"math"
	"math/rand"
	"regexp"
	"slices"
	"strconv"
	"strings"
	"testing"

	"loop.example/g00590/impl"
)

// structureTexts lists structures over the variables a, b, c, d (as many as are said), and their texts.
var structureTexts = []struct {
	vars int
	s    impl.Structure
	text string
}{
	{1, structureOf(nil), "-"},
	{4, structureOf(nil), "-"},
	{1, structureOf(nodes(node("0", "0", 0, 0)), 0), "000"},
	{1, structureOf(nodes(node("1", "0", 0, 0)), 0), "100"},
	{1, structureOf(nodes(node("0", "1", 0, 0)), 0), "010"},
	{1, structureOf(nodes(node("0", "0", 2, 0)), 0), "001"},
	{1, structureOf(nodes(node("?", "0", 0, 0)), 0), "?00"},
	{1, structureOf(nodes(node("0", "?", 0, 0)), 0), "0?0"},
	{1, structureOf(nodes(node("0", "0", 1, 0)), 0), "00?"},
	{1, structureOf(nodes(node("0", "0", 0, 1)), 0), "000*"},
	{1, structureOf(nodes(node("0", "0", 0, 0)), 1), "000>0?"},
	{1, structureOf(nodes(node("0", "0", 0, 0)), 2), "000>0"},
	{1, structureOf(nodes(node("1", "1", 2, 1)), 2), "111*>0"},
	{1, structureOf(nodes(node("?", "?", 1, 1)), 1), "???*>0?"},
	{2, structureOf(nodes(node("10", "01", 0, 0)), 0), "10010"},
	{2, structureOf(nodes(node("01", "10", 0, 1)), 2), "01100*>0"},
	{3, structureOf(nodes(node("1?0", "0?1", 2, 0)), 0), "1?00?11"},
	{4, structureOf(nodes(node("1000", "0111", 1, 1)), 1), "10000111?*>0?"},
	{1, structureOf(nodes(node("1", "1", 0, 0), node("0", "1", 0, 1)), 0, 0, 0, 0), "110 010*"},
	{1, structureOf(nodes(node("1", "1", 0, 0), node("0", "1", 0, 1)), 0, 2, 0, 0), "110>1 010*"},
	{1, structureOf(nodes(node("1", "1", 0, 0), node("0", "1", 0, 1)), 0, 0, 2, 0), "110 010*>0"},
	{1, structureOf(nodes(node("1", "1", 0, 0), node("0", "1", 0, 1)), 0, 1, 0, 1), "110>1? 010*>1?"},
	{1, structureOf(nodes(node("1", "1", 0, 1), node("0", "1", 0, 0)), 1, 1, 2, 2), "110*>0?,1? 010>0,1"},
	{1, structureOf(nodes(node("1", "1", 0, 0), node("0", "1", 0, 0)), 2, 1, 1, 2), "110>0,1? 010>0?,1"},
	{3, structureOf(nodes(node("100", "100", 0, 0), node("000", "10?", 1, 1)), 0, 1, 0, 2), "1001000>1? 00010??*>1"},
	{1, structureOf(nodes(node("1", "1", 0, 0), node("0", "1", 2, 0), node("0", "0", 0, 0)), 0, 2, 0, 0, 0, 0, 0, 2, 0), "110>1 011 000>1"},
	{1, structureOf(nodes(node("1", "1", 0, 0), node("0", "1", 2, 0), node("0", "0", 0, 0)), 1, 0, 1, 1, 1, 1, 0, 0, 1), "110>0?,2? 011>0?,1?,2? 000>2?"},
	{1, structureOf(slices.Repeat(nodes(node("0", "0", 0, 0)), 10), slices.Repeat([]int{1, 0, 2}, 34)[:100]...),
		"000>0?,2,3?,5,6?,8,9? 000>1,2?,4,5?,7,8? 000>0,1?,3,4?,6,7?,9 000>0?,2,3?,5,6?,8,9? 000>1,2?,4,5?,7,8? 000>0,1?,3,4?,6,7?,9 000>0?,2,3?,5,6?,8,9? 000>1,2?,4,5?,7,8? 000>0,1?,3,4?,6,7?,9 000>0?,2,3?,5,6?,8,9?"},
}

func structureOf(list []impl.Node, next ...int) impl.Structure {
	return impl.Structure{Nodes: list, Next: next}
}

func nodes(list ...impl.Node) []impl.Node { return list }

func node(vars string, reach string, shared int, many int) impl.Node {
	return impl.Node{Vars: truthsOfText(vars), Reach: truthsOfText(reach), Shared: shared, Many: many}
}

func truthsOfText(text string) []int {
	var list []int
	for _, letter := range text {
		list = append(list, strings.IndexRune("0?1", letter))
	}
	return list
}

func cloneStructure(s impl.Structure) impl.Structure {
	clone := impl.Structure{Nodes: slices.Clone(s.Nodes), Next: slices.Clone(s.Next)}
	for i, n := range clone.Nodes {
		clone.Nodes[i].Vars, clone.Nodes[i].Reach = slices.Clone(n.Vars), slices.Clone(n.Reach)
	}
	return clone
}

func sameStructure(a impl.Structure, b impl.Structure) bool {
	sameNode := func(m impl.Node, n impl.Node) bool {
		return slices.Equal(m.Vars, n.Vars) && slices.Equal(m.Reach, n.Reach) && m.Shared == n.Shared && m.Many == n.Many
	}
	return slices.EqualFunc(a.Nodes, b.Nodes, sameNode) && slices.Equal(a.Next, b.Next)
}

// rawStructure writes all fields of a structure, which may be none.
func rawStructure(s impl.Structure) string {
	var text strings.Builder
	for _, n := range s.Nodes {
		fmt.Fprintf(&text, "{%v %v %d %d}", n.Vars, n.Reach, n.Shared, n.Many)
	}
	return text.String() + fmt.Sprint(s.Next)
}

// A place is where a number of a structure stands.
type place struct {
	name  string
	value *int
}

// placesOf returns the places of all numbers of a structure.
func placesOf(s *impl.Structure) []place {
	var list []place
	add := func(name string, values []int) {
		for k := range values {
			list = append(list, place{name, &values[k]})
		}
	}
	for i := range s.Nodes {
		n := &s.Nodes[i]
		add("Vars", n.Vars)
		add("Reach", n.Reach)
		list = append(list, place{"Shared", &n.Shared}, place{"Many", &n.Many})
	}
	add("Next", s.Next)
	return list
}

// withNumber returns a structure with another number at a place, and the name of this place.
func withNumber(s impl.Structure, at int, number int) (impl.Structure, string) {
	other := cloneStructure(s)
	p := placesOf(&other)[at]
	*p.value = number
	return other, p.name
}

// wantIsStructure tells by the numbers at all places whether there is a structure.
func wantIsStructure(vars int, s impl.Structure) bool {
	valid := 1 <= vars && vars <= 4 && len(s.Nodes) <= 10 && len(s.Next) == len(s.Nodes)*len(s.Nodes)
	for _, n := range s.Nodes {
		valid = valid && len(n.Vars) == vars && len(n.Reach) == vars
	}
	for _, p := range placesOf(&s) {
		valid = valid && *p.value >= 0 && *p.value <= 2 && (p.name != "Many" || *p.value != 2)
	}
	return valid
}

func wantIsDefinite(s impl.Structure) bool {
	return !slices.ContainsFunc(placesOf(&s), func(p place) bool { return *p.value == 1 })
}

// wantStructureText writes a text with every value of Next, and then leaves out those that are False.
func wantStructureText(s impl.Structure) string {
	if len(s.Nodes) == 0 {
		return "-"
	}
	letter := func(value int) string { return []string{"0", "?", "1"}[value] }
	var parts []string
	for i, n := range s.Nodes {
		part := ""
		for _, value := range slices.Concat(n.Vars, n.Reach, []int{n.Shared}) {
			part += letter(value)
		}
		part += strings.Repeat("*", n.Many)
		sign := ">"
		for j := range s.Nodes {
			value := s.Next[i*len(s.Nodes)+j]
			if value != 0 {
				part += sign + strconv.Itoa(j) + strings.Repeat("?", 2-value)
				sign = ","
			}
		}
		parts = append(parts, part)
	}
	return strings.Join(parts, " ")
}

var nodePattern = regexp.MustCompile(`^([01?]+)(\*?)(?:>(\d\??(?:,\d\??)*))?$`)

// structureOfText reads a text of a structure, for so many variables.
func structureOfText(vars int, text string) impl.Structure {
	var s impl.Structure
	if text == "-" {
		return s
	}
	parts := strings.Split(text, " ")
	for _, part := range parts {
		groups := nodePattern.FindStringSubmatch(part)
		if groups == nil || len(groups[1]) != 2*vars+1 {
			return impl.Structure{Next: []int{-1}}
		}
		truths := groups[1]
		s.Nodes = append(s.Nodes, node(truths[:vars], truths[vars:2*vars], truthsOfText(truths[2*vars:])[0], len(groups[2])))
		next := make([]int, len(parts))
		for _, target := range strings.Split(groups[3], ",") {
			if target != "" {
				next[target[0]-'0'] = 3 - len(target)
			}
		}
		s.Next = append(s.Next, next...)
	}
	return s
}

// randomStructure returns a structure whose values are among some.
func randomStructure(random *rand.Rand, vars int, count int, values []int) impl.Structure {
	s := impl.Structure{Nodes: make([]impl.Node, count), Next: make([]int, count*count)}
	for i := range s.Nodes {
		s.Nodes[i].Vars, s.Nodes[i].Reach = make([]int, vars), make([]int, vars)
	}
	for _, p := range placesOf(&s) {
		*p.value = values[random.Intn(len(values))]
		if p.name == "Many" {
			*p.value = min(*p.value, 1)
		}
	}
	return s
}

// randomStructures returns structures of every size; in some of them most values, or all, are the same.
func randomStructures(each int) []impl.Structure {
	random := rand.New(rand.NewSource(12))
	var list []impl.Structure
	for vars := 1; vars <= 4; vars++ {
		for count := 1; count <= 10; count++ {
			for _, values := range [][]int{{0}, {1}, {0, 1, 2}, {0, 0, 0, 0, 0, 1, 2}, {0, 2}, {2, 2, 2, 1, 0}} {
				for range each {
					list = append(list, randomStructure(random, vars, count, values))
				}
			}
		}
	}
	return list
}

// varsOf returns for how many variables a structure has values.
func varsOf(s impl.Structure) int { return len(s.Nodes[0].Vars) }

func checkIsStructure(t *testing.T, vars int, s impl.Structure, want bool) {
	t.Helper()
	if got := impl.IsStructure(vars, s); got != want {
		t.Errorf("IsStructure(%d, %.300s) = %t", vars, rawStructure(s), got)
	}
}

// checkStructure checks that there is a structure with a text, from which it can be read again.
func checkStructure(t *testing.T, vars int, s impl.Structure, text string) {
	t.Helper()
	checkIsStructure(t, vars, s, true)
	if got := impl.StructureText(varNames(vars), s); got != text {
		t.Errorf("StructureText of %s is %q, want %q", rawStructure(s), got, text)
	}
	if !sameStructure(structureOfText(vars, text), s) {
		t.Errorf("%q is not the text of %s alone", text, rawStructure(s))
	}
}

// checkNoStructure checks that there is no structure for any number of variables, and no text.
func checkNoStructure(t *testing.T, s impl.Structure) {
	t.Helper()
	for vars := -1; vars <= 6; vars++ {
		checkIsStructure(t, vars, s, false)
	}
	for vars := range 5 {
		checkNoStructureText(t, varNames(vars), s)
	}
}

func checkNoStructureText(t *testing.T, vars []string, s impl.Structure) {
	t.Helper()
	if got := impl.StructureText(vars, s); got != "" {
		t.Errorf("StructureText(%.99q, %.300s) = %q, want no text", vars, rawStructure(s), got)
	}
}

func checkNext(t *testing.T, s impl.Structure, i int, j int, want int) {
	t.Helper()
	if got := impl.NextOf(s, i, j); got != want {
		t.Errorf("NextOf(%.300s, %d, %d) = %d, want %d", rawStructure(s), i, j, got, want)
	}
}

func checkDefinite(t *testing.T, s impl.Structure, want bool) {
	t.Helper()
	if got := impl.IsDefinite(s); got != want {
		t.Errorf("IsDefinite(%.300s) = %t", rawStructure(s), got)
	}
}

func checkEqualStructure(t *testing.T, a impl.Structure, b impl.Structure, want bool) {
	t.Helper()
	if impl.EqualStructure(a, b) != want || impl.EqualStructure(b, a) != want {
		t.Errorf("EqualStructure(%.300s, %.300s) = %t, %t, want %t", rawStructure(a), rawStructure(b), impl.EqualStructure(a, b), impl.EqualStructure(b, a), want)
	}
}

func TestConstantsOfStructures(t *testing.T) {
	if impl.MaxNodes != 10 {
		t.Errorf("MaxNodes = %d", impl.MaxNodes)
	}
}

func TestListedStructures(t *testing.T) {
	for i, c := range structureTexts {
		checkStructure(t, c.vars, c.s, c.text)
		checkDefinite(t, c.s, wantIsDefinite(c.s))
		for vars := -1; vars <= 6; vars++ {
			checkIsStructure(t, vars, c.s, vars == c.vars || len(c.s.Nodes) == 0 && vars >= 1 && vars <= 4)
		}
		for j, other := range structureTexts {
			same := i == j || len(c.s.Nodes) == 0 && len(other.s.Nodes) == 0
			checkEqualStructure(t, c.s, cloneStructure(other.s), same)
		}
	}
}

func TestStructuresOfEverySize(t *testing.T) {
	for _, s := range randomStructures(10) {
		checkStructure(t, varsOf(s), s, wantStructureText(s))
		checkDefinite(t, s, wantIsDefinite(s))
		for vars := -1; vars <= 6; vars++ {
			checkIsStructure(t, vars, s, vars == varsOf(s))
		}
		for vars := range 5 {
			if vars != varsOf(s) {
				checkNoStructureText(t, varNames(vars), s)
			}
		}
		for place, value := range s.Next {
			checkNext(t, s, place/len(s.Nodes), place%len(s.Nodes), value)
		}
	}
}

// Promise 12, for structures that have their memory for themselves, and that two structures that differ in one value have different texts.
func TestEqualStructuresHaveTheSameText(t *testing.T) {
	for _, s := range randomStructures(1) {
		names := varNames(varsOf(s))
		text, copied := impl.StructureText(names, s), cloneStructure(s)
		checkEqualStructure(t, s, copied, true)
		if got := impl.StructureText(names, copied); got != text {
			t.Errorf("%s has the texts %q and %q", rawStructure(s), text, got)
		}
		for at, p := range placesOf(&s) {
			for value := range 3 {
				other, name := withNumber(s, at, value)
				if name == "Many" && value == 2 {
					checkNoStructure(t, other)
					continue
				}
				same := *p.value == value
				checkEqualStructure(t, s, other, same)
				checkStructure(t, varsOf(s), other, wantStructureText(other))
				if got := impl.StructureText(names, other); (got == text) != same {
					t.Errorf("%s and %s have the texts %q and %q", rawStructure(s), rawStructure(other), text, got)
				}
			}
		}
	}
}

// All structures of one node, and of two nodes over one variable: each has a text for itself, and EqualStructure tells the same as the texts.
func TestStructuresHaveDifferentTexts(t *testing.T) {
	for _, size := range [][2]int{{1, 1}, {2, 1}, {3, 1}, {1, 2}} {
		structureWith := map[string]impl.Structure{}
		s := randomStructure(rand.New(rand.NewSource(1)), size[0], size[1], []int{0})
		places := placesOf(&s)
		all := 1
		for at := 0; at >= 0; {
			text := impl.StructureText(varNames(size[0]), s)
			if other, met := structureWith[text]; met || text != wantStructureText(s) {
				t.Fatalf("%s, and perhaps %s, have the text %q", rawStructure(s), rawStructure(other), text)
			}
			structureWith[text] = cloneStructure(s)
			for at = len(places) - 1; at >= 0; at-- {
				if *places[at].value < 1 || *places[at].value < 2 && places[at].name != "Many" {
					*places[at].value++
					break
				}
				*places[at].value = 0
			}
		}
		for _, p := range places {
			all *= 3
			if p.name == "Many" {
				all = all / 3 * 2
			}
		}
		if len(structureWith) != all {
			t.Errorf("%d structures over %d variables with %d nodes, want %d", len(structureWith), size[0], size[1], all)
		}
		if size[0] == 1 && size[1] == 1 {
			for one, a := range structureWith {
				for two, b := range structureWith {
					checkEqualStructure(t, a, b, one == two)
				}
			}
		}
	}
}

func TestStructuresWithoutNodes(t *testing.T) {
	empty := []impl.Structure{{}, {Nodes: []impl.Node{}}, {Next: []int{}}, {Nodes: []impl.Node{}, Next: []int{}}, {Nodes: make([]impl.Node, 0, 9), Next: make([]int, 0, 9)}}
	for _, s := range empty {
		for vars := -3; vars <= 8; vars++ {
			checkIsStructure(t, vars, s, vars >= 1 && vars <= 4)
		}
		for vars := 1; vars <= 4; vars++ {
			checkStructure(t, vars, s, "-")
		}
		checkDefinite(t, s, true)
		for _, i := range []int{0, 1, -1, math.MinInt, math.MaxInt} {
			checkNext(t, s, i, i, 1)
			checkNext(t, s, i, 0, 1)
		}
		for _, other := range empty {
			checkEqualStructure(t, s, other, true)
		}
		for _, vars := range nonVars() {
			checkNoStructureText(t, vars, s)
		}
		for _, value := range []int{0, 1, 2, 3} {
			more := impl.Structure{Nodes: s.Nodes, Next: []int{value}}
			checkNoStructure(t, more)
			checkNext(t, more, 0, 0, 1)
			checkDefinite(t, more, value != 1)
			checkEqualStructure(t, s, more, false)
		}
		checkEqualStructure(t, s, structureOf(nodes(impl.Node{})), false)
	}
}

func TestGreatestNumberOfNodes(t *testing.T) {
	random := rand.New(rand.NewSource(2))
	for vars := 1; vars <= 4; vars++ {
		for count := 1; count <= 30; count++ {
			for _, values := range [][]int{{0}, {1}, {2}, {0, 1, 2}} {
				s := randomStructure(random, vars, count, values)
				if count <= 10 {
					checkStructure(t, vars, s, wantStructureText(s))
				} else {
					checkNoStructure(t, s)
				}
				// The limit does not concern the values.
				checkDefinite(t, s, wantIsDefinite(s))
				for i := range count {
					checkNext(t, s, i, (i*7+3)%count, s.Next[i*count+(i*7+3)%count])
				}
				checkEqualStructure(t, s, cloneStructure(s), true)
			}
		}
	}
}

func TestNumbersOfVariables(t *testing.T) {
	for have := range 7 {
		for _, count := range []int{1, 2, 10} {
			s := randomStructure(rand.New(rand.NewSource(3)), have, count, []int{0, 1, 2})
			for vars := -5; vars <= 8; vars++ {
				checkIsStructure(t, vars, s, vars == have && vars >= 1 && vars <= 4)
			}
			for _, vars := range []int{1 << 32, 1<<32 + have, have - 1<<32, 256 + have, -have - 1, math.MinInt, math.MaxInt} {
				checkIsStructure(t, vars, s, false)
				checkIsStructure(t, vars, impl.Structure{}, false)
			}
			checkDefinite(t, s, wantIsDefinite(s))
			checkNext(t, s, count-1, 0, s.Next[(count-1)*count])
		}
	}
	// As many variables as no structure has, or as the nodes do not have.
	five := []string{"a", "b", "c", "d", "e"}
	for vars := range 6 {
		s := randomStructure(rand.New(rand.NewSource(4)), vars, 2, []int{0, 1, 2})
		for have := range 6 {
			text := impl.StructureText(five[:have], s)
			if (text != "") != (have == vars && vars >= 1 && vars <= 4) {
				t.Errorf("StructureText(%q, %s) = %q", five[:have], rawStructure(s), text)
			}
		}
	}
}

// The names of the variables do not show in the text, but they have to be ones.
func TestStructureTextOfOtherNames(t *testing.T) {
	for _, c := range structureTexts {
		for _, vars := range [][]string{{"x"}, {"zz"}, {"x", "y"}, {"y", "x"}, {"x", "y", "t"}, {"on", "o", "n"}, {"z", "zz", "a", "az"}} {
			want := ""
			if len(vars) == c.vars || len(c.s.Nodes) == 0 {
				want = c.text
			}
			if got := impl.StructureText(vars, c.s); got != want {
				t.Errorf("StructureText(%q, %s) = %q, want %q", vars, rawStructure(c.s), got, want)
			}
		}
	}
	for vars := 1; vars <= 4; vars++ {
		s := randomStructure(rand.New(rand.NewSource(5)), vars, 3, []int{0, 1, 2})
		for _, names := range nonVars() {
			checkNoStructureText(t, names, s)
		}
	}
}

// Every number in turn is no truth value, or Many is True.
func TestNumbersThatAreNoTruthValues(t *testing.T) {
	random := rand.New(rand.NewSource(6))
	for vars := 1; vars <= 4; vars++ {
		for _, count := range []int{1, 2, 3, 10} {
			for _, values := range [][]int{{0, 2}, {0, 1, 2}} {
				s := randomStructure(random, vars, count, values)
				for at := range placesOf(&s) {
					for _, none := range nonTruths {
						other, _ := withNumber(s, at, none)
						checkIsStructure(t, vars, other, false)
						checkNoStructureText(t, varNames(vars), other)
						checkDefinite(t, other, wantIsDefinite(other))
						checkEqualStructure(t, s, other, false)
						checkEqualStructure(t, other, cloneStructure(other), true)
					}
				}
				for i := range s.Nodes {
					other := cloneStructure(s)
					other.Nodes[i].Many = 2
					checkNoStructure(t, other)
					checkDefinite(t, other, wantIsDefinite(other))
				}
			}
		}
	}
}

// Vars or Reach of one node alone are too short or too long, also where both together have the right length.
func TestListsOfOtherLengths(t *testing.T) {
	for vars := 1; vars <= 4; vars++ {
		for _, count := range []int{1, 2, 5, 10} {
			s := randomStructure(rand.New(rand.NewSource(7)), vars, count, []int{0, 1, 2})
			for i := range count {
				list := s.Nodes[i].Vars
				for _, wrong := range [][]int{nil, {}, list[:vars-1], append(slices.Clone(list), 0), append(slices.Clone(list), 0, 2)} {
					other := cloneStructure(s)
					other.Nodes[i].Vars = wrong
					checkWrongList(t, vars, s, other)
					other.Nodes[i].Reach = append(slices.Clone(s.Nodes[i].Reach), s.Nodes[i].Vars[min(len(wrong), vars):]...)
					checkWrongList(t, vars, s, other)
					other = cloneStructure(s)
					other.Nodes[i].Reach = wrong
					checkWrongList(t, vars, s, other)
				}
				// A wrong list may hold what would be a text of the right length.
				moved := cloneStructure(s)
				moved.Nodes[i].Vars = append(moved.Nodes[i].Vars, moved.Nodes[i].Reach[0])
				moved.Nodes[i].Reach = moved.Nodes[i].Reach[1:]
				checkWrongList(t, vars, s, moved)
			}
		}
	}
}

func checkWrongList(t *testing.T, vars int, s impl.Structure, other impl.Structure) {
	t.Helper()
	if len(other.Nodes) > 1 || len(other.Nodes[0].Vars) != len(other.Nodes[0].Reach) {
		checkNoStructure(t, other)
	}
	checkIsStructure(t, vars, other, false)
	checkNoStructureText(t, varNames(vars), other)
	checkEqualStructure(t, s, other, false)
	checkDefinite(t, other, wantIsDefinite(other))
	last := len(s.Nodes) - 1
	checkNext(t, other, 0, last, s.Next[last])
	checkNext(t, other, last, 0, s.Next[last*len(s.Nodes)])
}

// Next of any length but the square of the number of nodes has no element for any pair.
func TestNextOfOtherLengths(t *testing.T) {
	for _, count := range []int{1, 2, 3, 9, 10, 11} {
		for vars := 1; vars <= 4; vars++ {
			s := randomStructure(rand.New(rand.NewSource(8)), vars, count, []int{0, 2})
			next := append(slices.Clone(s.Next), slices.Repeat([]int{2, 0}, count+1)...)
			lengths := []int{0, 1, count, 2 * count, count*count - count, count*count - 1, count*count + 1, count*count + count, len(next)}
			for _, length := range lengths {
				if length == count*count {
					continue
				}
				other := impl.Structure{Nodes: s.Nodes, Next: next[:length]}
				checkNoStructure(t, other)
				checkEqualStructure(t, s, other, false)
				checkDefinite(t, other, wantIsDefinite(other))
				for i := -1; i <= count; i++ {
					for j := -1; j <= count; j++ {
						checkNext(t, other, i, j, 1)
					}
				}
			}
			other := impl.Structure{Nodes: s.Nodes[:count-1], Next: s.Next}
			checkNoStructure(t, other)
			checkNext(t, other, 0, 0, 1)
			other = impl.Structure{Nodes: append(slices.Clone(s.Nodes), s.Nodes[0]), Next: s.Next}
			checkNoStructure(t, other)
			checkNext(t, other, 0, 0, 1)
			checkNext(t, other, count-1, count-1, 1)
		}
	}
}

// wrongIndices lists numbers that are no node; the low bits of some are those of one.
var wrongIndices = []int{-1, -2, -10, 11, 100, 256, -256, 1 << 32, 1<<32 + 1, -1 << 32, 1 - 1<<32, 1 << 62, 1 << 61, -1 << 62, math.MinInt, math.MinInt + 1, math.MaxInt, math.MaxInt - 1, math.MaxInt32, math.MinInt32}

func TestNextOfPairs(t *testing.T) {
	for count := 1; count <= 11; count++ {
		// Each pair has a number of its own, which is no truth value.
		s := impl.Structure{Nodes: make([]impl.Node, count)}
		for place := range count * count {
			s.Next = append(s.Next, 1000+place)
		}
		for i := -2; i <= count+1; i++ {
			for j := -2; j <= count+1; j++ {
				want := 1
				if 0 <= i && i < count && 0 <= j && j < count {
					want = 1000 + i*count + j
				}
				checkNext(t, s, i, j, want)
			}
			for _, wrong := range append([]int{count, count * count, -count, count*count - 1 + count}, wrongIndices...) {
				if wrong >= 0 && wrong < count {
					continue
				}
				checkNext(t, s, wrong, i, 1)
				checkNext(t, s, i, wrong, 1)
				checkNext(t, s, wrong, -wrong, 1)
				checkNext(t, s, wrong, wrong, 1)
			}
		}
	}
}

// NextOf gives the element as it is, whatever else the structure has.
func TestNextOfWhatIsNoStructure(t *testing.T) {
	for _, value := range append([]int{0, 1, 2}, nonTruths...) {
		for _, n := range nodes(impl.Node{}, node("0000000", "1", 0, 0), node("1", "1", 7, 0), node("1", "1", 0, 2), impl.Node{Vars: []int{9}, Reach: []int{-9}, Shared: -1, Many: -1}) {
			checkNext(t, structureOf(nodes(n), value), 0, 0, value)
			checkNext(t, structureOf(nodes(n, n), value, 0, 0, 0), 0, 0, value)
			checkNext(t, structureOf(nodes(n, n), 0, value, 0, 0), 0, 1, value)
			checkNext(t, structureOf(nodes(n, n), 0, 0, value, 0), 1, 0, value)
			checkNext(t, structureOf(nodes(n, n), 0, 0, 0, value), 1, 1, value)
			checkNext(t, structureOf(nodes(n, n), 0, 0, 0, value), 0, 1, 0)
			checkNext(t, structureOf(nodes(n, n), 0, 0, 0, value), 1, 2, 1)
		}
	}
}

// One value alone is Half: at each place of a definite structure, and of what is none.
func TestOneHalf(t *testing.T) {
	for vars := range 6 {
		for _, count := range []int{1, 2, 3, 10, 12} {
			for _, values := range [][]int{{0}, {2}, {0, 2}, {0, 2, 3, -1, 256, 257}} {
				s := randomStructure(rand.New(rand.NewSource(9)), vars, count, values)
				for i := range s.Nodes {
					s.Nodes[i].Many = values[0]
				}
				checkDefinite(t, s, true)
				for at := range placesOf(&s) {
					other, _ := withNumber(s, at, 1)
					checkDefinite(t, other, false)
				}
			}
		}
	}
	one := node("1", "1", 0, 0)
	checkDefinite(t, structureOf(nodes(one), 0, 0, 0, 1), false)
	checkDefinite(t, structureOf(nodes(one), 1, 0, 0, 0), false)
	checkDefinite(t, structureOf(nodes(one, one), 1), false)
	checkDefinite(t, structureOf(nodes(one, one), 2), true)
	checkDefinite(t, structureOf(nodes(one, one)), true)
	checkDefinite(t, structureOf(nil, 2, 0, 5), true)
	checkDefinite(t, structureOf(nil, 2, 0, 1), false)
	checkDefinite(t, structureOf(nodes(impl.Node{})), true)
	checkDefinite(t, structureOf(nodes(impl.Node{Vars: []int{2}, Reach: []int{2, 2, 1}})), false)
}

// Fields alone decide, whether the arguments are structures or not; nil and empty slices are the same.
func TestEqualStructure(t *testing.T) {
	one, bare := node("1", "1", 0, 0), impl.Node{}
	empty := impl.Node{Vars: []int{}, Reach: []int{}}
	checkEqualStructure(t, structureOf(nodes(bare)), structureOf(nodes(empty)), true)
	checkEqualStructure(t, structureOf(nodes(bare, empty), 7), structureOf(nodes(empty, bare), 7), true)
	checkEqualStructure(t, structureOf(nodes(bare)), structureOf(nodes(bare, bare)), false)
	checkEqualStructure(t, structureOf(nodes(bare)), structureOf(nodes(bare), 0), false)
	checkEqualStructure(t, structureOf(nodes(bare)), structureOf(nodes(one)), false)
	checkEqualStructure(t, structureOf(nodes(one), 0), structureOf(nodes(one), 0, 0), false)
	checkEqualStructure(t, structureOf(nodes(one, bare), 0), structureOf(nodes(bare, one), 0), false)
	checkEqualStructure(t, structureOf(nodes(one, bare), 0), structureOf(nodes(one), 0), false)
	checkEqualStructure(t, structureOf(nodes(node("10", "1", 0, 0))), structureOf(nodes(node("1", "01", 0, 0))), false)
	checkEqualStructure(t, structureOf(nodes(node("10", "", 0, 0))), structureOf(nodes(node("1", "0", 0, 0))), false)
	checkEqualStructure(t, structureOf(nodes(node("1", "0", 0, 0))), structureOf(nodes(node("0", "1", 0, 0))), false)
	checkEqualStructure(t, structureOf(nodes(node("1", "1", 1, 0))), structureOf(nodes(node("1", "1", 0, 1))), false)
	checkEqualStructure(t, structureOf(nodes(node("1", "1", 0, 2))), structureOf(nodes(node("1", "1", 0, 2))), true)
	checkEqualStructure(t, structureOf(nodes(node("1", "1", 0, 2))), structureOf(nodes(node("1", "1", 0, 1))), false)
	checkEqualStructure(t, structureOf(nodes(one), 0, 2), structureOf(nodes(one), 2, 0), false)
	for _, c := range structureTexts {
		for at := range placesOf(&c.s) {
			for _, step := range []int{1, -1, 3, 256, 1 << 32, math.MinInt} {
				other := cloneStructure(c.s)
				*placesOf(&other)[at].value += step
				checkEqualStructure(t, c.s, other, false)
			}
		}
		for i := range c.s.Nodes {
			other := cloneStructure(c.s)
			other.Nodes[i].Vars = append(other.Nodes[i].Vars, 0)
			checkEqualStructure(t, c.s, other, false)
			other = cloneStructure(c.s)
			other.Nodes[i].Reach = append(other.Nodes[i].Reach, 0)
			checkEqualStructure(t, c.s, other, false)
			other = cloneStructure(c.s)
			other.Nodes = slices.Delete(other.Nodes, i, i+1)
			checkEqualStructure(t, c.s, other, false)
		}
		checkEqualStructure(t, c.s, impl.Structure{Nodes: c.s.Nodes, Next: append(slices.Clone(c.s.Next), 0)}, false)
	}
}

// Random numbers at every place, and lists of random lengths.
func TestOddStructures(t *testing.T) {
	random := rand.New(rand.NewSource(10))
	valid := 0
	for range 20000 {
		vars, count := 1+random.Intn(4), random.Intn(12)
		s := randomStructure(random, vars, count, []int{0, 1, 2})
		for _, p := range placesOf(&s) {
			if random.Intn(200) == 0 {
				*p.value = random.Intn(5) - 1
			}
		}
		for i := range s.Nodes {
			n := &s.Nodes[i]
			if random.Intn(50) == 0 {
				n.Vars = append(n.Vars, 0, 1)[:random.Intn(len(n.Vars)+2)]
			}
			if random.Intn(50) == 0 {
				n.Reach = append(n.Reach, 0, 1)[:random.Intn(len(n.Reach)+2)]
			}
		}
		if random.Intn(10) == 0 {
			s.Next = append(s.Next, 0, 1)[:random.Intn(len(s.Next)+2)]
		}
		checkDefinite(t, s, wantIsDefinite(s))
		checkIsStructure(t, vars, s, wantIsStructure(vars, s))
		if wantIsStructure(vars, s) {
			valid++
			checkStructure(t, vars, s, wantStructureText(s))
		} else {
			checkNoStructureText(t, varNames(vars), s)
		}
	}
	if valid < 1000 || valid > 19000 {
		t.Errorf("%d structures are valid", valid)
	}
}

func TestLargeStructures(t *testing.T) {
	const count = 1000
	s := randomStructure(rand.New(rand.NewSource(11)), 2, count, []int{0, 2})
	for i := range s.Nodes {
		s.Nodes[i].Many = 0
	}
	checkNoStructure(t, s)
	checkDefinite(t, s, true)
	checkEqualStructure(t, s, cloneStructure(s), true)
	checkNext(t, s, count-1, count-1, s.Next[count*count-1])
	checkNext(t, s, 0, count-1, s.Next[count-1])
	checkNext(t, s, 1, 0, s.Next[count])
	other := cloneStructure(s)
	other.Next[count*count-1] = 1
	checkDefinite(t, other, false)
	checkEqualStructure(t, s, other, false)
	checkNext(t, other, count-1, count-1, 1)
	long := structureOf(nodes(impl.Node{Vars: make([]int, 1000000), Reach: make([]int, 1000000)}), 0)
	checkNoStructure(t, long)
	checkDefinite(t, long, true)
	long.Nodes[0].Reach[999999] = 1
	checkDefinite(t, long, false)
	checkNext(t, long, 0, 0, 0)
	checkNoStructure(t, structureOf(nodes(node("1", "1", 0, 0)), make([]int, 1000000)...))
	checkNoStructure(t, structureOf(make([]impl.Node, 1000000)))
}

// roomyStructure returns a structure whose slices are followed by others in their memory.
func roomyStructure(s impl.Structure) impl.Structure {
	more := func(list []int) []int { return append(slices.Clone(list), 77, 78, 79)[:len(list)] }
	list := append(cloneStructure(s).Nodes, node("1", "0", 80, 81), node("0", "1", 82, 83))[:len(s.Nodes)]
	for i, n := range list {
		list[i].Vars, list[i].Reach = more(n.Vars), more(n.Reach)
	}
	return impl.Structure{Nodes: list, Next: more(s.Next)}
}

// wholeOf returns a roomy structure with what is behind its slices.
func wholeOf(s impl.Structure) impl.Structure {
	more := func(list []int) []int { return list[:len(list)+3] }
	whole := impl.Structure{Nodes: slices.Clone(s.Nodes[:len(s.Nodes)+2]), Next: more(s.Next)}
	for i, n := range s.Nodes {
		whole.Nodes[i].Vars, whole.Nodes[i].Reach = more(n.Vars), more(n.Reach)
	}
	return whole
}

// Neither the values of the arguments nor what is behind them changes.
func TestStructuresLeaveArgumentsAlone(t *testing.T) {
	list := randomStructures(2)
	for _, c := range structureTexts {
		list = append(list, c.s)
	}
	list = append(list, structureOf(nodes(impl.Node{})), structureOf(nodes(node("12", "3", 4, 5)), 6, 7), randomStructure(rand.New(rand.NewSource(13)), 2, 12, []int{0, 1, 2}))
	for _, s := range list {
		one, two, names := roomyStructure(s), roomyStructure(s), []string{"x", "y", "z", "t", "u", "spare"}
		before := rawStructure(wholeOf(one))
		for vars := range 6 {
			impl.IsStructure(vars, one)
			impl.StructureText(names[:vars], one)
		}
		impl.IsDefinite(one)
		impl.EqualStructure(one, two)
		for i := range len(s.Nodes) + 2 {
			impl.NextOf(one, i, 0)
			impl.NextOf(one, 0, i-1)
		}
		if rawStructure(wholeOf(one)) != before || rawStructure(wholeOf(two)) != before {
			t.Fatalf("%s becomes %s and %s", before, rawStructure(wholeOf(one)), rawStructure(wholeOf(two)))
		}
		if !slices.Equal(names, []string{"x", "y", "z", "t", "u", "spare"}) {
			t.Fatalf("the names become %q", names)
		}
	}
}

// Nodes may have the same memory for their lists; and an answer stays when the structure for which it was given changes.
func TestStructuresThatShareMemory(t *testing.T) {
	list := []int{2, 0, 1, 0}
	shared := structureOf(nodes(impl.Node{Vars: list[:2], Reach: list[1:3]}, impl.Node{Vars: list[2:4], Reach: list[:2], Many: 1}), list...)
	text := impl.StructureText([]string{"x", "y"}, shared)
	if text != "100?0>0 ?0100*>0?" {
		t.Errorf("StructureText of lists that share memory is %q", text)
	}
	checkEqualStructure(t, shared, cloneStructure(shared), true)
	list[0], list[2] = 1, 3
	if text != "100?0>0 ?0100*>0?" {
		t.Errorf("the text becomes %q", text)
	}
	checkNoStructure(t, shared)
	list[2] = 0
	checkStructure(t, 2, shared, "?0000>0? 00?00*")
}
