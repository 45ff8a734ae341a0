package tests

import (
	"fmt"
	"math"
	"slices"
	"strings"
	"testing"

	"loop.example/g00590/impl"
)

// runs lists programs, heaps and edges, and the state at the end, the name of the code and the number of edges that were followed.
var runs = []struct {
	program, heap string
	edges         []int
	point         int
	end, code     string
	followed      int
}{
	// Several edges: a list is reversed, walked along, freed and built; a loop comes back; one edge is followed twice.
	{"x y t;7;0 1 y=null;1 6 x==null;1 2 x!=null;2 3 t=y;3 4 y=x;4 5 x=x.n;5 1 y.n=t", "x=0 y=- t=- 0>1 1>-", []int{0, 2, 3, 4, 5, 6, 2, 3, 4, 5, 6, 1}, 6, "x=- y=0 t=1 0>1 1>-", "ok", 12},
	{"x y t;7;0 1 y=null;1 6 x==null;1 2 x!=null;2 3 t=y;3 4 y=x;4 5 x=x.n;5 1 y.n=t", "x=0 y=- t=- 0>1 1>-", []int{0, 2, 3, 4, 5}, 5, "x=0 y=1 t=- 0>- 1>0", "ok", 5},
	{"x y;4;0 1 y=x;1 2 y!=null;2 1 y=y.n;1 3 y==null", "x=0 y=- 0>1 1>-", []int{0, 1, 2, 1, 2, 3}, 3, "x=0 y=- 0>1 1>-", "ok", 6},
	{"x t;6;0 5 x==null;0 1 x!=null;1 2 t=x.n;2 3 free x;3 4 x=t;4 0 t=null", "x=0 t=- 0>1 1>-", []int{1, 2, 3, 4, 5, 1, 2, 3, 4, 5, 0}, 5, "x=- t=-", "ok", 11},
	{"x y;4;0 1 y=new;1 2 y.n=x;2 3 x=y;3 0 y=null", "x=- y=-", []int{0, 1, 2, 3, 0, 1, 2}, 3, "x=0 y=0 0>1 1>-", "ok", 7},
	{"x;2;0 1 skip;1 0 skip", "x=0 0>-", []int{0, 1, 0, 1, 0}, 1, "x=0 0>-", "ok", 5},
	{"x y;1;0 0 y=x;0 0 y=null", "x=0 y=- 0>-", []int{0, 0, 1, 1, 0}, 0, "x=0 y=0 0>-", "ok", 5},

	// No edge.
	{"x;1", "x=-", nil, 0, "x=-", "ok", 0},
	{"x y;2;0 1 free x;0 1 x==null", "x=0 y=1 0>1 1>-", []int{}, 0, "x=0 y=1 0>1 1>-", "ok", 0},

	// An edge that cannot be followed, with each code: the first one, and a later one; the state is the one before it.
	{"x;2;0 1 x==null", "x=0 0>-", []int{0}, 0, "x=0 0>-", "blocked", 0},
	{"x y;3;0 1 y=x;1 2 x!=y", "x=0 y=- 0>-", []int{0, 1}, 1, "x=0 y=0 0>-", "blocked", 1},
	{"x y;3;0 1 y=x.n;1 2 x=y.n", "x=- y=-", []int{0, 1}, 0, "x=- y=-", "null", 0},
	{"x y;3;0 1 y=x.n;1 2 x=y.n", "x=0 y=- 0>-", []int{0, 1}, 1, "x=0 y=- 0>-", "null", 1},
	{"x y;2;0 1 x.n=y", "x=0 y=0 0>-", []int{0}, 0, "x=0 y=0 0>-", "cycle", 0},
	{"x y;3;0 1 y=x.n;1 2 y.n=x", "x=0 y=- 0>1 1>-", []int{0, 1}, 1, "x=0 y=1 0>1 1>-", "cycle", 1},
	{"x;2;0 1 x=new", "x=0 0>1 1>-", []int{0, 0}, 0, "x=0 0>1 1>-", "leak", 0},
	{"x y;3;0 1 x=new;1 2 x=null", "x=- y=-", []int{0, 1}, 1, "x=0 y=- 0>-", "leak", 1},
	{"x y;3;0 1 y=x.n;1 2 x.n=null;2 2 y=x.n", "x=0 y=- 0>1 1>-", []int{0, 1, 2}, 2, "x=0 y=1 0>- 1>-", "leak", 2},
	{"x y;2;0 1 free y", "x=0 y=0 0>-", []int{0}, 0, "x=0 y=0 0>-", "dangling", 0},
	{"x y;3;0 1 y=x;1 2 free x", "x=0 y=- 0>-", []int{0, 1}, 1, "x=0 y=0 0>-", "dangling", 1},
	{"x y;2;0 1 y=new", "x=0 y=- 0>1 1>2 2>3 3>4 4>5 5>-", []int{0}, 0, "x=0 y=- 0>1 1>2 2>3 3>4 4>5 5>-", "full", 0},
	{"x y;4;0 1 y=new;1 2 y.n=x;2 3 x=y;3 0 y=null", "x=0 y=- 0>1 1>2 2>3 3>4 4>-", []int{0, 1, 2, 3, 0, 1, 2}, 0, "x=0 y=- 0>1 1>2 2>3 3>4 4>5 5>-", "full", 4},

	// An edge that does not exist, and one that does not begin at the point: the first one, and a later one.
	{"x;1", "x=-", []int{0}, 0, "x=-", "bad", 0},
	{"x;2;0 1 skip", "x=0 0>-", []int{1}, 0, "x=0 0>-", "bad", 0},
	{"x;2;0 1 skip", "x=0 0>-", []int{-1}, 0, "x=0 0>-", "bad", 0},
	{"x;2;0 1 skip;1 1 skip", "x=0 0>-", []int{0, 1, 1, 2}, 1, "x=0 0>-", "bad", 3},
	{"x;2;0 1 skip;1 0 skip", "x=-", []int{1}, 0, "x=-", "bad", 0},
	{"x;2;0 1 skip;1 0 skip", "x=-", []int{0, 0}, 1, "x=-", "bad", 1},
	{"x;2;0 1 x=new;1 0 x.n=null", "x=-", []int{0, 1, 1, 0}, 0, "x=0 0>-", "bad", 2},
	{"x y t;7;0 1 y=null;1 6 x==null;1 2 x!=null;2 3 t=y;3 4 y=x;4 5 x=x.n;5 1 y.n=t", "x=0 y=- t=- 0>1 1>-", []int{0, 5}, 1, "x=0 y=- t=- 0>1 1>-", "bad", 1},
	// It would be blocked, and fail, if it began at the point.
	{"x;3;0 1 skip;2 1 x==null;2 1 x=null", "x=0 0>-", []int{0, 1}, 1, "x=0 0>-", "bad", 1},
	{"x;3;0 1 skip;2 1 x==null;2 1 x=null", "x=0 0>-", []int{2}, 0, "x=0 0>-", "bad", 0},

	// The first edge that cannot be followed decides, whatever comes behind it.
	{"x;2;0 1 x==null;0 1 x=null", "x=0 0>-", []int{0, 1, 99}, 0, "x=0 0>-", "blocked", 0},
	{"x;2;0 1 x==null;0 1 x=null", "x=0 0>-", []int{1, 0, -5}, 0, "x=0 0>-", "leak", 0},
	{"x;2;0 1 x==null;0 1 skip", "x=0 0>-", []int{2, 1}, 0, "x=0 0>-", "bad", 0},
}

// stateLists lists programs, heaps to start from, and the states of StatesFrom in order, each as its point, ":" and its heap.
var stateLists = []struct {
	program       string
	start, states []string
}{
	// No heap, and heaps that occur again.
	{"x;2;0 1 skip", nil, nil},
	{"x;1", []string{"x=-"}, []string{"0:x=-"}},
	{"x;1", []string{"x=-", "x=-", "x=-"}, []string{"0:x=-"}},
	{"x;1", []string{"x=0 0>-", "x=-", "x=0 0>-", "x=0 0>1 1>-", "x=-"}, []string{"0:x=0 0>-", "0:x=-", "0:x=0 0>1 1>-"}},
	{"x y t;7;0 1 y=null;1 6 x==null;1 2 x!=null;2 3 t=y;3 4 y=x;4 5 x=x.n;5 1 y.n=t", []string{"x=- y=- t=-", "x=- y=- t=-"}, []string{"0:x=- y=- t=-", "1:x=- y=- t=-", "6:x=- y=- t=-"}},

	// Heaps that differ in one element alone, or in their numbers of cells alone.
	{"x y;1", []string{"x=0 y=- 0>-", "x=0 y=0 0>-", "x=0 y=1 0>- 1>-", "x=0 y=1 0>1 1>-", "x=0 y=1 0>- 1>0"}, []string{"0:x=0 y=- 0>-", "0:x=0 y=0 0>-", "0:x=0 y=1 0>- 1>-", "0:x=0 y=1 0>1 1>-", "0:x=0 y=1 0>- 1>0"}},
	{"x;1", []string{"x=0 0>1 1>2 2>-", "x=0 0>1 1>2 2>3 3>-", "x=0 0>1 1>-"}, []string{"0:x=0 0>1 1>2 2>-", "0:x=0 0>1 1>2 2>3 3>-", "0:x=0 0>1 1>-"}},

	// All heaps of start come before the states to which edges lead, and what is met first comes first: not the ways one after another.
	{"x;3;0 1 skip;1 2 skip", []string{"x=-", "x=0 0>-"}, []string{"0:x=-", "0:x=0 0>-", "1:x=-", "1:x=0 0>-", "2:x=-", "2:x=0 0>-"}},
	{"x;5;0 1 skip;1 2 skip;0 3 skip;3 4 skip", []string{"x=-"}, []string{"0:x=-", "1:x=-", "3:x=-", "2:x=-", "4:x=-"}},
	{"x;5;3 4 skip;0 3 skip;1 2 skip;0 1 skip", []string{"x=-"}, []string{"0:x=-", "3:x=-", "1:x=-", "4:x=-", "2:x=-"}},
	{"x;4;0 3 skip;0 1 skip;0 2 skip", []string{"x=-"}, []string{"0:x=-", "3:x=-", "1:x=-", "2:x=-"}},

	// Edges that lead to the same state, to a state of the list, to the state itself, and back to a heap of start.
	{"x;2;0 1 skip;0 1 x==x;0 1 x=x", []string{"x=-"}, []string{"0:x=-", "1:x=-"}},
	{"x;4;0 1 skip;0 2 skip;1 3 skip;2 3 skip", []string{"x=-"}, []string{"0:x=-", "1:x=-", "2:x=-", "3:x=-"}},
	{"x;1;0 0 skip", []string{"x=0 0>-"}, []string{"0:x=0 0>-"}},
	{"x;3;0 1 skip;1 2 skip;2 0 skip", []string{"x=0 0>-"}, []string{"0:x=0 0>-", "1:x=0 0>-", "2:x=0 0>-"}},
	{"x y;2;0 1 y=x;1 0 y=null", []string{"x=0 y=0 0>-"}, []string{"0:x=0 y=0 0>-", "1:x=0 y=0 0>-", "0:x=0 y=- 0>-"}},
	{"x;1;0 0 x=new;0 0 free x", []string{"x=0 0>-", "x=-"}, []string{"0:x=0 0>-", "0:x=-"}},

	// Edges that cannot be followed lead nowhere: blocked, null, cycle, leak, dangling and full; the ones behind them do.
	{"x;3;0 1 x==null;0 2 x!=null", []string{"x=-", "x=0 0>-"}, []string{"0:x=-", "0:x=0 0>-", "1:x=-", "2:x=0 0>-"}},
	{"x y;3;0 1 y=x.n;0 2 y.n=x", []string{"x=- y=-"}, []string{"0:x=- y=-"}},
	{"x y;4;0 1 x.n=y;0 2 x=null;0 3 free x;0 2 y=null", []string{"x=0 y=0 0>-"}, []string{"0:x=0 y=0 0>-", "2:x=- y=0 0>-", "2:x=0 y=- 0>-"}},
	{"x y;3;0 1 y=new;0 2 x=null", []string{"x=0 y=- 0>1 1>2 2>3 3>4 4>5 5>-"}, []string{"0:x=0 y=- 0>1 1>2 2>3 3>4 4>5 5>-"}},
	{"x;3;1 2 skip", []string{"x=-"}, []string{"0:x=-"}},

	// The examples of walking along a list, freeing it, and of a leak.
	{"x y;4;0 1 y=x;1 2 y!=null;2 1 y=y.n;1 3 y==null", []string{"x=0 y=- 0>1 1>-"}, []string{"0:x=0 y=- 0>1 1>-", "1:x=0 y=0 0>1 1>-", "2:x=0 y=0 0>1 1>-", "1:x=0 y=1 0>1 1>-", "2:x=0 y=1 0>1 1>-", "1:x=0 y=- 0>1 1>-", "3:x=0 y=- 0>1 1>-"}},
	{"x t;6;0 5 x==null;0 1 x!=null;1 2 t=x.n;2 3 free x;3 4 x=t;4 0 t=null", []string{"x=0 t=- 0>1 1>-"}, []string{"0:x=0 t=- 0>1 1>-", "1:x=0 t=- 0>1 1>-", "2:x=0 t=1 0>1 1>-", "3:x=- t=0 0>-", "4:x=0 t=0 0>-", "0:x=0 t=- 0>-", "1:x=0 t=- 0>-", "2:x=0 t=- 0>-", "3:x=- t=-", "4:x=- t=-", "0:x=- t=-", "5:x=- t=-"}},
	{"x y;3;0 1 x=new;1 2 x=null", []string{"x=0 y=- 0>-", "x=- y=-"}, []string{"0:x=0 y=- 0>-", "0:x=- y=-", "1:x=0 y=- 0>-"}},
}

// smallHeapTexts has the texts of SmallHeaps for some numbers of variables and cells.
var smallHeapTexts = []struct {
	vars, cells int
	texts       []string
}{
	{1, 0, []string{"a=-"}},
	{4, 0, []string{"a=- b=- c=- d=-"}},
	{1, 3, []string{"a=-", "a=0 0>-", "a=0 0>1 1>-", "a=0 0>1 1>2 2>-"}},
	{2, 1, []string{"a=- b=-", "a=- b=0 0>-", "a=0 b=- 0>-", "a=0 b=0 0>-"}},
	{2, 2, []string{"a=- b=-", "a=- b=0 0>-", "a=0 b=- 0>-", "a=0 b=0 0>-", "a=- b=0 0>1 1>-", "a=0 b=- 0>1 1>-", "a=0 b=0 0>1 1>-", "a=0 b=1 0>- 1>-", "a=0 b=1 0>- 1>0", "a=0 b=1 0>1 1>-"}},
	{4, 1, []string{
		"a=- b=- c=- d=-", "a=- b=- c=- d=0 0>-", "a=- b=- c=0 d=- 0>-", "a=- b=- c=0 d=0 0>-", "a=- b=0 c=- d=- 0>-", "a=- b=0 c=- d=0 0>-", "a=- b=0 c=0 d=- 0>-", "a=- b=0 c=0 d=0 0>-",
		"a=0 b=- c=- d=- 0>-", "a=0 b=- c=- d=0 0>-", "a=0 b=- c=0 d=- 0>-", "a=0 b=- c=0 d=0 0>-", "a=0 b=0 c=- d=- 0>-", "a=0 b=0 c=- d=0 0>-", "a=0 b=0 c=0 d=- 0>-", "a=0 b=0 c=0 d=0 0>-",
	}},
}

// nonEdges lists numbers that are no edge of any program; the low bits of some are those of one.
var nonEdges = []int{-1, 24, 25, math.MinInt, math.MaxInt, -24, 256, -256, 1 << 32, 1<<32 + 1, -1 << 32, 1 - 1<<32, math.MinInt + 1, math.MaxInt - 1, math.MaxInt32, math.MinInt32}

// A brokenProgram is no program, and the reason for that.
type brokenProgram struct {
	why string
	p   impl.Program
}

func brokenPrograms() []brokenProgram {
	skip := impl.Edge{Stmt: impl.Stmt{Kind: impl.StSkip}}
	with := func(e impl.Edge) impl.Program {
		return impl.Program{Vars: []string{"a", "b"}, Points: 2, Edges: []impl.Edge{skip, e}}
	}
	list := []brokenProgram{
		{"no variables", impl.Program{Points: 1}},
		{"the zero Program", impl.Program{}},
		{"too many variables", impl.Program{Vars: []string{"a", "b", "c", "d", "e"}, Points: 1}},
		{"a variable twice", impl.Program{Vars: []string{"a", "a"}, Points: 1}},
		{"a variable that is no name", impl.Program{Vars: []string{"a", "abc"}, Points: 1}},
		{"too many edges", impl.Program{Vars: []string{"a"}, Points: 1, Edges: edgesOf(25, skip)}},
		{"no kind", with(impl.Edge{})},
		{"another kind", with(impl.Edge{Stmt: impl.Stmt{Kind: 13, A: "a", B: "b"}})},
		{"no name", with(impl.Edge{Stmt: impl.Stmt{Kind: impl.StNull}})},
		{"a name that is no variable", with(impl.Edge{Stmt: impl.Stmt{Kind: impl.StCopy, A: "a", B: "c"}})},
		{"a name that is not used", with(impl.Edge{Stmt: impl.Stmt{Kind: impl.StNull, A: "a", B: "b"}})},
	}
	for _, points := range []int{0, -1, 13, math.MinInt, math.MaxInt, 1<<32 + 1} {
		list = append(list, brokenProgram{"the number of points", impl.Program{Vars: []string{"a"}, Points: points, Edges: []impl.Edge{skip}}})
	}
	for _, point := range []int{-1, 2, math.MinInt, math.MaxInt, 1 << 32, 1<<32 + 1} {
		list = append(list, brokenProgram{"From", with(impl.Edge{From: point, Stmt: skip.Stmt})}, brokenProgram{"To", with(impl.Edge{To: point, Stmt: skip.Stmt})})
	}
	return list
}

// heapsThatAreNone returns what is no heap for so many variables.
func heapsThatAreNone(vars int) []impl.Heap {
	nulls, zeros := slices.Repeat([]int{-1}, vars), slices.Repeat([]int{0}, vars)
	list := []impl.Heap{
		{}, heapOf(nulls, -1), heapOf(zeros), heapOf(zeros, 0), heapOf(zeros, 1, 0), heapOf(zeros, 1, 2), heapOf(zeros, -1, -1), heapOf(slices.Repeat([]int{1}, vars), -1, 0),
		heapOf(zeros, 1, 2, 3, 4, 5, 6, -1), heapOf(nulls[1:]), heapOf(append(slices.Clone(nulls), -1)), heapOf(zeros[1:], -1), heapOf(append(slices.Clone(zeros), 0), -1),
	}
	for _, wrong := range wrongElements {
		list = append(list, heapOf(slices.Repeat([]int{wrong}, vars)), heapOf(slices.Repeat([]int{wrong}, vars), -1), heapOf(zeros, wrong))
	}
	return list
}

func sameState(a impl.State, b impl.State) bool {
	return a.Point == b.Point && sameHeap(a.Heap, b.Heap)
}

func sameStates(a []impl.State, b []impl.State) bool { return slices.EqualFunc(a, b, sameState) }

func cloneHeaps(list []impl.Heap) []impl.Heap {
	var own []impl.Heap
	for _, h := range list {
		own = append(own, cloneHeap(h))
	}
	return own
}

// heapsOfTexts reads heaps whose texts have the form of HeapText.
func heapsOfTexts(texts []string) []impl.Heap {
	var list []impl.Heap
	for _, text := range texts {
		_, h := heapOfText(text)
		list = append(list, h)
	}
	return list
}

func stateText(vars []string, s impl.State) string {
	return fmt.Sprintf("%d:%s", s.Point, wantText(vars, s.Heap))
}

// stateOfText reads a state whose text has the form of stateText.
func stateOfText(text string) impl.State {
	var s impl.State
	point, heap, _ := strings.Cut(text, ":")
	fmt.Sscan(point, &s.Point)
	_, s.Heap = heapOfText(heap)
	return s
}

// wantFollow follows edges apart from the program's own runs, with the memory of the tests of chapter 8.
func wantFollow(p impl.Program, h impl.Heap, edges []int) (impl.State, string, int) {
	at := impl.State{Heap: h}
	for i, edge := range edges {
		if edge < 0 || edge >= len(p.Edges) || p.Edges[edge].From != at.Point {
			return at, "bad", i
		}
		after, name := wantExec(p.Vars, p.Edges[edge].Stmt, at.Heap)
		if name != "ok" {
			return at, name, i
		}
		at = impl.State{Point: p.Edges[edge].To, Heap: after}
	}
	return at, "ok", len(edges)
}

// A reached state has a heap of start and a run from it that leads there.
type reached struct {
	state impl.State
	start impl.Heap
	edges []int
}

// wantStates searches by the words of the document, with texts in the place of keys; it gives up behind the limit.
func wantStates(p impl.Program, start []impl.Heap) ([]reached, bool) {
	var list []reached
	met := map[string]bool{}
	add := func(r reached) {
		if text := stateText(p.Vars, r.state); !met[text] {
			met[text] = true
			list = append(list, r)
		}
	}
	for _, h := range start {
		add(reached{state: impl.State{Heap: h}, start: h})
	}
	for i := 0; i < len(list) && len(list) <= 200; i++ {
		r := list[i]
		for edge, e := range p.Edges {
			if after, name := wantExec(p.Vars, e.Stmt, r.state.Heap); e.From == r.state.Point && name == "ok" {
				add(reached{impl.State{Point: e.To, Heap: after}, r.start, append(slices.Clone(r.edges), edge)})
			}
		}
	}
	return list, len(list) <= 200
}

func checkFollow(t *testing.T, p impl.Program, h impl.Heap, edges []int, want impl.State, name string, followed int) {
	t.Helper()
	got, code, n := impl.Follow(p, cloneHeap(h), edges)
	if !sameState(got, want) || code != codeNamed(name) || n != followed {
		t.Errorf("Follow(%v, %v, %v) = %v, %d, %d, want %v, %d (%s), %d", p, h, edges, got, code, n, want, codeNamed(name), name, followed)
	}
}

func checkBadRun(t *testing.T, why string, p impl.Program, h impl.Heap, edges []int) {
	t.Helper()
	if got, code, n := impl.Follow(p, h, edges); !sameState(got, impl.State{}) || code != impl.ExBad || n != 0 {
		t.Errorf("%s: Follow(%v, %v, %v) = %v, %d, %d, want the zero State, ExBad, 0", why, p, h, edges, got, code, n)
	}
}

func checkStates(t *testing.T, p impl.Program, start []impl.Heap, want []impl.State) {
	t.Helper()
	if got, ok := impl.StatesFrom(p, cloneHeaps(start)); !sameStates(got, want) || !ok {
		t.Errorf("StatesFrom(%v, %v) = %v, %t, want %v, true", p, start, got, ok, want)
	}
}

func checkNoStates(t *testing.T, why string, p impl.Program, start []impl.Heap) {
	t.Helper()
	if got, ok := impl.StatesFrom(p, start); len(got) != 0 || ok {
		t.Errorf("%s: StatesFrom(%v, %v) has %d states, %t, want nil, false", why, p, start, len(got), ok)
	}
}

// checkWantedStates compares StatesFrom with the search of the tests, and returns what that finds.
func checkWantedStates(t *testing.T, p impl.Program, start []impl.Heap) ([]reached, bool) {
	t.Helper()
	list, ok := wantStates(p, start)
	if !ok {
		checkNoStates(t, "too many states", p, start)
		return nil, false
	}
	var want []impl.State
	for _, r := range list {
		want = append(want, r.state)
	}
	checkStates(t, p, start, want)
	return list, true
}

// runPrograms returns the listed programs, and one with an edge of every kind between each two of two points.
func runPrograms(t *testing.T) []impl.Program {
	t.Helper()
	var list []impl.Program
	for _, text := range programTexts {
		list = append(list, parsed(t, text))
	}
	return append(list, programOf(), parsed(t, "a b;2;0 1 a=new;0 0 b=a;0 1 a=b.n;1 0 a.n=b;1 1 b.n=null;1 0 free a;1 1 a=null;0 1 b!=null;1 0 a==b"))
}

// edgeLists returns all lists of at most so many numbers that are edges of a program, or next to one.
func edgeLists(p impl.Program, most int) [][]int {
	list, last := [][]int{nil}, [][]int{nil}
	for range most {
		var longer [][]int
		for _, edges := range last {
			for edge := -1; edge <= len(p.Edges); edge++ {
				longer = append(longer, append(slices.Clone(edges), edge))
			}
		}
		list, last = append(list, longer...), longer
	}
	return list
}

// wantSmallHeaps tries all elements, in lexicographic order.
func wantSmallHeaps(vars int, cells int) []impl.Heap {
	var list []impl.Heap
	for count := range cells + 1 {
		for _, h := range rawHeaps(vars, count, -1, count-1) {
			if wantIsHeap(vars, h) {
				list = append(list, h)
			}
		}
	}
	return list
}

func TestConstantsOfRuns(t *testing.T) {
	if impl.MaxStates != 200 || impl.MaxSmall != 3 {
		t.Errorf("MaxStates = %d, MaxSmall = %d", impl.MaxStates, impl.MaxSmall)
	}
}

func TestListedRuns(t *testing.T) {
	for _, c := range runs {
		p := parsed(t, c.program)
		_, h := heapOfText(c.heap)
		_, end := heapOfText(c.end)
		checkFollow(t, p, h, c.edges, impl.State{Point: c.point, Heap: end}, c.code, c.followed)
	}
}

// Promise 9: all short runs, and where they stop, are among the states that can be reached from their heap.
func TestShortRunsLeadToReachedStates(t *testing.T) {
	names := map[string]int{}
	for _, p := range runPrograms(t) {
		lists := edgeLists(p, 3-len(p.Edges)/9)
		for _, h := range allHeaps(len(p.Vars), 2) {
			states, ok := impl.StatesFrom(p, []impl.Heap{h})
			if !ok {
				t.Fatalf("there are too many states from %v with %v", h, p)
			}
			met := map[string]bool{}
			for _, s := range states {
				met[stateText(p.Vars, s)] = true
			}
			for _, edges := range lists {
				want, name, followed := wantFollow(p, h, edges)
				checkFollow(t, p, h, edges, want, name, followed)
				if !met[stateText(p.Vars, want)] {
					t.Errorf("the run %v from %v with %v leads to %v, which is not reached", edges, h, p, want)
				}
				names[name]++
			}
		}
	}
	for _, name := range []string{"ok", "blocked", "null", "cycle", "leak", "dangling", "bad"} {
		if names[name] == 0 {
			t.Errorf("no run has the code %s: %v", name, names)
		}
	}
}

// Promise 9 for long runs, which choose among the edges that can be followed by a fixed rule.
func TestLongRunsLeadToReachedStates(t *testing.T) {
	for _, p := range runPrograms(t) {
		for i, h := range allHeaps(len(p.Vars), 3) {
			states, ok := impl.StatesFrom(p, []impl.Heap{h})
			if !ok {
				continue
			}
			var edges []int
			at := impl.State{Heap: h}
			for step := range 40 {
				var open []int
				for edge := range p.Edges {
					if _, name, _ := wantFollow(p, h, append(slices.Clone(edges), edge)); name == "ok" {
						open = append(open, edge)
					}
				}
				if len(open) == 0 {
					break
				}
				edges = append(edges, open[(i*7+step*step*5+step/3)%len(open)])
				at, _, _ = wantFollow(p, h, edges)
			}
			checkFollow(t, p, h, edges, at, "ok", len(edges))
			if !slices.ContainsFunc(states, func(s impl.State) bool { return sameState(s, at) }) {
				t.Errorf("the run %v from %v with %v leads to %v, which is not reached", edges, h, p, at)
			}
		}
	}
}

// Each state of the list is met by a run from a heap of start, which is followed to it.
func TestReachedStatesHaveRuns(t *testing.T) {
	failed, found := 0, 0
	for _, p := range runPrograms(t) {
		for _, h := range allHeaps(len(p.Vars), 2) {
			list, _ := checkWantedStates(t, p, []impl.Heap{h})
			for _, r := range list {
				checkFollow(t, p, r.start, r.edges, r.state, "ok", len(r.edges))
			}
		}
		for cells := range 4 {
			small := wantSmallHeaps(len(p.Vars), cells)
			list, ok := checkWantedStates(t, p, small)
			slices.Reverse(small)
			checkWantedStates(t, p, append(small, small...))
			for _, r := range list {
				checkFollow(t, p, r.start, r.edges, r.state, "ok", len(r.edges))
			}
			if ok {
				found++
			} else {
				failed++
			}
		}
	}
	if failed == 0 || found == 0 {
		t.Errorf("%d lists of states are found, and %d are too long", found, failed)
	}
}

func TestListedStates(t *testing.T) {
	for _, c := range stateLists {
		var want []impl.State
		for _, text := range c.states {
			want = append(want, stateOfText(text))
		}
		checkStates(t, parsed(t, c.program), heapsOfTexts(c.start), want)
	}
}

// Every point can be reached, and edges at all of them lead to others.
func TestStatesAtAllPoints(t *testing.T) {
	p := impl.Program{Vars: []string{"x"}, Points: 12}
	var want []impl.State
	for point := range 12 {
		for _, to := range []int{point + 1, point} {
			p.Edges = append(p.Edges, impl.Edge{From: point, To: to % 12, Stmt: impl.Stmt{Kind: impl.StSkip}})
		}
		want = append(want, impl.State{Point: point, Heap: heapOf([]int{0}, -1)})
	}
	checkStates(t, p, []impl.Heap{heapOf([]int{0}, -1)}, want)
	checkFollow(t, p, heapOf([]int{0}, -1), []int{1, 0, 3, 2, 4, 6, 8, 10, 12, 14, 16, 18, 20, 23, 22}, want[0], "ok", 15)
	checkFollow(t, p, heapOf([]int{0}, -1), []int{1, 0, 3, 2, 4, 6, 8, 10, 12, 14, 16, 18, 20, 23, 21}, want[11], "bad", 14)
}

// A list grows until the heap is full.
func TestStatesUpToFullHeaps(t *testing.T) {
	p := parsed(t, "x y;4;0 1 y=new;1 2 y.n=x;2 3 x=y;3 0 y=null")
	list, ok := checkWantedStates(t, p, heapsOfTexts([]string{"x=- y=-"}))
	if last := list[len(list)-1].state; !ok || len(list) != 25 || len(last.Heap.Next) != 6 || last.Point != 0 {
		t.Errorf("%d states, of which the last one is %v", len(list), last)
	}
}

// Heaps of each number of cells are told apart.
func TestStatesOfManyHeaps(t *testing.T) {
	for cells := range 7 {
		var start []impl.Heap
		for _, h := range allHeaps(3, 6) {
			if len(h.Next) == cells && len(start) < 200 {
				start = append(start, h)
			}
		}
		if list, ok := checkWantedStates(t, parsed(t, "x y t;1"), start); !ok || len(list) != len(start) {
			t.Errorf("%d states of %d heaps with %d cells", len(list), len(start), cells)
		}
	}
}

// MaxStates is met by the heaps of start alone, where each counts once.
func TestLimitOfStarts(t *testing.T) {
	p, heaps := parsed(t, "a b c;3;1 2 skip"), allHeaps(3, 4)
	for _, count := range []int{0, 1, 199, 200, 201, 202, 300} {
		start := slices.Clone(heaps[:count])
		again := append(append(slices.Clone(start), start...), start[:min(count, 3)]...)
		if count > 200 {
			checkNoStates(t, "too many heaps", p, start)
			checkNoStates(t, "too many heaps twice", p, again)
			continue
		}
		var want []impl.State
		for _, h := range start {
			want = append(want, impl.State{Heap: h})
		}
		checkStates(t, p, start, want)
		checkStates(t, p, again, want)
	}
	checkStates(t, p, slices.Repeat(heaps[:1], 1000), []impl.State{{Heap: heaps[0]}})
}

// MaxStates is met and missed by states to which edges lead; edges to states of the list do not count.
func TestLimitOfReachedStates(t *testing.T) {
	var null, other []impl.Heap
	for _, h := range allHeaps(3, 6) {
		if h.Vars[0] == -1 {
			null = append(null, h)
		} else {
			other = append(other, h)
		}
	}
	for _, c := range []struct {
		program              string
		null, other, reached int
	}{
		{"a b c;2;0 1 a==null", 50, 100, 200},
		{"a b c;2;0 1 a==null", 51, 99, 201},
		{"a b c;2;0 1 a==null", 50, 101, 201},
		{"a b c;2;0 1 a==null", 1, 198, 200},
		{"a b c;2;0 1 a==null", 1, 199, 201},
		{"a b c;2;0 1 a==null", 0, 200, 200},
		{"a b c;2;0 1 a==null;1 0 skip;1 1 skip;0 1 a==null", 50, 100, 200},
		{"a b c;2;0 1 a==null;1 0 skip;1 1 skip;0 1 a==null", 51, 99, 201},
		{"a b c;4;0 1 skip;1 2 skip;2 3 skip;3 0 skip", 20, 30, 200},
		{"a b c;4;0 1 skip;1 2 skip;2 3 a==null;3 0 skip", 20, 60, 260},
		{"a b c;5;0 1 skip;1 2 skip;2 3 skip;3 4 a==null;4 4 a==null", 1, 49, 201},
		{"a b c;5;0 1 skip;1 2 skip;2 3 skip;3 4 a==null;4 4 a==null", 0, 50, 200},
	} {
		p := parsed(t, c.program)
		for _, start := range [][]impl.Heap{
			append(slices.Clone(null[:c.null]), other[:c.other]...), append(slices.Clone(other[:c.other]), null[:c.null]...),
			slices.Concat(other[:c.other], null[:c.null], null[:c.null], other[:c.other]),
		} {
			list, ok := checkWantedStates(t, p, start)
			if ok != (c.reached <= 200) || ok && len(list) != c.reached {
				t.Errorf("%d states, %t with %v, want %d", len(list), ok, c, c.reached)
			}
		}
	}
}

func TestListedSmallHeaps(t *testing.T) {
	for _, c := range smallHeapTexts {
		if got := impl.SmallHeaps(c.vars, c.cells); !slices.EqualFunc(got, heapsOfTexts(c.texts), sameHeap) {
			t.Errorf("SmallHeaps(%d, %d) = %v, want %q", c.vars, c.cells, got, c.texts)
		}
	}
}

// All heaps with few cells, in order: as many as are built, and the same as are found among all elements.
func TestAllSmallHeaps(t *testing.T) {
	for vars := 1; vars <= 4; vars++ {
		for cells := range 4 {
			got := impl.SmallHeaps(vars, cells)
			if want := wantSmallHeaps(vars, cells); !slices.EqualFunc(got, want, sameHeap) || len(got) != len(allHeaps(vars, cells)) {
				t.Errorf("SmallHeaps(%d, %d) has %d heaps, want %d", vars, cells, len(got), len(want))
			}
			for _, h := range got {
				checkIsHeap(t, vars, h, true)
			}
			if !slices.IsSortedFunc(got, inOrderOfHeaps) || len(slices.CompactFunc(slices.Clone(got), sameHeap)) != len(got) {
				t.Errorf("SmallHeaps(%d, %d) is not in order", vars, cells)
			}
		}
	}
}

// inOrderOfHeaps compares the numbers of cells, then Vars, then Next.
func inOrderOfHeaps(a impl.Heap, b impl.Heap) int {
	if len(a.Next) != len(b.Next) {
		return len(a.Next) - len(b.Next)
	}
	return slices.Compare(slices.Concat(a.Vars, a.Next), slices.Concat(b.Vars, b.Next))
}

// Fewer cells give the beginning of the list.
func TestSmallHeapsWithMoreCells(t *testing.T) {
	for vars := 1; vars <= 4; vars++ {
		all := impl.SmallHeaps(vars, 3)
		for cells := range 3 {
			if got := impl.SmallHeaps(vars, cells); !slices.EqualFunc(got, all[:len(got)], sameHeap) || len(all[len(got)].Next) != cells+1 {
				t.Errorf("SmallHeaps(%d, %d) is not the beginning of all %d", vars, cells, len(all))
			}
		}
	}
}

func TestSmallHeapsOfOtherNumbers(t *testing.T) {
	others := []int{-1, 5, 6, math.MinInt, math.MaxInt, -2, -3, 7, 100, 255, 256, 257, -255, 1 << 32, 1<<32 + 1, 1<<32 + 3, 1 - 1<<32, math.MinInt + 1, math.MaxInt - 1, math.MaxInt32, math.MinInt32}
	for _, wrong := range others {
		for _, right := range []int{1, 0, 2, 3, 4} {
			checkNoSmallHeaps(t, wrong, right)
			checkNoSmallHeaps(t, right, wrong)
		}
		for _, also := range others {
			checkNoSmallHeaps(t, wrong, also)
		}
	}
	for n := range 5 {
		checkNoSmallHeaps(t, 0, n)
		checkNoSmallHeaps(t, n, 4)
	}
}

func checkNoSmallHeaps(t *testing.T, vars int, cells int) {
	t.Helper()
	if got := impl.SmallHeaps(vars, cells); len(got) != 0 {
		t.Errorf("SmallHeaps(%d, %d) has %d heaps, want none", vars, cells, len(got))
	}
}

// What is no program has no runs and no states, whatever is done with it.
func TestProgramsThatAreNone(t *testing.T) {
	for _, c := range brokenPrograms() {
		nulls, zeros := slices.Repeat([]int{-1}, len(c.p.Vars)), slices.Repeat([]int{0}, len(c.p.Vars))
		for _, h := range []impl.Heap{heapOf(nulls), heapOf(zeros, 1, -1), heapOf(zeros, 0), {}} {
			for _, edges := range [][]int{nil, {}, {0}, {1}, {0, 0, 1}, {-1}, {99}} {
				checkBadRun(t, c.why, c.p, h, edges)
			}
			checkNoStates(t, c.why, c.p, []impl.Heap{h})
			checkNoStates(t, c.why, c.p, []impl.Heap{h, h})
		}
		checkNoStates(t, c.why, c.p, nil)
		checkNoStates(t, c.why, c.p, []impl.Heap{})
	}
}

// What is no heap for the variables begins no run, also where the run would not touch what is wrong.
func TestRunsFromHeapsThatAreNone(t *testing.T) {
	for _, p := range runPrograms(t) {
		for _, h := range heapsThatAreNone(len(p.Vars)) {
			for _, edges := range append([][]int{nil, {}, {0}, {0, 1, 2}, {len(p.Edges)}}, nonEdges[:5]) {
				checkBadRun(t, "no heap", p, h, edges)
			}
		}
	}
}

// One element that is no heap is enough, wherever it stands.
func TestStatesFromHeapsThatAreNone(t *testing.T) {
	for _, p := range runPrograms(t) {
		right := wantSmallHeaps(len(p.Vars), 1)
		for _, wrong := range heapsThatAreNone(len(p.Vars)) {
			checkNoStates(t, "no heap", p, []impl.Heap{wrong})
			for at := range len(right) + 1 {
				checkNoStates(t, "no heap", p, slices.Insert(slices.Clone(right), at, wrong))
			}
			checkNoStates(t, "no heap", p, append(slices.Repeat(right[:1], 250), wrong))
		}
	}
	for _, other := range []int{1, 2, 4} {
		checkNoStates(t, "a heap for other variables", parsed(t, "x y t;1"), append(wantSmallHeaps(3, 2), wantSmallHeaps(other, 1)...))
	}
	// The heaps before it are just as many as there may be, and more.
	for _, count := range []int{200, 201} {
		checkNoStates(t, "no heap behind many", parsed(t, "x y t;1"), append(slices.Clone(allHeaps(3, 4)[:count]), impl.Heap{}))
	}
}

// Numbers that are no edges stop a run where it is.
func TestEdgesThatAreNone(t *testing.T) {
	for _, p := range runPrograms(t) {
		for _, h := range wantSmallHeaps(len(p.Vars), 1) {
			for _, edge := range append(nonEdges, len(p.Edges)) {
				checkFollow(t, p, h, []int{edge}, impl.State{Heap: h}, "bad", 0)
				list, _ := wantStates(p, []impl.Heap{h})
				for _, r := range list {
					checkFollow(t, p, h, append(slices.Clone(r.edges), edge), r.state, "bad", len(r.edges))
					checkFollow(t, p, h, append(slices.Clone(r.edges), edge, 0), r.state, "bad", len(r.edges))
				}
			}
		}
	}
}

func checkEqualState(t *testing.T, a impl.State, b impl.State, want bool) {
	t.Helper()
	if impl.EqualState(a, b) != want || impl.EqualState(b, a) != want {
		t.Errorf("EqualState(%v, %v) = %t, %t, want %t", a, b, impl.EqualState(a, b), impl.EqualState(b, a), want)
	}
}

// Fields alone decide, whether the arguments are states of a program or not; nil and empty slices are the same.
func TestEqualState(t *testing.T) {
	checkEqualState(t, impl.State{}, impl.State{}, true)
	checkEqualState(t, impl.State{}, impl.State{Heap: impl.Heap{Vars: []int{}, Next: []int{}}}, true)
	checkEqualState(t, impl.State{Point: -9}, impl.State{Point: -9}, true)
	checkEqualState(t, impl.State{Heap: heapOf([]int{0})}, impl.State{Heap: heapOf(nil, 0)}, false)
	checkEqualState(t, impl.State{Heap: heapOf([]int{0}, 0)}, impl.State{Heap: heapOf([]int{0})}, false)
	checkEqualState(t, impl.State{Heap: heapOf([]int{0})}, impl.State{Heap: heapOf([]int{0, 0})}, false)
	long := slices.Repeat([]int{5}, 20)
	checkEqualState(t, impl.State{Heap: heapOf(long, long...)}, impl.State{Heap: heapOf(slices.Clone(long), long...)}, true)
	checkEqualState(t, impl.State{Heap: heapOf(long, long...)}, impl.State{Heap: heapOf(long, append(slices.Clone(long[1:]), 6)...)}, false)
	checkEqualState(t, impl.State{Heap: heapOf(long, long...)}, impl.State{Heap: heapOf(append(slices.Clone(long[1:]), 6), long...)}, false)
	points := []int{0, 1, -1, 11, 12, 256, 1 << 32, math.MinInt, math.MaxInt}
	for i, a := range heapTexts {
		for j, b := range heapTexts {
			checkEqualState(t, impl.State{Point: 3, Heap: cloneHeap(a.h)}, impl.State{Point: 3, Heap: cloneHeap(b.h)}, i == j)
		}
		for _, one := range points {
			for _, two := range points {
				checkEqualState(t, impl.State{Point: one, Heap: cloneHeap(a.h)}, impl.State{Point: two, Heap: cloneHeap(a.h)}, one == two)
			}
		}
	}
}

// roomyHeap returns a heap whose slices are followed by further numbers in their memory.
func roomyHeap(h impl.Heap) impl.Heap {
	vars, next := append(slices.Clone(h.Vars), 77, 78, 79), append(slices.Clone(h.Next), 80, 81, 82, 83)
	return impl.Heap{Vars: vars[:len(h.Vars)], Next: next[:len(h.Next)]}
}

// isUntouched reports whether a roomy heap is as it was made.
func isUntouched(roomy impl.Heap, h impl.Heap) bool {
	vars, next := roomy.Vars[:len(h.Vars)+3], roomy.Next[:len(h.Next)+4]
	return slices.Equal(vars, append(slices.Clone(h.Vars), 77, 78, 79)) && slices.Equal(next, append(slices.Clone(h.Next), 80, 81, 82, 83))
}

// Neither the elements of the arguments nor what is behind them changes.
func TestRunsLeaveArgumentsAlone(t *testing.T) {
	for _, whole := range runPrograms(t) {
		vars, edges := append(slices.Clone(whole.Vars), "spare", "x"), append(slices.Clone(whole.Edges), impl.Edge{From: 77}, impl.Edge{To: 78})
		p := impl.Program{Vars: vars[:len(whole.Vars)], Points: whole.Points, Edges: edges[:len(whole.Edges)]}
		heaps := append(allHeaps(len(p.Vars), 1), heapsThatAreNone(len(p.Vars))[1:6]...)
		heaps = append(heaps, allHeaps(len(p.Vars), 1)...)
		var roomy []impl.Heap
		for _, h := range heaps {
			roomy = append(roomy, roomyHeap(h))
		}
		for i, h := range heaps {
			for _, run := range edgeLists(p, 1) {
				list := append(slices.Clone(run), 1, 2, 90, 91)
				impl.Follow(p, roomy[i], list[:len(list)-2])
				if !slices.Equal(list, append(slices.Clone(run), 1, 2, 90, 91)) || !isUntouched(roomy[i], h) {
					t.Fatalf("%v becomes %v with %v, which was %v", h, roomy[i], list, run)
				}
			}
		}
		for i := range len(roomy) + 1 {
			impl.StatesFrom(p, roomy[:i])
			impl.StatesFrom(p, roomy[i:])
		}
		for i, h := range heaps {
			if !isUntouched(roomy[i], h) {
				t.Errorf("%v becomes %v", h, roomy[i])
			}
		}
		if !slices.Equal(vars, append(slices.Clone(whole.Vars), "spare", "x")) || !slices.Equal(edges, append(slices.Clone(whole.Edges), impl.Edge{From: 77}, impl.Edge{To: 78})) {
			t.Errorf("%v becomes %q, %v", whole, vars, edges)
		}
	}
}

// The states at the ends of runs, also of runs without edges and of ones that stop at once, have memory of their own.
func TestFollowSharesNoMemory(t *testing.T) {
	for _, p := range runPrograms(t) {
		for _, h := range allHeaps(len(p.Vars), 2) {
			list, _ := wantStates(p, []impl.Heap{h})
			for _, r := range list {
				for _, edges := range [][]int{r.edges, append(slices.Clone(r.edges), -1)} {
					own := cloneHeap(h)
					one, _, _ := impl.Follow(p, own, edges)
					two, _, _ := impl.Follow(p, own, edges)
					fill(one.Heap.Vars)
					if !slices.Equal(one.Heap.Next, r.state.Heap.Next) {
						t.Errorf("the cells behind %v from %v change with the variables", edges, h)
					}
					fill(one.Heap.Next)
					if !sameHeap(own, h) || !sameState(two, r.state) {
						t.Errorf("%v and %v change with a result of %v", own, two, edges)
					}
					fill(own.Vars)
					fill(own.Next)
					if !sameState(two, r.state) {
						t.Errorf("the state behind %v from %v becomes %v with the argument", edges, h, two)
					}
				}
			}
		}
	}
}

func TestStatesShareNoMemory(t *testing.T) {
	for _, p := range runPrograms(t) {
		heaps := wantSmallHeaps(len(p.Vars), 1)
		twice := slices.Concat(heaps, heaps)
		own := cloneHeaps(twice)
		one, _ := impl.StatesFrom(p, own)
		two, ok := impl.StatesFrom(p, own)
		list, found := wantStates(p, heaps)
		if !ok || !found || len(one) != len(list) {
			t.Fatalf("%d states with %v, want %d", len(one), p, len(list))
		}
		for i, r := range list {
			// The states before this one are overwritten already.
			if !sameState(one[i], r.state) {
				t.Errorf("the state %v becomes %v with others", r.state, one[i])
			}
			fill(one[i].Heap.Vars)
			if !slices.Equal(one[i].Heap.Next, r.state.Heap.Next) {
				t.Errorf("the cells of %v change with its variables", r.state)
			}
			fill(one[i].Heap.Next)
		}
		if !slices.EqualFunc(own, twice, sameHeap) {
			t.Errorf("the heaps of start become %v", own)
		}
		for _, h := range own {
			fill(h.Vars)
			fill(h.Next)
		}
		for i, r := range list {
			if !sameState(two[i], r.state) {
				t.Errorf("the state %v becomes %v with start or another list", r.state, two[i])
			}
		}
	}
}

func TestSmallHeapsShareNoMemory(t *testing.T) {
	for vars := 1; vars <= 4; vars++ {
		want := wantSmallHeaps(vars, 3)
		one, two := impl.SmallHeaps(vars, 3), impl.SmallHeaps(vars, 3)
		for i, h := range want {
			if !sameHeap(one[i], h) {
				t.Errorf("%v becomes %v with the heaps before it", h, one[i])
			}
			fill(one[i].Vars)
			if !slices.Equal(one[i].Next, h.Next) {
				t.Errorf("the cells of %v change with its variables", h)
			}
			fill(one[i].Next)
		}
		if !slices.EqualFunc(two, want, sameHeap) || !slices.EqualFunc(impl.SmallHeaps(vars, 3), want, sameHeap) {
			t.Errorf("SmallHeaps(%d, 3) changes with a result", vars)
		}
	}
}
