package tests

import (
	"math"
	"slices"
	"strconv"
	"strings"
	"testing"

	"loop.example/g00590/impl"
)

// codeRows has a row for every code.
var codeRows = []struct {
	constant     string
	code, number int
	name         string
	isError      bool
}{
	{"ExOk", impl.ExOk, 0, "ok", false},
	{"ExBlocked", impl.ExBlocked, 1, "blocked", false},
	{"ExNull", impl.ExNull, 2, "null", true},
	{"ExCycle", impl.ExCycle, 3, "cycle", true},
	{"ExLeak", impl.ExLeak, 4, "leak", true},
	{"ExDangling", impl.ExDangling, 5, "dangling", true},
	{"ExFull", impl.ExFull, 6, "full", false},
	{"ExBad", impl.ExBad, 7, "bad", false},
}

// nonCodes lists numbers that are no code, among them some whose low bits are those of one.
var nonCodes = []int{
	-1, 8, math.MinInt, math.MaxInt, -2, -3, -4, -5, -6, -7, -8, 9, 10, 11, 12, 13, 16, 18, 100, 255, 256, 258, 256 + 5, -256 + 4,
	1 << 16, 1<<16 + 2, 1 << 32, 1<<32 + 3, 1<<32 + 7, -1 << 32, -1<<32 + 4,
	math.MinInt + 2, math.MinInt + 5, math.MaxInt - 1, math.MaxInt - 5, math.MaxInt32, math.MinInt32,
}

// executions lists heaps, statements, and the new heap or the name of the code.
var executions = []struct{ heap, stmt, want string }{
	{"x=-", "skip", "x=-"},
	{"x=0 0>1 1>-", "skip", "x=0 0>1 1>-"},
	{"x=0 y=1 0>- 1>0", "skip", "x=0 y=1 0>- 1>0"},

	{"x=-", "x=null", "x=-"},
	{"x=0 y=0 0>-", "x=null", "x=- y=0 0>-"},
	{"x=0 y=1 0>1 1>-", "y=null", "x=0 y=- 0>1 1>-"},
	{"x=0 y=1 0>1 1>-", "x=null", "leak"},
	{"x=0 y=1 0>- 1>-", "y=null", "leak"},
	{"x=0 y=1 z=2 0>- 1>0 2>1", "x=null", "x=- y=0 z=2 0>1 1>- 2>0"},
	{"x=0 y=1 z=2 0>- 1>0 2>1", "z=null", "leak"},
	{"x=0 0>-", "x=null", "leak"},

	{"x=-", "x=new", "x=0 0>-"},
	{"x=0 0>-", "x=new", "leak"},
	{"x=0 y=- 0>-", "y=new", "x=0 y=1 0>- 1>-"},
	{"x=- y=0 0>1 1>-", "x=new", "x=0 y=1 0>- 1>2 2>-"},
	{"x=0 y=0 z=- 0>1 1>-", "x=new", "x=0 y=1 z=- 0>- 1>2 2>-"},
	{"x=0 y=1 0>1 1>-", "y=new", "x=0 y=2 0>1 1>- 2>-"},
	{"x=0 y=1 0>1 1>-", "x=new", "leak"},

	{"x=- y=-", "x=y", "x=- y=-"},
	{"x=0 y=- 0>1 1>-", "y=x", "x=0 y=0 0>1 1>-"},
	{"x=0 y=- 0>1 1>-", "x=y", "leak"},
	{"x=0 y=1 0>- 1>0", "x=y", "x=0 y=0 0>1 1>-"},
	{"x=0 y=1 0>- 1>0", "y=x", "leak"},
	{"x=0 y=1 0>1 1>-", "x=y", "leak"},
	{"x=0 y=1 0>1 1>-", "y=x", "x=0 y=0 0>1 1>-"},
	{"x=0 y=1 z=- 0>- 1>-", "z=x", "x=0 y=1 z=0 0>- 1>-"},
	{"x=0 y=1 z=- 0>- 1>-", "y=x", "leak"},

	{"x=0 y=- 0>1 1>-", "y=x.n", "x=0 y=1 0>1 1>-"},
	{"x=0 y=- 0>-", "y=x.n", "x=0 y=- 0>-"},
	{"x=0 y=- 0>1 1>-", "x=y.n", "null"},
	{"x=- y=-", "x=y.n", "null"},
	{"x=0 y=0 0>1 1>2 2>-", "y=y.n", "x=0 y=1 0>1 1>2 2>-"},
	{"x=0 y=0 0>1 1>2 2>-", "x=x.n", "x=0 y=2 0>1 1>- 2>0"},
	{"x=0 y=0 0>1 1>2 2>-", "x=y.n", "x=0 y=2 0>1 1>- 2>0"},
	{"x=0 y=1 0>1 1>2 2>-", "y=y.n", "x=0 y=2 0>1 1>2 2>-"},
	{"x=0 y=1 0>- 1>-", "x=y.n", "leak"},

	{"x=-", "x.n=null", "null"},
	{"x=0 0>-", "x.n=null", "x=0 0>-"},
	{"x=0 0>1 1>-", "x.n=null", "leak"},
	{"x=0 y=1 0>1 1>2 2>-", "x.n=null", "x=0 y=1 0>- 1>2 2>-"},
	{"x=0 y=1 0>1 1>2 2>-", "y.n=null", "leak"},
	{"x=0 y=2 0>1 1>2 2>-", "x.n=null", "leak"},
	{"x=0 y=2 0>1 1>- 2>1", "x.n=null", "x=0 y=1 0>- 1>2 2>-"},

	{"x=- y=-", "x.n=y", "null"},
	{"x=- y=0 0>-", "x.n=y", "null"},
	{"x=0 y=- 0>-", "x.n=y", "x=0 y=- 0>-"},
	{"x=0 y=- 0>1 1>-", "x.n=y", "leak"},
	{"x=0 y=1 0>- 1>-", "x.n=y", "x=0 y=1 0>1 1>-"},
	{"x=0 y=1 0>- 1>-", "y.n=x", "x=0 y=1 0>- 1>0"},
	{"x=0 y=1 0>1 1>-", "x.n=y", "x=0 y=1 0>1 1>-"},
	{"x=0 y=1 0>1 1>-", "y.n=x", "cycle"},
	{"x=0 y=2 0>1 1>2 2>-", "y.n=x", "cycle"},
	{"x=0 y=1 0>1 1>2 2>-", "y.n=x", "cycle"},
	{"x=0 y=0 0>-", "x.n=y", "cycle"},
	{"x=0 y=2 0>1 1>- 2>1", "x.n=y", "x=0 y=1 0>1 1>2 2>-"},
	{"x=0 y=2 0>1 1>- 2>1", "y.n=x", "x=0 y=2 0>1 1>- 2>0"},
	{"x=0 y=2 0>1 1>- 2>-", "x.n=y", "leak"},

	{"x=-", "free x", "null"},
	{"x=0 0>-", "free x", "x=-"},
	{"x=0 0>1 1>-", "free x", "leak"},
	{"x=0 y=0 0>-", "free x", "dangling"},
	{"x=0 y=0 0>-", "free y", "dangling"},
	{"x=0 y=1 0>1 1>-", "free x", "x=- y=0 0>-"},
	{"x=0 y=1 0>1 1>-", "free y", "dangling"},
	{"x=0 y=1 0>- 1>0", "free x", "dangling"},
	{"x=0 y=1 0>- 1>0", "free y", "x=0 y=- 0>-"},
	{"x=0 y=1 z=2 0>- 1>- 2>-", "free y", "x=0 y=- z=1 0>- 1>-"},
	{"x=0 y=2 0>1 1>- 2>1", "free x", "x=- y=0 0>1 1>-"},
	{"x=0 y=2 0>1 1>2 2>-", "free x", "leak"},
	{"x=0 y=1 z=3 0>1 1>2 2>- 3>2", "free x", "x=- y=0 z=2 0>1 1>- 2>1"},

	{"x=-", "x==null", "x=-"},
	{"x=0 0>-", "x==null", "blocked"},
	{"x=-", "x!=null", "blocked"},
	{"x=0 0>1 1>-", "x!=null", "x=0 0>1 1>-"},
	{"x=0 y=- 0>-", "y==null", "x=0 y=- 0>-"},
	{"x=0 y=- 0>-", "x==null", "blocked"},
	{"x=- y=-", "x==y", "x=- y=-"},
	{"x=- y=-", "x!=y", "blocked"},
	{"x=0 y=0 0>1 1>-", "x==y", "x=0 y=0 0>1 1>-"},
	{"x=0 y=0 0>1 1>-", "x!=y", "blocked"},
	{"x=0 y=1 0>1 1>-", "x==y", "blocked"},
	{"x=0 y=1 0>1 1>-", "x!=y", "x=0 y=1 0>1 1>-"},
	{"x=0 y=1 0>- 1>-", "x==y", "blocked"},
	{"x=0 y=- 0>-", "y==x", "blocked"},
	{"x=0 y=- 0>-", "y!=x", "x=0 y=- 0>-"},
}

// nodeOf is a cell that is a value of its own instead of a number.
type nodeOf struct{ next *nodeOf }

// memory is a heap whose cells are pointers: it performs statements by the words of the document, apart from the program's numbers.
type memory struct {
	vars  map[string]*nodeOf
	cells map[*nodeOf]bool
}

func memoryOf(vars []string, h impl.Heap) memory {
	cells := make([]nodeOf, len(h.Next))
	m := memory{map[string]*nodeOf{}, map[*nodeOf]bool{}}
	for i, next := range h.Next {
		m.cells[&cells[i]] = true
		if next >= 0 {
			cells[i].next = &cells[next]
		}
	}
	for i, cell := range h.Vars {
		if m.vars[vars[i]] = nil; cell >= 0 {
			m.vars[vars[i]] = &cells[cell]
		}
	}
	return m
}

// reaches tells whether a cell is met from another one on; the lists of a memory end.
func reaches(from *nodeOf, cell *nodeOf) bool {
	for ; from != nil; from = from.next {
		if from == cell {
			return true
		}
	}
	return false
}

// failure returns the code of a statement before it is performed.
func (m memory) failure(s impl.Stmt) string {
	a, b := m.vars[s.A], m.vars[s.B]
	switch s.Kind {
	case impl.StIsNull, impl.StNotNull:
		if (a == nil) != (s.Kind == impl.StIsNull) {
			return "blocked"
		}
	case impl.StSame, impl.StDiffer:
		if (a == b) != (s.Kind == impl.StSame) {
			return "blocked"
		}
	case impl.StNext:
		if b == nil {
			return "null"
		}
	case impl.StCut, impl.StLink, impl.StFree:
		if a == nil {
			return "null"
		}
	}
	if s.Kind == impl.StNew && len(m.cells) == 6 {
		return "full"
	}
	if s.Kind == impl.StFree && m.isUsed(s.A) {
		return "dangling"
	}
	if s.Kind == impl.StLink && reaches(b, a) {
		return "cycle"
	}
	return ""
}

// isUsed tells whether something else points to the cell of a variable.
func (m memory) isUsed(name string) bool {
	for other, cell := range m.vars {
		if other != name && cell == m.vars[name] {
			return true
		}
	}
	for cell := range m.cells {
		if cell.next == m.vars[name] {
			return true
		}
	}
	return false
}

// perform changes the memory by a statement that does not fail before it.
func (m memory) perform(s impl.Stmt) {
	switch s.Kind {
	case impl.StNull:
		m.vars[s.A] = nil
	case impl.StNew:
		cell := new(nodeOf)
		m.cells[cell] = true
		m.vars[s.A] = cell
	case impl.StCopy:
		m.vars[s.A] = m.vars[s.B]
	case impl.StNext:
		m.vars[s.A] = m.vars[s.B].next
	case impl.StCut:
		m.vars[s.A].next = nil
	case impl.StLink:
		m.vars[s.A].next = m.vars[s.B]
	case impl.StFree:
		delete(m.cells, m.vars[s.A])
		m.vars[s.A] = nil
	}
}

// heap returns the heap of a memory, and whether no cell of it is lost.
func (m memory) heap(vars []string) (impl.Heap, bool) {
	numbers := map[*nodeOf]int{nil: -1}
	var met []*nodeOf
	for _, name := range vars {
		for cell := m.vars[name]; cell != nil; cell = cell.next {
			if _, known := numbers[cell]; !known {
				numbers[cell] = len(met)
				met = append(met, cell)
			}
		}
	}
	var h impl.Heap
	for _, name := range vars {
		h.Vars = append(h.Vars, numbers[m.vars[name]])
	}
	for _, cell := range met {
		h.Next = append(h.Next, numbers[cell.next])
	}
	return h, len(met) == len(m.cells)
}

// wantExec performs a valid statement on a heap in a memory.
func wantExec(vars []string, s impl.Stmt, h impl.Heap) (impl.Heap, string) {
	m := memoryOf(vars, h)
	if failure := m.failure(s); failure != "" {
		return impl.Heap{}, failure
	}
	m.perform(s)
	after, kept := m.heap(vars)
	if !kept {
		return impl.Heap{}, "leak"
	}
	return after, "ok"
}

// heapOfText reads a text of the form of HeapText, and the names in it; the text may be that of what is no heap.
func heapOfText(text string) ([]string, impl.Heap) {
	var vars []string
	var h impl.Heap
	for _, part := range strings.Fields(strings.ReplaceAll(text, "-", "-1")) {
		at := strings.IndexAny(part, "=>")
		n, err := strconv.Atoi(part[at+1:])
		if err != nil {
			panic(text)
		}
		if part[at] == '=' {
			vars = append(vars, part[:at])
			h.Vars = append(h.Vars, n)
		} else {
			h.Next = append(h.Next, n)
		}
	}
	return vars, h
}

// codeNamed returns the code with a name.
func codeNamed(name string) int {
	for _, row := range codeRows {
		if row.name == name {
			return row.number
		}
	}
	panic(name)
}

// stmtOfText reads a statement whose text is known to be one.
func stmtOfText(t *testing.T, text string) impl.Stmt {
	t.Helper()
	s, ok := impl.ParseStmt(text)
	if !ok {
		t.Fatalf("%q is no statement", text)
	}
	return s
}

func checkExec(t *testing.T, vars []string, s impl.Stmt, h impl.Heap, want impl.Heap, name string) {
	t.Helper()
	if got, code := impl.Exec(vars, s, cloneHeap(h)); !sameHeap(got, want) || code != codeNamed(name) {
		t.Errorf("Exec(%q, %v, %v) = %v, %d, want %v, %d (%s)", vars, s, h, got, code, want, codeNamed(name), name)
	}
}

func checkBad(t *testing.T, vars []string, s impl.Stmt, h impl.Heap) {
	t.Helper()
	checkExec(t, vars, s, h, impl.Heap{}, "bad")
}

// checkExecText checks a statement by texts; want is the text of the new heap or the name of the code.
func checkExecText(t *testing.T, heap string, stmt string, want string) {
	t.Helper()
	vars, h := heapOfText(heap)
	if !strings.Contains(want, "=") {
		checkExec(t, vars, stmtOfText(t, stmt), h, impl.Heap{}, want)
		return
	}
	_, after := heapOfText(want)
	checkExec(t, vars, stmtOfText(t, stmt), h, after, "ok")
	if got := impl.HeapText(vars, after); got != want {
		t.Errorf("the text of %q after %s is %q, want %q", heap, stmt, got, want)
	}
}

// allHeaps returns the heaps with so many variables and at most so many cells: each variable is null, points to a cell that an earlier
// one reaches, or to some new cells, the last of which has no next one or such a cell.
func allHeaps(vars int, cells int) []impl.Heap {
	list := []impl.Heap{{}}
	for range vars {
		var longer []impl.Heap
		for _, h := range list {
			count := len(h.Next)
			for target := -1; target < count; target++ {
				longer = append(longer, heapOf(append(slices.Clone(h.Vars), target), h.Next...))
			}
			for more := 1; count+more <= cells; more++ {
				for target := -1; target < count; target++ {
					next := slices.Clone(h.Next)
					for cell := count + 1; cell < count+more; cell++ {
						next = append(next, cell)
					}
					longer = append(longer, heapOf(append(slices.Clone(h.Vars), count), append(next, target)...))
				}
			}
		}
		list = longer
	}
	return list
}

// allStmts returns the valid statements over variables.
func allStmts(vars []string) []impl.Stmt {
	var list []impl.Stmt
	for _, c := range stmtKinds {
		for i, a := range vars {
			for j, b := range vars {
				// A name that the kind does not use makes no other statement.
				if (c.uses >= 1 || i == 0) && (c.uses == 2 || j == 0) {
					list = append(list, stmtWith(c.number, c.uses, a, b))
				}
			}
		}
	}
	return list
}

// sizesOfHeaps lists numbers of variables and cells whose heaps are all looked at.
var sizesOfHeaps = [][2]int{{1, 6}, {2, 6}, {3, 6}, {4, 4}}

func TestCodesOfExecution(t *testing.T) {
	for _, c := range codeRows {
		if c.code != c.number {
			t.Errorf("%s = %d, want %d", c.constant, c.code, c.number)
		}
		if got := impl.ExecName(c.number); got != c.name {
			t.Errorf("ExecName(%s) = %q, want %q", c.constant, got, c.name)
		}
		if got := impl.IsError(c.number); got != c.isError {
			t.Errorf("IsError(%s) = %t, want %t", c.constant, got, c.isError)
		}
	}
}

func TestOtherCodes(t *testing.T) {
	codes := slices.Clone(nonCodes)
	for code := -1000; code <= 1000; code++ {
		if code < 0 || code > 7 {
			codes = append(codes, code)
		}
	}
	for _, code := range codes {
		if got := impl.ExecName(code); got != "?" {
			t.Errorf("ExecName(%d) = %q, want \"?\"", code, got)
		}
		if impl.IsError(code) {
			t.Errorf("IsError(%d) = true", code)
		}
	}
}

func TestListedExecutions(t *testing.T) {
	for _, c := range executions {
		checkExecText(t, c.heap, c.stmt, c.want)
	}
}

// The helper lists each heap once, and no fewer than a search among all elements finds.
func TestAllHeapsAreListed(t *testing.T) {
	for _, size := range [][2]int{{1, 4}, {2, 3}, {3, 3}, {4, 2}} {
		found := map[string]bool{}
		for _, h := range allHeaps(size[0], size[1]) {
			text := wantText(varNames(size[0]), h)
			if found[text] || !wantIsHeap(size[0], h) {
				t.Errorf("%q is listed twice or no heap", text)
			}
			found[text] = true
		}
		count := 0
		for cells := range size[1] + 1 {
			for _, h := range rawHeaps(size[0], cells, -1, max(cells-1, -1)) {
				if wantIsHeap(size[0], h) {
					count++
				}
			}
		}
		if count != len(found) {
			t.Errorf("%d of %d heaps with %v variables and cells are listed", len(found), count, size)
		}
	}
}

// Every statement on every heap: the code, and a new heap that is canonical.
func TestEveryStatementOnHeaps(t *testing.T) {
	names := map[string]map[int]bool{}
	for _, size := range sizesOfHeaps {
		vars := varNames(size[0])
		stmts := allStmts(vars)
		for _, h := range allHeaps(size[0], size[1]) {
			for _, s := range stmts {
				want, name := wantExec(vars, s, h)
				checkExec(t, vars, s, h, want, name)
				if name == "ok" {
					checkIsHeap(t, size[0], want, true)
				}
				if names[name] == nil {
					names[name] = map[int]bool{}
				}
				names[name][s.Kind] = true
			}
		}
	}
	// The heaps and statements are enough for every code of every kind.
	for name, count := range map[string]int{"ok": 12, "blocked": 4, "null": 4, "cycle": 1, "leak": 7, "dangling": 1, "full": 1} {
		if len(names[name]) != count {
			t.Errorf("the code %s is met with the kinds %v, want %d of them", name, names[name], count)
		}
	}
}

// Promise 8: of a test and its opposite one leaves the heap as it is, and the other one is blocked.
func TestATestOrItsOppositeHolds(t *testing.T) {
	for _, size := range sizesOfHeaps {
		vars := varNames(size[0])
		for _, s := range allStmts(vars) {
			opposite, ok := impl.OppositeOf(s)
			if !ok {
				continue
			}
			for _, h := range allHeaps(size[0], size[1]) {
				one, code := impl.Exec(vars, s, h)
				other, otherCode := impl.Exec(vars, opposite, h)
				if code == impl.ExBlocked {
					one, code, other, otherCode = other, otherCode, one, code
				}
				if code != impl.ExOk || otherCode != impl.ExBlocked || !sameHeap(one, h) || !sameHeap(other, impl.Heap{}) {
					t.Errorf("%v, %v and their opposite give %v, %d and %v, %d", h, s, one, code, other, otherCode)
				}
			}
		}
	}
}

// Where two codes would apply, the first one of the document's order is returned.
func TestFirstCodeIsReturned(t *testing.T) {
	for _, c := range []struct{ heap, stmt, want string }{
		// A test that does not hold, on what is no heap: a leak, a cycle, other numbers, a wrong element, too many cells.
		{"x=- 0>-", "x!=null", "bad"}, {"x=0 0>- 1>-", "x==null", "bad"}, {"x=0 0>0", "x==null", "bad"}, {"x=1 0>- 1>0", "x==null", "bad"},
		{"x=1 0>-", "x==null", "bad"}, {"x=0 0>1", "x==null", "bad"}, {"x=0 y=0 0>0", "x!=y", "bad"}, {"x=0 y=1 0>1 1>0", "x==y", "bad"},
		{"x=0 0>1 1>2 2>3 3>4 4>5 5>6 6>-", "x==null", "bad"}, {"a=- b=- c=- d=- e=-", "a!=null", "bad"},
		// Statements with other errors on what is no heap.
		{"x=- 0>-", "free x", "bad"}, {"x=- 0>-", "x.n=null", "bad"}, {"x=- y=- 0>-", "x=y.n", "bad"}, {"x=- y=- 0>-", "x.n=y", "bad"},
		{"x=0 0>1 1>2 2>3 3>4 4>5 5>6 6>-", "x=new", "bad"}, {"x=0 0>- 1>-", "x=new", "bad"}, {"x=0 y=0 0>- 1>-", "free x", "bad"},
		{"x=0 0>1 1>0", "x.n=x", "bad"}, {"x=0 0>1 1>0", "x=null", "bad"}, {"x=0 0>- 1>-", "skip", "bad"},
		// A statement that would remove what makes it no heap.
		{"x=0 0>0", "x.n=null", "bad"}, {"x=0 0>0", "free x", "bad"}, {"x=1 0>- 1>-", "free x", "bad"}, {"x=5 0>-", "x=null", "bad"}, {"x=- 0>-", "x=new", "bad"},
		// A variable that is null, where a cell would be lost, or where a list from B does not meet A's cell.
		{"x=0 y=- 0>-", "x=y.n", "null"}, {"x=- y=-", "x.n=y", "null"}, {"x=- y=0 0>1 1>-", "x.n=y", "null"}, {"x=-", "x.n=x", "null"}, {"x=-", "x=x.n", "null"},
		{"x=- y=-", "free x", "null"}, {"x=- y=0 0>-", "free x", "null"}, {"x=- y=0 0>1 1>-", "free x", "null"},
		// A full heap, where the cells before would be lost.
		{"x=0 0>1 1>2 2>3 3>4 4>5 5>-", "x=new", "full"}, {"x=0 y=5 0>1 1>2 2>3 3>4 4>- 5>-", "y=new", "full"},
		// A cell that is used elsewhere, and whose next ones would be lost.
		{"x=0 y=0 0>1 1>-", "free x", "dangling"}, {"x=0 y=1 0>1 1>2 2>-", "free y", "dangling"}, {"x=0 y=1 z=1 0>1 1>2 2>-", "free z", "dangling"},
		{"x=0 y=2 0>1 1>- 2>0", "free x", "dangling"}, {"x=0 y=0 0>1 1>2 2>-", "free y", "dangling"},
		// A link that closes a cycle, and after which the cells that were behind A's cell are lost.
		{"x=0 0>1 1>-", "x.n=x", "cycle"}, {"x=0 y=0 0>1 1>-", "x.n=y", "cycle"}, {"x=0 y=1 0>1 1>2 2>-", "y.n=x", "cycle"}, {"x=0 y=1 0>1 1>2 2>-", "y.n=y", "cycle"},
		{"x=0 y=2 0>1 1>- 2>0", "x.n=y", "cycle"},
	} {
		checkExecText(t, c.heap, c.stmt, c.want)
	}
}

// MaxCells is met by a new cell, and no new one comes after that.
func TestLimitOfCells(t *testing.T) {
	for cells := range 7 {
		h := heapOf([]int{min(cells, 1) - 1, -1})
		for cell := range cells {
			h.Next = append(h.Next, cell+1)
		}
		if cells > 0 {
			h.Next[cells-1] = -1
		}
		vars, want := []string{"x", "y"}, cloneHeap(h)
		want.Vars[1], want.Next = cells, append(want.Next, -1)
		if cells == 6 {
			checkExec(t, vars, stmtOfText(t, "y=new"), h, impl.Heap{}, "full")
			checkExec(t, vars, stmtOfText(t, "x=new"), h, impl.Heap{}, "full")
			continue
		}
		checkExec(t, vars, stmtOfText(t, "y=new"), h, want, "ok")
		if cells == 5 {
			checkExec(t, vars, stmtOfText(t, "y=new"), want, impl.Heap{}, "full")
			checkExec(t, vars, stmtOfText(t, "skip"), want, want, "ok")
			checkExec(t, vars, stmtOfText(t, "free y"), want, h, "ok")
		}
	}
}

// A new cell has no next one, whatever the variable pointed to before.
func TestNewCells(t *testing.T) {
	for _, size := range sizesOfHeaps {
		vars := varNames(size[0])
		for _, h := range allHeaps(size[0], size[1]) {
			for i, name := range vars {
				after, code := impl.Exec(vars, impl.Stmt{Kind: impl.StNew, A: name}, h)
				if code != impl.ExOk {
					continue
				}
				cell := after.Vars[i]
				if cell < 0 || after.Next[cell] != -1 || slices.Contains(after.Next, cell) || len(impl.Positions(after.Vars, cell)) != 1 {
					t.Errorf("%v has no new cell of %s after %v", after, name, h)
				}
				// Without it everything is as before, but that the variable points nowhere.
				freed, code := impl.Exec(vars, impl.Stmt{Kind: impl.StFree, A: name}, after)
				before, _ := impl.Exec(vars, impl.Stmt{Kind: impl.StNull, A: name}, h)
				if code != impl.ExOk || !sameHeap(freed, before) {
					t.Errorf("%v becomes %v, %d without the new cell of %s, want %v", after, freed, code, name, before)
				}
			}
		}
	}
}

// A statement whose two variables are the same.
func TestOneVariableInBothPlaces(t *testing.T) {
	for _, c := range []struct{ heap, stmt, want string }{
		{"x=-", "x=x", "x=-"}, {"x=0 0>1 1>-", "x=x", "x=0 0>1 1>-"}, {"x=0 y=1 0>- 1>0", "y=y", "x=0 y=1 0>- 1>0"},
		{"x=-", "x=x.n", "null"}, {"x=0 0>-", "x=x.n", "leak"}, {"x=0 0>1 1>-", "x=x.n", "leak"}, {"x=0 y=0 0>-", "x=x.n", "x=- y=0 0>-"},
		{"x=0 y=1 0>1 1>-", "y=y.n", "x=0 y=- 0>1 1>-"}, {"x=0 y=1 0>1 1>-", "x=x.n", "leak"}, {"x=0 y=1 0>- 1>0", "y=y.n", "leak"},
		{"x=-", "x.n=x", "null"}, {"x=0 0>-", "x.n=x", "cycle"}, {"x=0 0>1 1>-", "x.n=x", "cycle"}, {"x=0 y=1 0>1 1>-", "x.n=x", "cycle"},
		{"x=-", "x==x", "x=-"}, {"x=-", "x!=x", "blocked"}, {"x=0 0>1 1>-", "x==x", "x=0 0>1 1>-"}, {"x=0 0>1 1>-", "x!=x", "blocked"},
	} {
		checkExecText(t, c.heap, c.stmt, c.want)
	}
}

// A cell that is lost, and one that is just kept: by a variable, or by the next one of a cell.
func TestLostAndKeptCells(t *testing.T) {
	for _, c := range []struct{ heap, stmt, want string }{
		{"x=0 y=- 0>-", "x=null", "leak"}, {"x=0 y=0 0>-", "x=null", "x=- y=0 0>-"}, {"x=0 y=1 0>- 1>0", "x=null", "x=- y=0 0>1 1>-"},
		{"x=0 y=1 0>- 1>-", "x=y", "leak"}, {"x=0 y=1 0>- 1>-", "y=x.n", "leak"}, {"x=0 y=0 0>1 1>-", "x=y.n", "x=0 y=1 0>- 1>0"},
		{"x=0 y=2 0>1 1>2 2>-", "x.n=null", "leak"}, {"x=0 y=1 0>1 1>2 2>-", "x.n=null", "x=0 y=1 0>- 1>2 2>-"}, {"x=0 y=2 0>1 1>- 2>1", "x.n=null", "x=0 y=1 0>- 1>2 2>-"},
		{"x=0 y=2 0>1 1>- 2>-", "x.n=y", "leak"}, {"x=0 y=2 0>1 1>2 2>-", "x.n=y", "leak"}, {"x=0 y=1 z=2 0>1 1>- 2>-", "x.n=z", "x=0 y=2 z=1 0>1 1>- 2>-"},
		{"x=0 0>1 1>-", "free x", "leak"}, {"x=0 y=2 0>1 1>2 2>-", "free x", "leak"}, {"x=0 y=1 0>1 1>-", "free x", "x=- y=0 0>-"}, {"x=0 y=2 0>1 1>- 2>1", "free x", "x=- y=0 0>1 1>-"},
		{"x=0 y=2 0>1 1>- 2>1", "free y", "x=0 y=- 0>1 1>-"}, {"x=0 y=- 0>-", "x=new", "leak"}, {"x=0 y=0 0>-", "x=new", "x=0 y=1 0>- 1>-"},
	} {
		checkExecText(t, c.heap, c.stmt, c.want)
	}
}

// Some statements after one another; each one works on the heap that the one before it leaves.
func TestStatementsAfterOneAnother(t *testing.T) {
	for _, c := range []struct{ heap, stmts, want string }{
		{"x=- y=-", "y=new;y.n=x;x=y;y=null;y=new;y.n=x;x=y;y=null;y=new;y.n=x;x=y;y=null", "x=0 y=- 0>1 1>2 2>-"},
		{"x=0 y=- t=- 0>1 1>2 2>-", "t=y;y=x;x=x.n;y.n=t", "x=0 y=2 t=- 0>1 1>- 2>-"},
		{"x=0 y=- t=- 0>1 1>-", "t=y;y=x;x=x.n;y.n=t;t=y;y=x;x=x.n;y.n=t;x==null;t=null", "x=- y=0 t=- 0>1 1>-"},
		{"x=0 t=- 0>1 1>-", "t=x.n;free x;x=t;t=null;x!=null;t=x.n;free x;x=t;t=null;x==null", "x=- t=-"},
		{"a=- b=- c=- d=-", "d=new;c=new;c.n=d;b=new;b.n=d;a=new;a.n=b", "a=0 b=1 c=3 d=2 0>1 1>2 2>- 3>2"},
		{"a=0 b=1 c=3 d=2 0>1 1>2 2>- 3>2", "b=d;a=null", "leak"},
		{"a=0 b=1 c=3 d=2 0>1 1>2 2>- 3>2", "d=null;b=null;a=a.n", "leak"},
		{"a=0 b=1 c=3 d=2 0>1 1>2 2>- 3>2", "free a;free b;free c;free d", "a=- b=- c=- d=-"},
		{"a=0 b=1 c=3 d=2 0>1 1>2 2>- 3>2", "free a;free b;free d", "dangling"},
	} {
		vars, h := heapOfText(c.heap)
		code := impl.ExOk
		for _, text := range strings.Split(c.stmts, ";") {
			if h, code = impl.Exec(vars, stmtOfText(t, text), h); code != impl.ExOk {
				break
			}
		}
		got := impl.HeapText(vars, h)
		if code != impl.ExOk {
			got = impl.ExecName(code)
		}
		if got != c.want {
			t.Errorf("%s; %s gives %q, want %q", c.heap, c.stmts, got, c.want)
		}
	}
}

// The cells of the new heap are numbered anew, and a heap whose cells are numbered otherwise is none.
func TestNewHeapIsCanonical(t *testing.T) {
	for _, c := range []struct{ heap, stmt, want string }{
		{"x=0 y=1 0>- 1>0", "x=y", "x=0 y=0 0>1 1>-"}, {"x=1 y=0 0>1 1>-", "x=y", "bad"}, {"x=- y=0 0>-", "x=new", "x=0 y=1 0>- 1>-"},
		{"x=0 y=2 0>1 1>- 2>1", "free x", "x=- y=0 0>1 1>-"}, {"x=0 y=2 0>1 1>- 2>0", "x=x.n", "x=0 y=1 0>- 1>2 2>0"},
		{"x=0 y=1 0>- 1>-", "x.n=y", "x=0 y=1 0>1 1>-"}, {"x=1 y=0 0>- 1>-", "x.n=y", "bad"}, {"x=1 y=0 0>1 1>-", "skip", "bad"}, {"x=1 y=0 0>- 1>-", "x!=y", "bad"},
		{"x=0 y=1 z=2 0>- 1>- 2>-", "x.n=z", "x=0 y=2 z=1 0>1 1>- 2>-"}, {"x=0 y=1 z=2 0>1 1>2 2>-", "x.n=null", "x=0 y=1 z=2 0>- 1>2 2>-"},
	} {
		checkExecText(t, c.heap, c.stmt, c.want)
	}
	vars := varNames(2)
	for _, h := range allHeaps(2, 4) {
		for _, order := range ordersOf(len(h.Next)) {
			if other := renumber(h, order); !sameHeap(other, h) {
				for _, s := range allStmts(vars) {
					checkBad(t, vars, s, other)
				}
			}
		}
	}
}

// heapsOfAnyKind returns a heap with so many variables and some that are none.
func heapsOfAnyKind(vars int) []impl.Heap {
	nulls, zeros := slices.Repeat([]int{-1}, vars), slices.Repeat([]int{0}, vars)
	return []impl.Heap{{Vars: nulls}, {Vars: zeros, Next: []int{1, -1}}, {Vars: zeros, Next: []int{0}}, {Vars: nulls, Next: []int{-1}}, {Vars: zeros}, {}}
}

func TestStatementsThatAreNone(t *testing.T) {
	for _, vars := range listsOfVars {
		for _, h := range heapsOfAnyKind(len(vars)) {
			first, last := vars[0], vars[len(vars)-1]
			for _, names := range append(namePairs, [2]string{first, ""}, [2]string{"", last}, [2]string{first, last}, [2]string{first, first}) {
				for _, kind := range nonKinds {
					checkBad(t, vars, impl.Stmt{Kind: kind, A: names[0], B: names[1]}, h)
				}
			}
			for _, c := range stmtKinds {
				for _, a := range operands {
					for _, b := range operands {
						if s := (impl.Stmt{Kind: c.number, A: a, B: b}); !wantStmt(vars, c.uses, s) {
							checkBad(t, vars, s, h)
						}
					}
				}
			}
		}
	}
	checkBad(t, []string{"x"}, impl.Stmt{}, heapOf([]int{-1}))
	checkBad(t, []string{"x"}, impl.Stmt{}, impl.Heap{})
}

// The statements and the heaps would be valid if the lists were variables.
func TestVariablesThatAreNone(t *testing.T) {
	for _, vars := range [][]string{
		nil, {}, {""}, {"x", "x"}, {"x", "y", "x"}, {"x", ""}, {"", "x"}, {"x", "abc"}, {"X", "x"}, {"x", "\xff"}, {"x", "1", "y"}, {"a", "b", "c", "d", "x"},
	} {
		for _, h := range heapsOfAnyKind(len(vars)) {
			for _, c := range stmtKinds {
				for _, a := range append([]string{"x"}, vars...) {
					checkBad(t, vars, stmtWith(c.number, c.uses, a, a), h)
					checkBad(t, vars, stmtWith(c.number, c.uses, "x", a), h)
				}
			}
		}
	}
}

// What is no heap for the variables is bad with every statement.
func TestHeapsThatAreNone(t *testing.T) {
	for _, h := range smallRawHeaps() {
		for count := 1; count <= 4; count++ {
			if wantIsHeap(count, h) {
				continue
			}
			vars := varNames(count)
			for _, c := range stmtKinds {
				checkBad(t, vars, stmtWith(c.number, c.uses, vars[0], vars[count-1]), h)
			}
		}
	}
	for _, c := range heapTexts {
		vars := varNames(len(c.h.Vars))
		for _, wrong := range append([]int{len(c.h.Next)}, wrongElements...) {
			for i := range len(c.h.Vars) + len(c.h.Next) {
				h := cloneHeap(c.h)
				if i < len(h.Vars) {
					h.Vars[i] = wrong
				} else {
					h.Next[i-len(h.Vars)] = wrong
				}
				for _, s := range allStmts(vars) {
					checkBad(t, vars, s, h)
				}
			}
		}
	}
}

// A heap with another number of variables, or with too many cells.
func TestHeapsOfOtherSizes(t *testing.T) {
	for count := 1; count <= 4; count++ {
		vars := varNames(count)
		for _, s := range allStmts(vars) {
			for other := range 8 {
				if other != count {
					checkBad(t, vars, s, heapOf(slices.Repeat([]int{-1}, other)))
					checkBad(t, vars, s, heapOf(slices.Repeat([]int{0}, other), 1, -1))
				}
			}
			checkBad(t, vars, s, heapOf(slices.Repeat([]int{0}, count), 1, 2, 3, 4, 5, 6, -1))
			checkBad(t, vars, s, heapOf(slices.Repeat([]int{0}, count), 1, 2, 3, 4, 5, 6, 7, -1))
		}
	}
}

// Neither the elements of the arguments nor what is behind them changes.
func TestExecLeavesArgumentsAlone(t *testing.T) {
	for _, count := range []int{1, 2, 3} {
		names := append(varNames(4)[:count:count], "spare", "x")
		for _, h := range append(allHeaps(count, 3), heapOf(slices.Repeat([]int{0}, count), 0), heapOf(slices.Repeat([]int{2}, count), -1)) {
			roomy := impl.Heap{Vars: append(slices.Clone(h.Vars), 77, 78, 79), Next: append(slices.Clone(h.Next), 80, 81, 82)}
			vars := names[:count]
			for _, s := range allStmts(vars) {
				impl.Exec(vars, s, impl.Heap{Vars: roomy.Vars[:count], Next: roomy.Next[:len(h.Next)]})
				wantVars, wantNext := append(slices.Clone(h.Vars), 77, 78, 79), append(slices.Clone(h.Next), 80, 81, 82)
				if !slices.Equal(roomy.Vars, wantVars) || !slices.Equal(roomy.Next, wantNext) {
					t.Fatalf("%v becomes %v with %v", h, roomy, s)
				}
			}
		}
		if want := append(varNames(4)[:count:count], "spare", "x"); !slices.Equal(names, want) {
			t.Errorf("the variables become %q", names)
		}
	}
}

func TestExecSharesNoMemory(t *testing.T) {
	vars := varNames(3)
	for _, h := range allHeaps(3, 3) {
		for _, s := range allStmts(vars) {
			own := cloneHeap(h)
			want, name := wantExec(vars, s, h)
			one, _ := impl.Exec(vars, s, own)
			two, _ := impl.Exec(vars, s, own)
			fill(one.Vars)
			if name == "ok" && !slices.Equal(one.Next, want.Next) {
				t.Errorf("the cells of the heap after %v and %v change with its variables", h, s)
			}
			fill(one.Next)
			if !sameHeap(own, h) || !sameHeap(two, want) {
				t.Errorf("%v and %v change with a result of %v", own, two, s)
			}
			fill(own.Vars)
			fill(own.Next)
			if !sameHeap(two, want) {
				t.Errorf("the heap after %v and %v becomes %v with the argument", h, s, two)
			}
		}
	}
}
