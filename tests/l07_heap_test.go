package tests

import (
	"fmt"
	"math"
	"slices"
	"strings"
	"testing"

	"loop.example/g00590/impl"
)

// heapTexts lists heaps, with variables named in the order a, b, c, d, and their texts.
var heapTexts = []struct {
	h    impl.Heap
	text string
}{
	{heapOf([]int{-1}), "a=-"},
	{heapOf([]int{-1, -1, -1, -1}), "a=- b=- c=- d=-"},
	{heapOf([]int{0}, -1), "a=0 0>-"},
	{heapOf([]int{-1, 0}, -1), "a=- b=0 0>-"},
	{heapOf([]int{0, -1}, 1, -1), "a=0 b=- 0>1 1>-"},
	{heapOf([]int{0, 0}, 1, -1), "a=0 b=0 0>1 1>-"},
	{heapOf([]int{0, 1}, 1, -1), "a=0 b=1 0>1 1>-"},
	{heapOf([]int{0, 1}, -1, 0), "a=0 b=1 0>- 1>0"},
	{heapOf([]int{0, 1}, -1, -1), "a=0 b=1 0>- 1>-"},
	{heapOf([]int{0, 2}, 1, -1, 1), "a=0 b=2 0>1 1>- 2>1"},
	{heapOf([]int{0, 1, 2}, -1, 0, 0), "a=0 b=1 c=2 0>- 1>0 2>0"},
	{heapOf([]int{0, 1, 2}, 2, 2, -1), ""},
	{heapOf([]int{0, 1, -1}, 1, -1), "a=0 b=1 c=- 0>1 1>-"},
	{heapOf([]int{-1, 0, 3, 1}, 1, 2, -1, 1), "a=- b=0 c=3 d=1 0>1 1>2 2>- 3>1"},
	{heapOf([]int{0}, 1, 2, 3, 4, 5, -1), "a=0 0>1 1>2 2>3 3>4 4>5 5>-"},
	{heapOf([]int{5}, -1, 0, 1, 2, 3, 4), ""},
	{heapOf([]int{0, 2, 4, 5}, 1, -1, 3, -1, -1, 4), "a=0 b=2 c=4 d=5 0>1 1>- 2>3 3>- 4>- 5>4"},
	{heapOf([]int{0, 3, 4, 5}, 1, 2, -1, 2, 2, 1), "a=0 b=3 c=4 d=5 0>1 1>2 2>- 3>2 4>2 5>1"},
}

// wrongElements lists numbers that are neither -1 nor a cell of a heap with at most 6 cells; the low bits of some are.
var wrongElements = []int{
	-2, -3, -6, -7, 6, 7, 100, 255, 256, -256, 1 << 16, 1<<16 + 1, -1 << 16, 1 << 32, 1<<32 + 1, 1<<32 - 1, -1 << 32, -1<<32 + 1,
	math.MaxInt, math.MinInt, math.MaxInt - 1, math.MinInt + 1, math.MaxInt32, math.MinInt32,
}

func heapOf(vars []int, next ...int) impl.Heap { return impl.Heap{Vars: vars, Next: next} }

func cloneHeap(h impl.Heap) impl.Heap {
	return impl.Heap{Vars: slices.Clone(h.Vars), Next: slices.Clone(h.Next)}
}

func sameHeap(a impl.Heap, b impl.Heap) bool {
	return slices.Equal(a.Vars, b.Vars) && slices.Equal(a.Next, b.Next)
}

func varNames(vars int) []string { return []string{"a", "b", "c", "d"}[:vars] }

// rawHeaps returns all heaps with so many variables and cells whose elements are from low to high, be they valid or not.
func rawHeaps(vars int, cells int, low int, high int) []impl.Heap {
	var list []impl.Heap
	elements := slices.Repeat([]int{low}, vars+cells)
	for {
		list = append(list, cloneHeap(impl.Heap{Vars: elements[:vars], Next: elements[vars:]}))
		at := len(elements) - 1
		for at >= 0 && elements[at] == high {
			elements[at] = low
			at--
		}
		if at < 0 {
			return list
		}
		elements[at]++
	}
}

// smallRawHeaps returns the heaps with few variables and cells whose elements are from -2 to the number of cells.
func smallRawHeaps() []impl.Heap {
	var list []impl.Heap
	for _, size := range [][2]int{{0, 0}, {0, 1}, {0, 2}, {0, 3}, {1, 0}, {1, 1}, {1, 2}, {1, 3}, {1, 4}, {2, 0}, {2, 1}, {2, 2}, {2, 3}, {3, 0}, {3, 1}, {3, 2}, {4, 0}, {4, 1}, {4, 2}} {
		list = append(list, rawHeaps(size[0], size[1], -2, size[1])...)
	}
	return list
}

// largerRawHeaps returns heaps with more cells, whose elements are all -1 or cells.
func largerRawHeaps() []impl.Heap {
	var list []impl.Heap
	for _, size := range [][2]int{{1, 5}, {2, 4}, {3, 3}, {4, 3}} {
		list = append(list, rawHeaps(size[0], size[1], -1, size[1]-1)...)
	}
	return list
}

// isElement reports whether an element of a heap is -1 or a cell.
func isElement(h impl.Heap, n int) bool { return n >= -1 && n < len(h.Next) }

func hasElements(h impl.Heap) bool {
	for _, n := range append(slices.Clone(h.Vars), h.Next...) {
		if !isElement(h, n) {
			return false
		}
	}
	return true
}

// wantFollowed lets every list end after as many steps as there are cells: by then it has met one twice if it has a cycle.
func wantFollowed(h impl.Heap, cell int) []int {
	var list []int
	for range len(h.Next) + 1 {
		if cell < 0 || cell >= len(h.Next) {
			if cell != -1 {
				return nil
			}
			return list
		}
		if !slices.Contains(list, cell) {
			list = append(list, cell)
		}
		cell = h.Next[cell]
	}
	return list
}

// stepsBetween has for each pair of cells whether the second one can be reached from the first by one or more steps.
func stepsBetween(h impl.Heap) [][]bool {
	count := len(h.Next)
	steps := make([][]bool, count)
	for i, next := range h.Next {
		steps[i] = make([]bool, count)
		if next >= 0 && next < count {
			steps[i][next] = true
		}
	}
	for k := range count {
		for i := range count {
			for j := range count {
				steps[i][j] = steps[i][j] || steps[i][k] && steps[k][j]
			}
		}
	}
	return steps
}

// metCells returns the cells that variables reach, each where it is met first.
func metCells(h impl.Heap) []int {
	var met []int
	for _, start := range h.Vars {
		for _, cell := range wantFollowed(h, start) {
			if !slices.Contains(met, cell) {
				met = append(met, cell)
			}
		}
	}
	return met
}

// wantLeak tells whether a cell is not met; metCells has cells of h alone, and each once.
func wantLeak(h impl.Heap) bool { return len(metCells(h)) < len(h.Next) }

func wantIsHeap(vars int, h impl.Heap) bool {
	if vars < 1 || vars > 4 || len(h.Vars) != vars || len(h.Next) > 6 || !hasElements(h) {
		return false
	}
	steps := stepsBetween(h)
	for i := range h.Next {
		if steps[i][i] {
			return false
		}
	}
	met := metCells(h)
	for i := range h.Next {
		if i >= len(met) || met[i] != i {
			return false
		}
	}
	return true
}

func wantCanon(h impl.Heap) impl.Heap {
	if !hasElements(h) {
		return impl.Heap{}
	}
	var canon impl.Heap
	met := metCells(h)
	for _, cell := range h.Vars {
		canon.Vars = append(canon.Vars, slices.Index(met, cell))
	}
	for _, cell := range met {
		canon.Next = append(canon.Next, slices.Index(met, h.Next[cell]))
	}
	return canon
}

func wantText(vars []string, h impl.Heap) string {
	var text []string
	for i, name := range vars {
		text = append(text, strings.ReplaceAll(fmt.Sprintf("%s=%d", name, h.Vars[i]), "-1", "-"))
	}
	for i, next := range h.Next {
		text = append(text, strings.ReplaceAll(fmt.Sprintf("%d>%d", i, next), "-1", "-"))
	}
	return strings.Join(text, " ")
}

// renumber gives the cell i of a heap the number order[i].
func renumber(h impl.Heap, order []int) impl.Heap {
	other := impl.Heap{Next: make([]int, len(h.Next))}
	number := func(n int) int {
		if n == -1 {
			return -1
		}
		return order[n]
	}
	for _, cell := range h.Vars {
		other.Vars = append(other.Vars, number(cell))
	}
	for i, next := range h.Next {
		other.Next[order[i]] = number(next)
	}
	return other
}

// ordersOf returns all orders of the numbers 0 to count - 1.
func ordersOf(count int) [][]int {
	if count == 0 {
		return [][]int{{}}
	}
	var list [][]int
	for _, order := range ordersOf(count - 1) {
		for at := range count {
			list = append(list, slices.Insert(slices.Clone(order), at, count-1))
		}
	}
	return list
}

func checkFollowed(t *testing.T, h impl.Heap, cell int, want []int) {
	t.Helper()
	if got := impl.Followed(h, cell); !slices.Equal(got, want) {
		t.Errorf("Followed(%v, %d) = %v, want %v", h, cell, got, want)
	}
}

func checkIsHeap(t *testing.T, vars int, h impl.Heap, want bool) {
	t.Helper()
	if got := impl.IsHeap(vars, h); got != want {
		t.Errorf("IsHeap(%d, %v) = %t, want %t", vars, h, got, want)
	}
}

// checkNoHeap checks that what is no heap has no text.
func checkNoHeap(t *testing.T, h impl.Heap) {
	t.Helper()
	checkIsHeap(t, len(h.Vars), h, false)
	if got := impl.HeapText(varNames(min(len(h.Vars), 4)), h); got != "" {
		t.Errorf("HeapText(%v) = %q, want no text", h, got)
	}
}

func checkLeak(t *testing.T, h impl.Heap, want bool) {
	t.Helper()
	if got := impl.HasLeak(h); got != want {
		t.Errorf("HasLeak(%v) = %t, want %t", h, got, want)
	}
}

// checkCanon checks the canonical heap, and promise 7: it stays, and has no leak.
func checkCanon(t *testing.T, h impl.Heap, want impl.Heap) {
	t.Helper()
	got := impl.CanonHeap(h)
	if !sameHeap(got, want) {
		t.Errorf("CanonHeap(%v) = %v, want %v", h, got, want)
	}
	if again := impl.CanonHeap(got); !sameHeap(again, got) {
		t.Errorf("CanonHeap(%v) = %v: the canonical heap of %v does not stay", got, again, h)
	}
	checkLeak(t, got, false)
}

func checkEqualHeap(t *testing.T, a impl.Heap, b impl.Heap, want bool) {
	t.Helper()
	if impl.EqualHeap(a, b) != want || impl.EqualHeap(b, a) != want {
		t.Errorf("EqualHeap(%v, %v) = %t, %t, want %t", a, b, impl.EqualHeap(a, b), impl.EqualHeap(b, a), want)
	}
}

func TestConstantOfHeaps(t *testing.T) {
	if impl.MaxCells != 6 {
		t.Errorf("MaxCells = %d, want 6", impl.MaxCells)
	}
}

func TestHeapTextOfListedHeaps(t *testing.T) {
	for _, c := range heapTexts {
		if c.text == "" {
			checkNoHeap(t, c.h)
			continue
		}
		checkIsHeap(t, len(c.h.Vars), c.h, true)
		if got := impl.HeapText(varNames(len(c.h.Vars)), c.h); got != c.text {
			t.Errorf("HeapText(%v) = %q, want %q", c.h, got, c.text)
		}
		checkCanon(t, c.h, c.h)
	}
}

func TestFollowedOfLists(t *testing.T) {
	list := []int{3, -1, 0, 4, 1}
	cases := []struct {
		next []int
		cell int
		want []int
	}{
		{list, 2, []int{2, 0, 3, 4, 1}}, {list, 0, []int{0, 3, 4, 1}}, {list, 3, []int{3, 4, 1}}, {list, 4, []int{4, 1}}, {list, 1, []int{1}},
		{list, -1, nil}, {list, -2, nil}, {list, 5, nil}, {list, 6, nil}, {list, math.MaxInt, nil}, {list, math.MinInt, nil}, {list, 1 << 32, nil},
		{nil, 0, nil}, {nil, -1, nil}, {nil, 1, nil}, {[]int{}, 0, nil}, {[]int{-1}, 0, []int{0}}, {[]int{-1}, 1, nil},
		// A list that meets a cell again stops before it, wherever that cell stands in it.
		{[]int{0}, 0, []int{0}}, {[]int{1, 0}, 0, []int{0, 1}}, {[]int{1, 0}, 1, []int{1, 0}}, {[]int{1, 1}, 0, []int{0, 1}}, {[]int{1, 2, 0}, 1, []int{1, 2, 0}},
		{[]int{1, 2, 1}, 0, []int{0, 1, 2}}, {[]int{1, 2, 2}, 0, []int{0, 1, 2}}, {[]int{1, 2, 3, 1, 0}, 4, []int{4, 0, 1, 2, 3}}, {[]int{1, 2, 0, 3}, 3, []int{3}},
		// Only what is met counts.
		{[]int{-1, -2}, 0, []int{0}}, {[]int{-1, 9}, 0, []int{0}}, {[]int{-1, -2}, 1, nil}, {[]int{1, -2}, 0, nil}, {[]int{1, 2}, 0, nil}, {[]int{2, -1}, 0, nil},
		{[]int{1, 2, 3, 4}, 0, nil}, {[]int{1, 2, 3, 3}, 0, []int{0, 1, 2, 3}}, {[]int{-2}, 0, nil}, {[]int{1}, 0, nil}, {[]int{-2}, -2, nil}, {[]int{9, 0}, 9, nil},
	}
	for _, c := range cases {
		checkFollowed(t, impl.Heap{Next: c.next}, c.cell, c.want)
		checkFollowed(t, impl.Heap{Vars: []int{-9, 77, 0, 1, 2}, Next: c.next}, c.cell, c.want)
	}
}

func TestFollowedOfSmallHeaps(t *testing.T) {
	for _, cells := range []int{0, 1, 2, 3, 4} {
		for _, h := range rawHeaps(0, cells, -3, cells+1) {
			for cell := -3; cell <= cells+2; cell++ {
				checkFollowed(t, h, cell, wantFollowed(h, cell))
			}
		}
	}
}

// A list is not limited to MaxCells.
func TestFollowedOfLongLists(t *testing.T) {
	const count = 50000
	var next, want []int
	for i := range count {
		next = append(next, i-1)
		want = append(want, count-1-i)
	}
	h := impl.Heap{Vars: []int{0, count - 1, 0, 17}, Next: next}
	checkFollowed(t, h, count-1, want)
	checkFollowed(t, h, 2, []int{2, 1, 0})
	next[0] = count - 1
	checkFollowed(t, h, 0, append([]int{0}, want[:count-1]...))
	next[0] = -2
	checkFollowed(t, h, count-1, nil)
}

// All small heaps, whatever their elements are, for every number of variables.
func TestIsHeapOfSmallHeaps(t *testing.T) {
	for _, h := range append(smallRawHeaps(), largerRawHeaps()...) {
		for vars := -1; vars <= 5; vars++ {
			checkIsHeap(t, vars, h, wantIsHeap(vars, h))
		}
		if names := varNames(len(h.Vars)); wantIsHeap(len(names), h) {
			if got, want := impl.HeapText(names, h), wantText(names, h); got != want {
				t.Errorf("HeapText(%v) = %q, want %q", h, got, want)
			}
		} else {
			checkNoHeap(t, h)
		}
	}
}

// Of the heaps that differ in the numbers of the cells alone exactly one is a heap: every cell is told apart by how it is reached.
func TestOneOrderOfCellsIsAHeap(t *testing.T) {
	for _, size := range [][2]int{{1, 4}, {2, 3}, {3, 3}, {2, 4}} {
		orders := ordersOf(size[1])
		for _, h := range rawHeaps(size[0], size[1], -1, size[1]-1) {
			if !impl.IsHeap(size[0], h) {
				continue
			}
			for _, order := range orders {
				other := renumber(h, order)
				checkIsHeap(t, size[0], other, slices.IsSorted(order))
				checkCanon(t, other, h)
			}
		}
	}
}

// The number of the heaps is known apart from their numbers: all that have no cycle and no leak, by the number of orders of the cells.
func TestNumberOfHeaps(t *testing.T) {
	for _, size := range [][2]int{{1, 0}, {1, 1}, {1, 2}, {1, 3}, {1, 4}, {1, 5}, {2, 1}, {2, 2}, {2, 3}, {2, 4}, {3, 2}, {3, 3}, {4, 3}} {
		all, heaps := 0, 0
		for _, h := range rawHeaps(size[0], size[1], -1, max(size[1]-1, -1)) {
			steps := stepsBetween(h)
			cycle := slices.ContainsFunc(h.Next, func(n int) bool { return n >= 0 && steps[n][n] })
			if !cycle && len(metCells(h)) == size[1] {
				all++
			}
			if impl.IsHeap(size[0], h) {
				heaps++
			}
		}
		if all != heaps*len(ordersOf(size[1])) || heaps == 0 {
			t.Errorf("%d heaps with %d variables and %d cells, and %d with any numbers", heaps, size[0], size[1], all)
		}
	}
}

func TestLimitsOfHeaps(t *testing.T) {
	for vars := 1; vars <= 6; vars++ {
		for cells := 0; cells <= 8; cells++ {
			h := impl.Heap{Vars: slices.Repeat([]int{0}, vars)}
			for cell := range cells {
				h.Next = append(h.Next, cell+1)
			}
			if cells == 0 {
				h.Vars = slices.Repeat([]int{-1}, vars)
			} else {
				h.Next[cells-1] = -1
			}
			checkIsHeap(t, vars, h, vars <= 4 && cells <= 6)
			if vars > 4 || cells > 6 {
				checkNoHeap(t, h)
			}
			// Neither limit concerns the canonical heap.
			checkCanon(t, h, h)
		}
	}
	for _, vars := range []int{0, -1, -4, 5, 6, 1 << 32, 1<<32 + 1, math.MaxInt, math.MinInt} {
		checkIsHeap(t, vars, heapOf([]int{-1}), false)
		checkIsHeap(t, vars, impl.Heap{}, false)
		checkIsHeap(t, vars, heapOf([]int{-1, -1, -1, -1, -1}), false)
	}
}

func TestHeapsWithoutVariablesOrCells(t *testing.T) {
	checkNoHeap(t, impl.Heap{})
	checkNoHeap(t, impl.Heap{Vars: []int{}, Next: []int{}})
	checkNoHeap(t, heapOf(nil, -1))
	checkNoHeap(t, heapOf(nil, 0))
	checkNoHeap(t, heapOf([]int{-1}, -1))
	checkNoHeap(t, heapOf([]int{-1, -1}, 1, -1))
	checkNoHeap(t, heapOf([]int{0}))
	checkCanon(t, impl.Heap{}, impl.Heap{})
	checkCanon(t, heapOf(nil, -1, 0), impl.Heap{})
	checkCanon(t, heapOf([]int{-1, -1}, -1, 0), heapOf([]int{-1, -1}))
	checkCanon(t, heapOf([]int{-1, -1, -1, -1, -1, -1}), heapOf([]int{-1, -1, -1, -1, -1, -1}))
	checkLeak(t, impl.Heap{}, false)
	checkLeak(t, heapOf([]int{-1}), false)
	checkLeak(t, heapOf(nil, -1), true)
	checkLeak(t, heapOf([]int{-1}, -1), true)
	checkLeak(t, heapOf([]int{-1, -1}, 0), true)
}

// Every element of a heap in turn is neither -1 nor a cell.
func TestWrongElements(t *testing.T) {
	for _, c := range heapTexts {
		for _, wrong := range append([]int{len(c.h.Next), len(c.h.Next) + 1}, wrongElements...) {
			for i := range c.h.Vars {
				h := cloneHeap(c.h)
				h.Vars[i] = wrong
				checkNoHeap(t, h)
				checkCanon(t, h, impl.Heap{})
			}
			for i := range c.h.Next {
				h := cloneHeap(c.h)
				h.Next[i] = wrong
				checkNoHeap(t, h)
				checkCanon(t, h, impl.Heap{})
				checkLeak(t, h, true)
				checkFollowed(t, h, i, nil)
			}
		}
	}
	// A cell that nobody reaches has to have a next one, too.
	checkCanon(t, heapOf([]int{0}, -1, -2), impl.Heap{})
	checkCanon(t, heapOf([]int{-1}, 1), impl.Heap{})
	checkCanon(t, heapOf(nil, 7), impl.Heap{})
	checkCanon(t, heapOf([]int{-2}), impl.Heap{})
	checkCanon(t, heapOf([]int{0}), impl.Heap{})
	// A variable that points to no cell reaches none, and hides none that another one reaches.
	checkLeak(t, heapOf([]int{5, 0, -2}, 1, -1), false)
	checkLeak(t, heapOf([]int{5, 1, -2}, 1, -1), true)
	checkLeak(t, heapOf([]int{9}), false)
}

func TestCycles(t *testing.T) {
	for _, next := range [][]int{
		{0}, {1, 0}, {1, 1}, {1, 2, 0}, {1, 2, 1}, {1, 2, 2}, {-1, 1}, {-1, 2, 1}, {1, -1, 2}, {1, 2, 3, 0}, {1, 2, 3, 1}, {1, 2, 3, 4, 0}, {1, 2, 3, 4, 5, 0}, {1, 2, 3, 4, 5, 5}, {1, 2, 3, 4, 5, 1},
	} {
		for vars := 1; vars <= 4; vars++ {
			for first := range next {
				checkNoHeap(t, heapOf(slices.Repeat([]int{first}, vars), next...))
			}
		}
		all := []int{0, min(1, len(next)-1), min(2, len(next)-1), len(next) - 1}
		checkNoHeap(t, heapOf(all, next...))
		checkCanon(t, heapOf(all, next...), wantCanon(heapOf(all, next...)))
		checkLeak(t, heapOf(all, next...), wantLeak(heapOf(all, next...)))
	}
	// The canonical heap keeps a cycle that a variable reaches, and leaves out one that none reaches.
	checkCanon(t, heapOf([]int{0}, 0), heapOf([]int{0}, 0))
	checkCanon(t, heapOf([]int{1}, 0, 0), heapOf([]int{0}, 1, 1))
	checkCanon(t, heapOf([]int{2, 1}, 1, 2, 0), heapOf([]int{0, 2}, 1, 2, 0))
	checkCanon(t, heapOf([]int{2}, 1, 0, -1), heapOf([]int{0}, -1))
	checkLeak(t, heapOf([]int{0}, 1, 0), false)
	checkLeak(t, heapOf([]int{1}, 1, 1), true)
	checkLeak(t, heapOf([]int{2}, 1, 0, -1), true)
}

// Cells that no variable reaches: alone, several, and ones that point into cells that are reached.
func TestCellsThatNobodyReaches(t *testing.T) {
	cases := []struct{ h, want impl.Heap }{
		{heapOf([]int{0}, -1, -1), heapOf([]int{0}, -1)},
		{heapOf([]int{1}, -1, -1), heapOf([]int{0}, -1)},
		{heapOf([]int{0}, -1, 0), heapOf([]int{0}, -1)},
		{heapOf([]int{1}, 1, -1), heapOf([]int{0}, -1)},
		{heapOf([]int{2}, -1, -1, 0), heapOf([]int{0}, 1, -1)},
		{heapOf([]int{0, -1}, 3, 3, 1, -1), heapOf([]int{0, -1}, 1, -1)},
		{heapOf([]int{0, 3}, 3, 3, 1, -1, 0, 2), heapOf([]int{0, 1}, 1, -1)},
		{heapOf([]int{-1, 4, -1}, 1, 2, 3, -1, 5, 3), heapOf([]int{-1, 0, -1}, 1, 2, -1)},
		{heapOf([]int{5, 2}, 1, 3, -1, 3, -1, 2), heapOf([]int{0, 1}, 1, -1)},
		{heapOf([]int{1, 4}, 1, 2, -1, -1, 2, 5), heapOf([]int{0, 2}, 1, -1, 1)},
		{heapOf([]int{8}, 1, 2, 3, 4, 5, 6, 7, 8, -1), heapOf([]int{0}, -1)},
	}
	for _, c := range cases {
		checkLeak(t, c.h, true)
		checkNoHeap(t, c.h)
		checkCanon(t, c.h, c.want)
		checkIsHeap(t, len(c.want.Vars), c.want, true)
	}
}

// The cells are met in another order than that of their numbers; variables share cells, or point into the middle of a list.
func TestOrderOfCells(t *testing.T) {
	cases := []struct{ h, want impl.Heap }{
		{heapOf([]int{1}, -1, 0), heapOf([]int{0}, 1, -1)},
		{heapOf([]int{1, 0}, -1, -1), heapOf([]int{0, 1}, -1, -1)},
		{heapOf([]int{-1, 1, 0}, -1, -1), heapOf([]int{-1, 0, 1}, -1, -1)},
		{heapOf([]int{1, 0}, -1, 0), heapOf([]int{0, 1}, 1, -1)},
		{heapOf([]int{1, 0}, 1, -1), heapOf([]int{0, 1}, -1, 0)},
		{heapOf([]int{0, 1}, 2, 2, -1), heapOf([]int{0, 2}, 1, -1, 1)},
		{heapOf([]int{1, 0}, 2, 2, -1), heapOf([]int{0, 2}, 1, -1, 1)},
		{heapOf([]int{2, 0, 1}, -1, 0, 0), heapOf([]int{0, 1, 2}, 1, -1, 1)},
		{heapOf([]int{2, 2}, 1, -1, 0), heapOf([]int{0, 0}, 1, 2, -1)},
		{heapOf([]int{0, 2}, 2, -1, 1), heapOf([]int{0, 1}, 1, 2, -1)},
		{heapOf([]int{2, 0}, 2, -1, 1), heapOf([]int{0, 2}, 1, -1, 0)},
		{heapOf([]int{5, 3, 1, 4}, 2, 0, -1, 0, 2, 0), heapOf([]int{0, 3, 4, 5}, 1, 2, -1, 1, 1, 2)},
		{heapOf([]int{5}, -1, 0, 1, 2, 3, 4), heapOf([]int{0}, 1, 2, 3, 4, 5, -1)},
	}
	for _, c := range cases {
		checkLeak(t, c.h, false)
		checkNoHeap(t, c.h)
		checkCanon(t, c.h, c.want)
		checkIsHeap(t, len(c.want.Vars), c.want, true)
	}
}

// Promise 7, for all small heaps, whatever their elements are.
func TestCanonicalHeapsStay(t *testing.T) {
	for _, h := range append(smallRawHeaps(), largerRawHeaps()...) {
		checkCanon(t, h, wantCanon(h))
		checkLeak(t, h, wantLeak(h))
		if wantIsHeap(len(h.Vars), h) {
			checkCanon(t, h, h)
		}
	}
}

// Large heaps are no heaps, but have a canonical one.
func TestHeapsBeyondTheLimits(t *testing.T) {
	const count = 20000
	h := impl.Heap{}
	var want impl.Heap
	for i := range count {
		h.Vars = append(h.Vars, i)
		h.Next = append(h.Next, i-1)
		want.Vars = append(want.Vars, i)
		want.Next = append(want.Next, i-1)
	}
	checkNoHeap(t, h)
	checkCanon(t, h, want)
	checkLeak(t, h, false)
	h.Vars = []int{count - 2}
	checkLeak(t, h, true)
	h.Vars = []int{-1, 1, 3}
	checkCanon(t, h, heapOf([]int{-1, 0, 2}, 1, -1, 3, 0))
	h.Next[count-1] = count
	checkCanon(t, h, impl.Heap{})
}

func TestHeapTextOfOtherNames(t *testing.T) {
	h := heapOf([]int{0, 1, -1}, 1, -1)
	for _, c := range []struct {
		vars []string
		text string
	}{
		{[]string{"x", "y", "t"}, "x=0 y=1 t=- 0>1 1>-"},
		{[]string{"zz", "a", "az"}, "zz=0 a=1 az=- 0>1 1>-"},
		{nil, ""}, {[]string{}, ""}, {[]string{"x"}, ""}, {[]string{"x", "y"}, ""}, {[]string{"x", "y", "z", "t"}, ""}, {[]string{"a", "b", "c", "d", "e"}, ""},
		{[]string{"x", "x", "t"}, ""}, {[]string{"x", "y", "x"}, ""}, {[]string{"x", "y", "y"}, ""}, {[]string{"x", "y", ""}, ""}, {[]string{"", "y", "t"}, ""}, {[]string{"x", "yyy", "t"}, ""},
	} {
		if got := impl.HeapText(c.vars, h); got != c.text {
			t.Errorf("HeapText(%q, %v) = %q, want %q", c.vars, h, got, c.text)
		}
	}
	for _, none := range nonNames {
		for i := range 3 {
			vars := []string{"x", "y", "t"}
			vars[i] = none
			if got := impl.HeapText(vars, h); got != "" {
				t.Errorf("HeapText(%.99q, %v) = %q, want no text", vars, h, got)
			}
		}
	}
	if got := impl.HeapText(nil, impl.Heap{}); got != "" {
		t.Errorf("HeapText of no variables is %q", got)
	}
	five := heapOf([]int{-1, -1, -1, -1, -1})
	if got := impl.HeapText([]string{"a", "b", "c", "d", "e"}, five); got != "" {
		t.Errorf("HeapText of five variables is %q", got)
	}
}

func TestHeapsHaveDifferentTexts(t *testing.T) {
	heapWith := map[string]impl.Heap{}
	for _, size := range [][2]int{{1, 0}, {1, 1}, {1, 4}, {2, 0}, {2, 1}, {2, 2}, {2, 3}, {3, 2}, {3, 3}, {4, 2}} {
		for _, h := range rawHeaps(size[0], size[1], -1, max(size[1]-1, -1)) {
			if !impl.IsHeap(size[0], h) {
				continue
			}
			text := impl.HeapText(varNames(size[0]), h)
			if other, met := heapWith[text]; met {
				t.Errorf("%v and %v have the text %q", h, other, text)
			}
			heapWith[text] = h
		}
	}
}

// Fields alone decide, whether the arguments are heaps or not; nil and empty slices are the same.
func TestEqualHeap(t *testing.T) {
	checkEqualHeap(t, impl.Heap{}, impl.Heap{}, true)
	checkEqualHeap(t, impl.Heap{}, impl.Heap{Vars: []int{}, Next: []int{}}, true)
	checkEqualHeap(t, impl.Heap{}, heapOf([]int{-1}), false)
	checkEqualHeap(t, impl.Heap{}, heapOf([]int{0}), false)
	checkEqualHeap(t, impl.Heap{}, heapOf(nil, 0), false)
	checkEqualHeap(t, heapOf([]int{0}), heapOf(nil, 0), false)
	checkEqualHeap(t, heapOf([]int{0, 1}, 2), heapOf([]int{0}, 1, 2), false)
	checkEqualHeap(t, heapOf([]int{-7, 99}, -7), heapOf([]int{-7, 99}, -7), true)
	checkEqualHeap(t, heapOf([]int{1}, -1, 0), heapOf([]int{0}, 1, -1), false)
	for i, a := range heapTexts {
		for j, b := range heapTexts {
			checkEqualHeap(t, cloneHeap(a.h), cloneHeap(b.h), i == j)
		}
		for k := range a.h.Vars {
			for _, step := range []int{1, -1, 1 << 32, math.MinInt} {
				h := cloneHeap(a.h)
				h.Vars[k] += step
				checkEqualHeap(t, h, a.h, false)
			}
		}
		for k := range a.h.Next {
			for _, step := range []int{1, -1, 1 << 32, math.MinInt} {
				h := cloneHeap(a.h)
				h.Next[k] += step
				checkEqualHeap(t, h, a.h, false)
			}
		}
		checkEqualHeap(t, a.h, impl.Heap{Vars: append(slices.Clone(a.h.Vars), 0), Next: a.h.Next}, false)
		checkEqualHeap(t, a.h, impl.Heap{Vars: a.h.Vars, Next: append(slices.Clone(a.h.Next), -1)}, false)
	}
}

// Neither the elements of the arguments nor what is behind them changes.
func TestHeapsLeaveArgumentsAlone(t *testing.T) {
	vars, next, names := []int{3, 1, 0, 77, 78}, []int{-1, 0, 1, 1, 79, 80}, []string{"x", "y", "z", "spare"}
	for _, cells := range []int{4, 3, 5} {
		for _, count := range []int{3, 2, 4} {
			h := impl.Heap{Vars: vars[:count], Next: next[:cells]}
			for cell := range cells {
				impl.Followed(h, cell)
			}
			impl.IsHeap(count, h)
			impl.CanonHeap(h)
			impl.HasLeak(h)
			impl.HeapText(names[:count], h)
			impl.HeapText(names[:count], heapOf(make([]int, count, 9), -1))
			impl.EqualHeap(h, h)
		}
	}
	canon := heapOf([]int{0, 1, 1, -1}[:3], []int{1, -1, 81}[:2]...)
	impl.CanonHeap(canon)
	impl.HeapText(names[:3], canon)
	if !slices.Equal(canon.Vars[:4], []int{0, 1, 1, -1}) || !slices.Equal(canon.Next[:3], []int{1, -1, 81}) {
		t.Errorf("the canonical heap becomes %v", canon)
	}
	if !slices.Equal(vars, []int{3, 1, 0, 77, 78}) || !slices.Equal(next, []int{-1, 0, 1, 1, 79, 80}) || !slices.Equal(names, []string{"x", "y", "z", "spare"}) {
		t.Errorf("the arguments become %v, %v, %q", vars, next, names)
	}
}

// fill writes to a whole slice, also behind its elements.
func fill(list []int) {
	list = list[:cap(list)]
	for i := range list {
		list[i] = 99
	}
}

func TestHeapsShareNoMemory(t *testing.T) {
	for _, c := range heapTexts {
		h := cloneHeap(c.h)
		want, lists := wantCanon(h), [][]int{}
		one, two := impl.CanonHeap(h), impl.CanonHeap(h)
		for cell := range h.Next {
			lists = append(lists, impl.Followed(h, cell))
		}
		fill(one.Vars)
		if !slices.Equal(one.Next, want.Next) {
			t.Errorf("the cells of CanonHeap(%v) change with its variables", h)
		}
		fill(one.Next)
		if !sameHeap(h, c.h) || !sameHeap(two, want) {
			t.Errorf("%v and %v change with a result", h, two)
		}
		for cell, list := range lists {
			if !slices.Equal(list, wantFollowed(c.h, cell)) {
				t.Errorf("Followed(%v, %d) becomes %v", c.h, cell, list)
			}
			fill(list)
		}
		if !sameHeap(h, c.h) {
			t.Errorf("%v becomes %v with a list", c.h, h)
		}
		fill(h.Vars)
		fill(h.Next)
		if !sameHeap(two, want) {
			t.Errorf("the canonical heap becomes %v with its argument", two)
		}
	}
}
