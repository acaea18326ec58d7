package tests

import (
	"cmp"
	"math"
	"slices"
	"testing"

	"loop.example/g00907/impl"
)

// heapNode is an element of a d-ary heap that knows its neighbours, where the program computes
// their indices.
type heapNode struct {
	element  int
	parent   *heapNode
	children []*heapNode
}

// heapNodes hangs every element but the first one below the first node with fewer than d children.
func heapNodes(list []int, d int) []*heapNode {
	nodes, open := []*heapNode{}, 0
	for _, e := range list {
		node := &heapNode{element: e}
		if len(nodes) > 0 {
			if len(nodes[open].children) == d {
				open++
			}
			node.parent = nodes[open]
			node.parent.children = append(node.parent.children, node)
		}
		nodes = append(nodes, node)
	}
	return nodes
}

func elementsOf(nodes []*heapNode) []int {
	list := []int{}
	for _, node := range nodes {
		list = append(list, node.element)
	}
	return list
}

func (h *heapNode) swapWith(other *heapNode) { h.element, other.element = other.element, h.element }

// sink sifts the element down and returns the number of swaps.
func (h *heapNode) sink() int {
	if len(h.children) == 0 {
		return 0
	}
	// MaxFunc returns the first of equal elements.
	greatest := slices.MaxFunc(h.children, func(a, b *heapNode) int { return cmp.Compare(a.element, b.element) })
	if greatest.element <= h.element {
		return 0
	}
	h.swapWith(greatest)
	return 1 + greatest.sink()
}

// rise sifts the element up and returns the number of swaps.
func (h *heapNode) rise() int {
	if h.parent == nil || h.element <= h.parent.element {
		return 0
	}
	h.swapWith(h.parent)
	return 1 + h.parent.rise()
}

// builtNodes returns the nodes of the heap that is built from list, and the number of swaps.
func builtNodes(list []int, d int) ([]*heapNode, int) {
	nodes, swaps := heapNodes(list, d), 0
	for _, node := range slices.Backward(nodes) {
		swaps += node.sink()
	}
	return nodes, swaps
}

// withoutLast returns the nodes but the last, which is taken off its parent.
func withoutLast(nodes []*heapNode) []*heapNode {
	last := len(nodes) - 1
	if parent := nodes[last].parent; parent != nil {
		parent.children = parent.children[:len(parent.children)-1]
	}
	return nodes[:last]
}

// firstRise returns the index of the first node that is greater than its parent, or -1.
func firstRise(list []int, d int) int {
	return slices.IndexFunc(heapNodes(list, d), func(node *heapNode) bool {
		return node.parent != nil && node.element > node.parent.element
	})
}

// arities are all valid values of d.
func arities() []int { return steppedList(7, 2, 1) }

// invalidArities are values that d must not have.
func invalidArities() []int {
	return []int{1, 9, 0, -1, -2, 10, 64, math.MinInt, math.MaxInt, 1<<32 + 2, 1<<8 + 2}
}

// heapSamples are sampleLists and all lists of 11 elements out of 2, which have two levels of
// children for every d.
func heapSamples() [][]int {
	return slices.AppendSeq(sampleLists(), listsOver([]int{3, 4}, 11))
}

// someHeaps are the heaps that are built from lists of some elements out of 4, and from lists of
// every length.
func someHeaps(d int) [][]int {
	lists := validLists()
	for length := range 6 {
		lists = slices.AppendSeq(lists, listsOver([]int{0, 1, 2, 3}, length))
	}
	for length := range impl.MaxList + 1 {
		lists = append(lists, steppedList(length, 70, -1), steppedPermutation(impl.MaxList, 27, 60)[:length])
	}
	heaps := [][]int{nil}
	for _, list := range lists {
		nodes, _ := builtNodes(list, d)
		heaps = append(heaps, elementsOf(nodes))
	}
	return heaps
}

// checkHeap checks that a call returned the heap and the number of swaps.
func checkHeap(t *testing.T, what string, list []int, swaps int, ok bool, want []int, wantSwaps int) {
	t.Helper()
	if !ok || !slices.Equal(list, want) || swaps != wantSwaps {
		t.Error(what, "returned", list, swaps, ok, "instead of", want, wantSwaps)
	}
}

func TestIsHeapOfNamedLists(t *testing.T) {
	for _, c := range []struct {
		list  []int
		d, at int
	}{
		{nil, 2, -1}, {[]int{4}, 2, -1}, {[]int{4, 4}, 2, -1}, {[]int{4, 5}, 2, 1}, {[]int{5, 4}, 2, -1},
		{[]int{5, 4, 6}, 2, 2}, {[]int{5, 6, 7}, 2, 1}, {[]int{3, 1, 2, 2}, 2, 3}, {[]int{3, 1, 2, 2}, 3, -1},
		{[]int{9, 1, 8, 1, 2, 9, 8}, 2, 4}, {[]int{9, 1, 8, 1, 1, 9, 8}, 2, 5}, {[]int{9, 1, 8, 1, 1, 8, 9}, 2, 6},
		{[]int{9, 1, 8, 7, 1, 2}, 4, 5}, {[]int{9, 1, 8, 7, 1, 1}, 4, -1}, {[]int{-impl.MaxKey, impl.MaxKey}, 8, 1},
		{[]int{9, 0, 2, 2, 2, 2, 2, 2, 2, 1}, 8, 9}, {[]int{9, 0, 2, 2, 2, 2, 2, 2, 2, 0}, 8, -1},
	} {
		if at, ok := impl.IsHeap(c.list, c.d); !ok || at != c.at {
			t.Error("IsHeap of", c.list, "with d", c.d, "returned", at, ok)
		}
	}
}

func TestIsHeapFindsTheFirstRise(t *testing.T) {
	for _, d := range arities() {
		for _, list := range append(heapSamples(), someHeaps(d)...) {
			if at, ok := impl.IsHeap(list, d); !ok || at != firstRise(list, d) {
				t.Fatal("IsHeap of", list, "with d", d, "returned", at, ok)
			}
		}
		// A single rise, at every index.
		for at := 1; at < impl.MaxList; at++ {
			list := make([]int, impl.MaxList)
			list[at] = 1
			if got, ok := impl.IsHeap(list, d); !ok || got != at {
				t.Fatal("the rise at", at, "with d", d, "is found at", got, ok)
			}
		}
	}
}

func TestBuildHeapOfNamedLists(t *testing.T) {
	for _, c := range []struct {
		list  []int
		d     int
		heap  []int
		swaps int
	}{
		{nil, 2, nil, 0}, {nil, 8, nil, 0}, {[]int{4}, 2, []int{4}, 0}, {[]int{4}, 8, []int{4}, 0},
		{[]int{1, 2, 3}, 2, []int{3, 2, 1}, 1},
		{[]int{1, 2, 3, 4}, 2, []int{4, 2, 3, 1}, 3}, // the last parent has one child
		{[]int{1, 2, 3, 4}, 3, []int{4, 2, 3, 1}, 1}, // the last parent has all 3
		{[]int{1, 2, 3, 4, 5}, 4, []int{5, 2, 3, 4, 1}, 1},
		{[]int{1, 2, 3, 4, 5, 6}, 4, []int{6, 2, 3, 4, 5, 1}, 3},
		{[]int{5, 5, 5}, 2, []int{5, 5, 5}, 0}, {[]int{5, 5}, 2, []int{5, 5}, 0}, {[]int{5, 4, 5}, 2, []int{5, 4, 5}, 0},
		{[]int{1, 7, 7, 2, 3, 4, 5}, 2, []int{7, 3, 7, 2, 1, 4, 5}, 2}, // the first of the children 7
		{[]int{1, 6, 7, 2, 3, 4, 5}, 2, []int{7, 6, 5, 2, 3, 4, 1}, 2},
		{[]int{1, 2, 3, 4, 5, 6, 7, 8, 9}, 8, []int{9, 2, 3, 4, 5, 6, 7, 8, 1}, 1},
		{[]int{1, 2, 3, 4, 5, 6, 7, 8, 9, 10}, 8, []int{10, 2, 3, 4, 5, 6, 7, 8, 9, 1}, 3},
	} {
		heap, swaps, ok := impl.BuildHeap(c.list, c.d)
		checkHeap(t, "BuildHeap", heap, swaps, ok, c.heap, c.swaps)
	}
}

func TestBuildHeapSiftsExactly(t *testing.T) {
	for _, d := range arities() {
		for _, list := range append(heapSamples(), someHeaps(d)...) {
			heap, swaps, ok := impl.BuildHeap(list, d)
			nodes, want := builtNodes(list, d)
			if !ok || swaps != want || !slices.Equal(heap, elementsOf(nodes)) {
				t.Fatal("BuildHeap of", list, "with d", d, "returned", heap, swaps, ok)
			}
			if at, ok := impl.IsHeap(heap, d); !ok || at != -1 || !slices.Equal(sortedOf(heap), sortedOf(list)) {
				t.Fatal("BuildHeap of", list, "with d", d, "returned", heap, "with a rise at", at)
			}
		}
	}
}

// The greatest element rises from the last index to index 0, whatever number of children the last
// parent has, and nothing else moves upwards.
func TestBuildHeapReachesTheLastChild(t *testing.T) {
	for _, d := range arities() {
		for n := 1; n <= impl.MaxList; n++ {
			list := make([]int, n)
			list[n-1] = 1
			depth, _ := impl.HeapDepth(n, d)
			want := make([]int, n)
			want[0] = 1
			heap, swaps, ok := impl.BuildHeap(list, d)
			checkHeap(t, "BuildHeap", heap, swaps, ok, want, depth)
		}
	}
}

func TestPushHeapOfNamedHeaps(t *testing.T) {
	for _, c := range []struct {
		heap  []int
		d, x  int
		want  []int
		swaps int
	}{
		{nil, 2, 4, []int{4}, 0}, {nil, 8, -impl.MaxKey, []int{-impl.MaxKey}, 0}, {nil, 8, impl.MaxKey, []int{impl.MaxKey}, 0},
		{[]int{4}, 2, 3, []int{4, 3}, 0}, {[]int{4}, 2, 4, []int{4, 4}, 0}, {[]int{4}, 2, 5, []int{5, 4}, 1},
		{[]int{3, 2, 1}, 2, 5, []int{5, 3, 1, 2}, 2}, {[]int{3, 2, 1}, 3, 5, []int{5, 2, 1, 3}, 1},
		{[]int{3, 2, 1}, 2, 2, []int{3, 2, 1, 2}, 0}, {[]int{3, 2, 1}, 2, 3, []int{3, 3, 1, 2}, 1},
		{[]int{9, 2, 3, 4, 5}, 4, 6, []int{9, 6, 3, 4, 5, 2}, 1}, {[]int{9, 2, 3, 4, 5}, 5, 6, []int{9, 2, 3, 4, 5, 6}, 0},
	} {
		heap, swaps, ok := impl.PushHeap(c.heap, c.d, c.x)
		checkHeap(t, "PushHeap", heap, swaps, ok, c.want, c.swaps)
	}
}

func TestPushHeapSiftsExactly(t *testing.T) {
	for _, d := range arities() {
		for _, heap := range someHeaps(d) {
			for _, x := range []int{-1, 0, 1, 2, 3, 4, 31, 70, impl.MaxKey, -impl.MaxKey} {
				pushed, swaps, ok := impl.PushHeap(heap, d, x)
				if len(heap) == impl.MaxList {
					checkNone(t, "PushHeap onto MaxList elements", pushed, ok)
					checkZeros(t, "PushHeap onto MaxList elements", swaps)
					continue
				}
				nodes := heapNodes(append(slices.Clone(heap), x), d)
				want := nodes[len(nodes)-1].rise()
				checkHeap(t, "PushHeap", pushed, swaps, ok, elementsOf(nodes), want)
				if firstRise(pushed, d) != -1 {
					t.Fatal("PushHeap of", x, "onto", heap, "with d", d, "returned", pushed)
				}
			}
		}
	}
}

// An element greater than all others rises along every edge, and one equal to all others along none.
func TestPushHeapRisesByTheDepth(t *testing.T) {
	for _, d := range arities() {
		greater, equal := []int{}, []int{}
		for n := 1; n <= impl.MaxList; n++ {
			depth, _ := impl.HeapDepth(n, d)
			var swaps int
			var ok bool
			if greater, swaps, ok = impl.PushHeap(greater, d, n); !ok || swaps != depth || greater[0] != n {
				t.Fatal("the greatest element rises", swaps, "times, not", depth)
			}
			if equal, swaps, ok = impl.PushHeap(equal, d, 7); !ok || swaps != 0 || len(equal) != n {
				t.Fatal("an equal element rises", swaps, "times")
			}
		}
	}
}

func TestPopHeapOfNamedHeaps(t *testing.T) {
	for _, c := range []struct {
		heap       []int
		d          int
		want       []int
		top, swaps int
	}{
		{[]int{4}, 2, nil, 4, 0}, {[]int{4}, 8, nil, 4, 0}, {[]int{0}, 3, nil, 0, 0}, {[]int{4, 3}, 2, []int{3}, 4, 0},
		{[]int{4, 3, 2}, 2, []int{3, 2}, 4, 1}, {[]int{4, 2, 3}, 2, []int{3, 2}, 4, 0}, {[]int{5, 5, 5}, 2, []int{5, 5}, 5, 0},
		{[]int{5, 3, 1, 2}, 2, []int{3, 2, 1}, 5, 1}, {[]int{5, 3, 1, 2}, 3, []int{3, 2, 1}, 5, 1},
		{[]int{9, 7, 7, 5, 4, 3}, 2, []int{7, 5, 7, 3, 4}, 9, 2}, // the first of the children 7
		{[]int{9, 8, 3, 7, 6, 2}, 2, []int{8, 7, 3, 2, 6}, 9, 2}, {[]int{9, 8, 3, 7, 6, 2}, 4, []int{8, 2, 3, 7, 6}, 9, 1},
		{[]int{9, 8, 8}, 2, []int{8, 8}, 9, 0}, // the element at index 0 is equal to its child
	} {
		heap, top, swaps, ok := impl.PopHeap(c.heap, c.d)
		checkHeap(t, "PopHeap", heap, swaps, ok, c.want, c.swaps)
		if top != c.top {
			t.Error("PopHeap of", c.heap, "with d", c.d, "removed", top)
		}
	}
}

// checkPop pops from the heap and returns what is left.
func checkPop(t *testing.T, heap []int, d int) []int {
	t.Helper()
	nodes := heapNodes(heap, d)
	nodes[0].element = heap[len(heap)-1]
	want := 0
	if left := withoutLast(nodes); len(left) > 0 {
		want = nodes[0].sink()
	}
	left, top, swaps, ok := impl.PopHeap(heap, d)
	checkHeap(t, "PopHeap", left, swaps, ok, elementsOf(nodes[:len(heap)-1]), want)
	if top != heap[0] || firstRise(left, d) != -1 {
		t.Error("PopHeap of", heap, "with d", d, "returned", left, top)
	}
	return left
}

// Every element is popped, the greatest first.
func TestPopHeapUntilEmpty(t *testing.T) {
	for _, d := range arities() {
		for _, heap := range someHeaps(d) {
			descending := sortedOf(heap)
			slices.Reverse(descending)
			for _, greatest := range descending {
				if heap[0] != greatest {
					t.Fatal("the greatest element", greatest, "is not on the top of", heap)
				}
				heap = checkPop(t, heap, d)
			}
			if len(heap) != 0 {
				t.Fatal("after all pops", heap, "is left")
			}
		}
	}
}

func TestReplaceTopOfNamedHeaps(t *testing.T) {
	for _, c := range []struct {
		heap []int
		d, x int
		want []int
	}{
		{[]int{4}, 2, 9, []int{9}}, {[]int{4}, 8, -9, []int{-9}}, {[]int{4}, 2, 4, []int{4}},
		{[]int{4}, 2, impl.MaxKey, []int{impl.MaxKey}}, {[]int{4, 3}, 2, -impl.MaxKey, []int{3, -impl.MaxKey}},
		{[]int{5, 3, 4}, 2, 1, []int{4, 3, 1}}, {[]int{5, 3, 4}, 2, 4, []int{4, 3, 4}}, {[]int{5, 3, 4}, 2, 7, []int{7, 3, 4}},
		{[]int{9, 5, 5, 1}, 2, 0, []int{5, 1, 5, 0}}, // the first of the children 5
		{[]int{9, 5, 5, 1}, 3, 0, []int{5, 0, 5, 1}}, {[]int{9, 4, 5, 1}, 3, 0, []int{5, 4, 0, 1}}, {[]int{9, 1, 4, 5}, 3, 0, []int{5, 1, 4, 0}},
	} {
		heap, top, ok := impl.ReplaceTop(c.heap, c.d, c.x)
		if !ok || top != c.heap[0] || !slices.Equal(heap, c.want) {
			t.Error("ReplaceTop of", c.heap, "with d", c.d, "by", c.x, "returned", heap, top, ok)
		}
	}
}

func TestReplaceTopSiftsExactly(t *testing.T) {
	for _, d := range arities() {
		for _, heap := range someHeaps(d) {
			if len(heap) == 0 {
				continue
			}
			for _, x := range []int{-1, 0, 1, 2, 3, 4, 31, heap[len(heap)/2], heap[0], impl.MaxKey, -impl.MaxKey} {
				nodes := heapNodes(heap, d)
				nodes[0].element = x
				nodes[0].sink()
				replaced, top, ok := impl.ReplaceTop(heap, d, x)
				if !ok || top != heap[0] || !slices.Equal(replaced, elementsOf(nodes)) || firstRise(replaced, d) != -1 {
					t.Fatal("ReplaceTop of", heap, "with d", d, "by", x, "returned", replaced, top, ok)
				}
			}
		}
	}
}

// Of several greatest children the first one moves up, whichever of the children these are.
func TestFirstOfEqualChildrenMovesUp(t *testing.T) {
	for _, d := range arities() {
		for mask := 1; mask < 1<<d; mask++ {
			// Index 0 with all its children, and as many children of these as fit.
			heap := make([]int, impl.MaxList)
			heap[0] = 9
			first := 0
			for child := d; child >= 1; child-- {
				heap[child] = 3
				if mask>>(child-1)&1 == 1 {
					heap[child] = 4
					first = child
				}
			}
			want := slices.Clone(heap)
			want[0], want[first] = 4, 0
			replaced, top, ok := impl.ReplaceTop(heap, d, 0)
			if !ok || top != 9 || !slices.Equal(replaced, want) {
				t.Fatal("ReplaceTop of", heap, "with d", d, "by 0 returned", replaced, top, ok)
			}
			heap[0] = 0
			built, swaps, ok := impl.BuildHeap(heap, d)
			checkHeap(t, "BuildHeap", built, swaps, ok, want, 1)
		}
	}
}

// heapSortSwaps counts the swaps of the building, those stated for every n, and those of the
// sifting after them.
func heapSortSwaps(list []int, d int) int {
	nodes, swaps := builtNodes(list, d)
	for len(nodes) >= 2 {
		nodes[0].swapWith(nodes[len(nodes)-1])
		nodes = withoutLast(nodes)
		swaps += 1 + nodes[0].sink()
	}
	return swaps
}

func TestHeapSortOfNamedLists(t *testing.T) {
	for _, c := range []struct {
		list     []int
		d, swaps int
	}{
		{nil, 2, 0}, {nil, 8, 0}, {[]int{4}, 2, 0}, {[]int{4}, 8, 0}, {[]int{1, 2}, 2, 2}, {[]int{2, 1}, 2, 1}, {[]int{2, 2}, 2, 1},
		{[]int{1, 2, 3}, 2, 4}, {[]int{1, 2, 3}, 8, 4}, {[]int{3, 2, 1}, 2, 3}, {[]int{3, 1, 2}, 2, 2}, {[]int{5, 5, 5, 5}, 2, 3},
		{[]int{4, 3, 2, 1}, 2, 4}, {[]int{4, 3, 2, 1}, 3, 4}, {make([]int, impl.MaxList), 5, impl.MaxList - 1},
	} {
		sorted, swaps, ok := impl.HeapSort(c.list, c.d)
		checkHeap(t, "HeapSort", sorted, swaps, ok, sortedOf(c.list), c.swaps)
	}
}

func TestHeapSortCountsExactlyForEveryArity(t *testing.T) {
	for _, d := range arities() {
		for _, list := range append(heapSamples(), someHeaps(d)...) {
			sorted, swaps, ok := impl.HeapSort(list, d)
			if want := heapSortSwaps(list, d); !ok || swaps != want || !slices.Equal(sorted, sortedOf(list)) {
				t.Fatal("HeapSort of", list, "with d", d, "returned", sorted, swaps, ok, "instead of", want, "swaps")
			}
		}
	}
}

func TestHeapDepthOfNamedSizes(t *testing.T) {
	for _, c := range []struct{ n, d, depth int }{
		{1, 2, 0}, {1, 8, 0}, {2, 2, 1}, {2, 8, 1}, {3, 2, 1}, {4, 2, 2}, {7, 2, 2}, {8, 2, 3}, {63, 2, 5}, {impl.MaxList, 2, 6},
		{4, 3, 1}, {5, 3, 2}, {40, 3, 3}, {41, 3, 4}, {impl.MaxList, 3, 4}, {9, 8, 1}, {10, 8, 2}, {impl.MaxList, 7, 3}, {impl.MaxList, 8, 2},
	} {
		if depth, ok := impl.HeapDepth(c.n, c.d); !ok || depth != c.depth {
			t.Error("HeapDepth of", c.n, "with d", c.d, "returned", depth, ok)
		}
	}
}

// A level has d times as many nodes as the one above it.
func TestHeapDepthIsTheNumberOfLevels(t *testing.T) {
	for _, d := range arities() {
		depth, level, capacity := 0, 1, 1
		for n := 1; n <= impl.MaxList; n++ {
			if n > capacity {
				depth++
				level *= d
				capacity += level
			}
			if got, ok := impl.HeapDepth(n, d); !ok || got != depth {
				t.Error("HeapDepth of", n, "with d", d, "returned", got, ok, "instead of", depth)
			}
		}
	}
}

func TestHeapDepthInvalid(t *testing.T) {
	check := func(n, d int) {
		depth, ok := impl.HeapDepth(n, d)
		checkNone(t, "HeapDepth", nil, ok)
		checkZeros(t, "HeapDepth", depth)
	}
	for _, d := range append(arities(), invalidArities()...) {
		for _, n := range []int{0, -1, impl.MaxList + 1, math.MinInt, math.MaxInt, 1<<32 + 2, 1 << 40} {
			check(n, d)
		}
	}
	for _, d := range invalidArities() {
		for n := 1; n <= impl.MaxList; n++ {
			check(n, d)
		}
	}
}

func TestMergeHeapsOfNamedHeaps(t *testing.T) {
	for _, c := range []struct {
		a, b  []int
		d     int
		want  []int
		swaps int
	}{
		{nil, nil, 2, nil, 0}, {nil, []int{3, 1}, 2, []int{3, 1}, 0}, {[]int{3, 1}, nil, 2, []int{3, 1}, 0},
		{[]int{2, 1}, []int{9}, 2, []int{9, 1, 2}, 1}, {[]int{9}, []int{2, 1}, 2, []int{9, 2, 1}, 0},
		{[]int{3, 1}, []int{3, 2}, 2, []int{3, 2, 3, 1}, 1}, {[]int{3, 1}, []int{3, 2}, 3, []int{3, 1, 3, 2}, 0},
	} {
		merged, swaps, ok := impl.MergeHeaps(c.a, c.b, c.d)
		checkHeap(t, "MergeHeaps", merged, swaps, ok, c.want, c.swaps)
	}
}

func TestMergeHeapsBuildsFromBoth(t *testing.T) {
	for _, d := range arities() {
		var heaps [][]int
		for length := range 5 {
			for list := range listsOver([]int{0, 1, 2}, length) {
				if firstRise(list, d) == -1 {
					heaps = append(heaps, list)
				}
			}
		}
		for _, a := range heaps {
			for _, b := range heaps {
				nodes, want := builtNodes(slices.Concat(a, b), d)
				merged, swaps, ok := impl.MergeHeaps(a, b, d)
				checkHeap(t, "MergeHeaps", merged, swaps, ok, elementsOf(nodes), want)
			}
		}
	}
}

// The merged heap may have MaxList elements, and no more.
func TestMergeHeapsLengths(t *testing.T) {
	for _, d := range arities() {
		for lengthA := range impl.MaxList + 1 {
			a, n := steppedList(lengthA, 90, -1), impl.MaxList
			for _, b := range [][]int{steppedList(n-lengthA, 200, -2), steppedList(min(n-lengthA+1, n), 200, -2), steppedList(n, 9, -1)} {
				merged, swaps, ok := impl.MergeHeaps(a, b, d)
				if lengthA+len(b) > n {
					checkNone(t, "MergeHeaps of too many elements", merged, ok)
					checkZeros(t, "MergeHeaps of too many elements", swaps)
					continue
				}
				nodes, want := builtNodes(slices.Concat(a, b), d)
				checkHeap(t, "MergeHeaps", merged, swaps, ok, elementsOf(nodes), want)
			}
		}
	}
}

// checkNoHeap checks that the functions that require a heap refuse list as one.
func checkNoHeap(t *testing.T, list []int, d int, x int) {
	t.Helper()
	heap, pushes, ok := impl.PushHeap(list, d, x)
	checkNone(t, "PushHeap", heap, ok)
	heap, popped, pops, ok := impl.PopHeap(list, d)
	checkNone(t, "PopHeap", heap, ok)
	heap, replaced, ok := impl.ReplaceTop(list, d, x)
	checkNone(t, "ReplaceTop", heap, ok)
	checkZeros(t, "PushHeap, PopHeap or ReplaceTop", pushes, popped, pops, replaced)
	for _, other := range [][]int{nil, {1}, {2, 1}, list} {
		heap, swaps, ok := impl.MergeHeaps(list, other, d)
		checkNone(t, "MergeHeaps with no heap before another", heap, ok)
		checkZeros(t, "MergeHeaps", swaps)
		heap, swaps, ok = impl.MergeHeaps(other, list, d)
		checkNone(t, "MergeHeaps with no heap after another", heap, ok)
		checkZeros(t, "MergeHeaps", swaps)
	}
}

// checkNoList checks that all functions refuse list or d.
func checkNoList(t *testing.T, list []int, d int) {
	t.Helper()
	at, ok := impl.IsHeap(list, d)
	checkNone(t, "IsHeap", nil, ok)
	heap, builds, ok := impl.BuildHeap(list, d)
	checkNone(t, "BuildHeap", heap, ok)
	sorted, sorts, ok := impl.HeapSort(list, d)
	checkNone(t, "HeapSort", sorted, ok)
	checkZeros(t, "IsHeap, BuildHeap or HeapSort", at, builds, sorts)
	checkNoHeap(t, list, d, 0)
}

func TestHeapFunctionsInvalid(t *testing.T) {
	for _, d := range append(arities(), invalidArities()...) {
		for _, list := range invalidLists() {
			checkNoList(t, list, d)
		}
	}
	for _, d := range invalidArities() {
		for _, list := range [][]int{nil, {4}, {2, 1}, {1, 2}, steppedList(10, 0, -1), make([]int, impl.MaxList)} {
			checkNoList(t, list, d)
		}
	}
}

func TestHeapFunctionsOfNoHeap(t *testing.T) {
	for _, d := range arities() {
		for length := range 6 {
			for list := range listsOver([]int{0, 1, 2}, length) {
				if firstRise(list, d) != -1 {
					checkNoHeap(t, list, d, 1)
					checkNoHeap(t, list, d, impl.MaxKey)
				}
			}
		}
		// A single rise, at every index, where there is room for one more element.
		for at := 1; at < impl.MaxList-1; at++ {
			list := make([]int, impl.MaxList-1)
			list[at] = 1
			checkNoHeap(t, list, d, 1)
		}
	}
}

func TestHeapFunctionsOfElementsOutOfRange(t *testing.T) {
	for _, d := range arities() {
		for _, x := range []int{impl.MaxKey + 1, -impl.MaxKey - 1, math.MinInt, math.MaxInt, 1 << 32} {
			for _, list := range [][]int{nil, {4}, {2, 1}, {impl.MaxKey, -impl.MaxKey}, make([]int, impl.MaxList-1)} {
				heap, swaps, ok := impl.PushHeap(list, d, x)
				checkNone(t, "PushHeap", heap, ok)
				heap, top, ok := impl.ReplaceTop(list, d, x)
				checkNone(t, "ReplaceTop", heap, ok)
				checkZeros(t, "PushHeap or ReplaceTop", swaps, top)
			}
		}
	}
}

func TestHeapFunctionsOfAnEmptyHeap(t *testing.T) {
	for _, d := range arities() {
		for _, list := range [][]int{nil, {}, withSpare(nil)} {
			heap, popped, swaps, ok := impl.PopHeap(list, d)
			checkNone(t, "PopHeap", heap, ok)
			heap, replaced, ok := impl.ReplaceTop(list, d, 3)
			checkNone(t, "ReplaceTop", heap, ok)
			checkZeros(t, "PopHeap or ReplaceTop", popped, swaps, replaced)
		}
	}
}

// heapFunctions are the functions of the chapter that take one list.
func heapFunctions() []func(list []int, d int) []int {
	return []func(list []int, d int) []int{
		func(list []int, d int) []int { impl.IsHeap(list, d); return nil },
		func(list []int, d int) []int { heap, _, _ := impl.BuildHeap(list, d); return heap },
		func(list []int, d int) []int { heap, _, _ := impl.PushHeap(list, d, 5); return heap },
		func(list []int, d int) []int { heap, _, _, _ := impl.PopHeap(list, d); return heap },
		func(list []int, d int) []int { heap, _, _ := impl.ReplaceTop(list, d, -5); return heap },
		func(list []int, d int) []int { sorted, _, _ := impl.HeapSort(list, d); return sorted },
		func(list []int, d int) []int { heap, _, _ := impl.MergeHeaps(list, nil, d); return heap },
		func(list []int, d int) []int { heap, _, _ := impl.MergeHeaps(nil, list, d); return heap },
	}
}

func TestHeapFunctionsLeaveTheirArguments(t *testing.T) {
	for _, d := range []int{2, 3, 8, 9} {
		for _, original := range slices.Concat(heapSamples(), someHeaps(d), invalidLists()) {
			for i, function := range heapFunctions() {
				list := withSpare(original)
				overwrite(function(list, d))
				if !isUntouched(list, original) {
					t.Fatal("function", i, "changed its argument of", len(list), "elements, or shares its memory")
				}
			}
		}
	}
}

func TestMergeHeapsLeavesItsArguments(t *testing.T) {
	lists := append(invalidLists(), nil, []int{4}, []int{2, 1}, []int{1, 2}, []int{5, 4, 3, 2}, steppedList(impl.MaxList/2, 9, -1), steppedList(impl.MaxList, 9, -1))
	for _, originalA := range lists {
		for _, originalB := range lists {
			a, b := withSpare(originalA), withSpare(originalB)
			merged, _, _ := impl.MergeHeaps(a, b, 3)
			overwrite(merged)
			if !isUntouched(a, originalA) || !isUntouched(b, originalB) {
				t.Fatal("MergeHeaps changed its arguments of", len(a), "and", len(b), "elements, or shares their memory")
			}
		}
	}
	// One slice as both heaps, and both heaps in one slice.
	all := []int{5, 4, 9, 1}
	before := slices.Clone(all)
	merged, swaps, ok := impl.MergeHeaps(all[:2], all[2:], 2)
	checkHeap(t, "MergeHeaps of one slice", merged, swaps, ok, []int{9, 4, 5, 1}, 1)
	merged, swaps, ok = impl.MergeHeaps(all[:2], all[:2], 2)
	checkHeap(t, "MergeHeaps of a heap and itself", merged, swaps, ok, []int{5, 4, 5, 4}, 0)
	if !slices.Equal(all, before) {
		t.Error("MergeHeaps changed its arguments to", all)
	}
}

// Elements beyond the length count nowhere, and every call returns new memory.
func TestHeapFunctionsReadAndKeepNothingElse(t *testing.T) {
	for _, d := range arities() {
		for _, list := range append(someHeaps(d), []int{1, 3, 2}) {
			for i, function := range heapFunctions() {
				first := slices.Clone(function(withSpare(list), d))
				overwrite(function(list, d))
				if again := function(list, d); !slices.Equal(again, first) {
					t.Fatal("function", i, "returned", again, "after", first)
				}
			}
		}
	}
	heap, top, swaps, ok := impl.PopHeap(withSpare([]int{5, 3, 1, 2}), 2)
	checkHeap(t, "PopHeap beside spare memory", heap, swaps, ok, []int{3, 2, 1}, 1)
	if at, ok := impl.IsHeap(withSpare([]int{5, 3, 1, 2}), 2); !ok || at != -1 || top != 5 {
		t.Error("a heap beside spare memory is none at", at, ok, top)
	}
}
