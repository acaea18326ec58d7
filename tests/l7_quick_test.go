package tests

import (
	"cmp"
	"math"
	"slices"
	"testing"

	"loop.example/g00907/impl"
)

// lomutoModel takes the elements before the last index out of a queue. Each that is less than x
// changes places with the front of those that are not, which goes to their end.
func lomutoModel(list []int, pivot int) ([]int, int) {
	x, last := list[pivot], len(list)-1
	queue := slices.Clone(list)
	queue[pivot] = list[last]
	var less, others []int
	rotate := func() {
		if len(others) > 0 {
			others = append(others[1:], others[0])
		}
	}
	for _, e := range queue[:last] {
		if e < x {
			less = append(less, e)
			rotate()
		} else {
			others = append(others, e)
		}
	}
	rotate()
	return slices.Concat(less, []int{x}, others), len(less)
}

// hoareModel pairs the indices at which i and k stop in the list as it is given, and exchanges the
// elements of the pairs until the indices have met.
func hoareModel(list []int) ([]int, int) {
	var left, right []int
	for i, e := range list {
		if e >= list[0] {
			left = append(left, i)
		}
		if e <= list[0] {
			right = append([]int{i}, right...)
		}
	}
	parts, pairs := slices.Clone(list), 0
	for pairs < min(len(left), len(right)) && left[pairs] < right[pairs] {
		parts[left[pairs]], parts[right[pairs]] = list[right[pairs]], list[left[pairs]]
		pairs++
	}
	// k ends at the next index of its own, or at the element that the last exchange put below it.
	k := -1
	if pairs < len(right) {
		k = right[pairs]
	}
	if pairs > 0 {
		k = max(k, left[pairs-1])
	}
	return parts, k + 1
}

// threeWayModel takes the elements off the front of a queue. After a greater one, which goes before
// the greater ones so far, the last of the queue moves to its front.
func threeWayModel(list []int, x int) ([]int, int, int) {
	var less, equal, greater []int
	for queue := slices.Clone(list); len(queue) > 0; {
		e, rest := queue[0], queue[1:]
		switch cmp.Compare(e, x) {
		case -1:
			less = append(less, e)
		case 0:
			equal = append(equal, e)
		case 1:
			greater = append([]int{e}, greater...)
			if n := len(rest); n > 0 {
				rest = append([]int{rest[n-1]}, rest[:n-1]...)
			}
		}
		queue = rest
	}
	return slices.Concat(less, equal, greater), len(less), len(less) + len(equal)
}

// medianModel tries the three indices by the words of the definition.
func medianModel(list []int) int {
	indices := []int{0, len(list) / 2, len(list) - 1}
	return indices[slices.IndexFunc(indices, func(at int) bool {
		notGreater, notLess := 0, 0
		for _, other := range indices {
			if list[other] <= list[at] {
				notGreater++
			}
			if list[other] >= list[at] {
				notLess++
			}
		}
		// The element itself is one of each.
		return notGreater >= 2 && notLess >= 2
	})]
}

// introModel returns the numbers of steps and of parts for the heap sort. Parts of at most small
// elements take neither.
func introModel(list []int, limit, small int) (steps, heaps int) {
	if len(list) <= small {
		return 0, 0
	}
	if limit == 0 {
		return 0, 1
	}
	parts, lt, gt := threeWayModel(list, list[medianModel(list)])
	lowSteps, lowHeaps := introModel(parts[:lt], limit-1, small)
	highSteps, highHeaps := introModel(parts[gt:], limit-1, small)
	return 1 + lowSteps + highSteps, lowHeaps + highHeaps
}

// quickModel returns the number of steps of quicksort, for which no limit is reached.
func quickModel(list []int) int {
	steps, _ := introModel(list, impl.MaxList+1, 1)
	return steps
}

// dualModel sorts the elements stably by the parts that they belong to.
func dualModel(list []int, p, q int) []int {
	partOf := func(e int) int {
		switch {
		case e < p:
			return 0
		case e > q:
			return 2
		}
		return 1
	}
	parts := slices.Clone(list)
	slices.SortStableFunc(parts, func(a, b int) int { return cmp.Compare(partOf(a), partOf(b)) })
	return parts
}

// unevenList returns a permutation of n elements of which every step of quicksort takes off only
// the two least: it puts these at the first index and at the middle one, and the rest, an uneven
// list again, where a step takes it from.
func unevenList(n int) []int {
	if n <= 2 {
		return steppedPermutation(n, 1, 0)
	}
	marks := steppedList(n, 1, 1)
	marks[0], marks[n/2] = -1, 0
	moved, _, from := threeWayModel(marks, 0)
	list := make([]int, n)
	list[n/2] = 1
	for i, e := range unevenList(n - 2) {
		list[moved[from+i]-1] = e + 2
	}
	return list
}

// quickSamples are sampleLists, all lists of 9 elements out of 2, and longer lists that take many
// steps or few.
func quickSamples() [][]int {
	lists := slices.AppendSeq(sampleLists(), listsOver([]int{3, 4}, 9))
	for n := range impl.MaxList + 1 {
		uneven := unevenList(n)
		negated := slices.Clone(uneven)
		for i := range negated {
			negated[i] *= -3
		}
		lists = append(lists, uneven, negated, steppedList(n, -20, 1), steppedList(n, 20, -1), steppedPermutation(impl.MaxList, 27, 60)[:n])
	}
	return lists
}

// valuesAround are x for which elements of list are less, equal and greater, all of them or none.
func valuesAround(list []int) []int {
	values := []int{math.MinInt, -impl.MaxKey - 1, -impl.MaxKey, -1, 0, 1, 4, 30, impl.MaxKey, impl.MaxKey + 1, math.MaxInt}
	for _, at := range []int{0, len(list) / 3, len(list) / 2, len(list) - 1} {
		if len(list) > 0 {
			values = append(values, list[at]-1, list[at], list[at]+1)
		}
	}
	return values
}

// part is a part of a partitioned list with the condition for its elements.
type part struct {
	elements []int
	fits     func(e int) bool
}

// checkParts checks that the parts have together the elements of list, each part those that fit.
func checkParts(t *testing.T, what string, list []int, parts ...part) {
	t.Helper()
	var all []int
	for _, p := range parts {
		all = append(all, p.elements...)
		for _, e := range p.elements {
			if !p.fits(e) {
				t.Fatal(what, "of", list, "puts", e, "into", p.elements, "of", parts)
			}
		}
	}
	if !slices.Equal(sortedOf(all), sortedOf(list)) {
		t.Fatal(what, "of", list, "returned the elements", all)
	}
}

// checkPartition checks that a call has returned the list and the numbers.
func checkPartition(t *testing.T, what string, list []int, numbers []int, ok bool, want []int, wantNumbers ...int) {
	t.Helper()
	if !ok || !slices.Equal(list, want) || !slices.Equal(numbers, wantNumbers) {
		t.Error(what, "returned", list, numbers, ok, "instead of", want, wantNumbers)
	}
}

func TestPartitionLomutoOfNamedLists(t *testing.T) {
	for _, c := range []struct {
		list  []int
		pivot int
		want  []int
		at    int
	}{
		{[]int{4}, 0, []int{4}, 0}, {[]int{0}, 0, []int{0}, 0},
		{[]int{1, 2}, 0, []int{1, 2}, 0}, {[]int{1, 2}, 1, []int{1, 2}, 1}, {[]int{2, 1}, 0, []int{1, 2}, 1}, {[]int{2, 1}, 1, []int{1, 2}, 0},
		{[]int{3, 1, 2}, 0, []int{2, 1, 3}, 2}, {[]int{3, 1, 2}, 1, []int{1, 2, 3}, 0}, {[]int{3, 1, 2}, 2, []int{1, 2, 3}, 1},
		// Equal elements are not less, wherever the pivot is.
		{[]int{5, 5}, 0, []int{5, 5}, 0}, {[]int{5, 5}, 1, []int{5, 5}, 0}, {[]int{5, 5, 5}, 1, []int{5, 5, 5}, 0},
		{[]int{2, 5, 2, 1}, 0, []int{1, 2, 2, 5}, 1}, {[]int{2, 5, 1, 2}, 3, []int{1, 2, 2, 5}, 1}, {[]int{2, 5, 1, 2}, 0, []int{1, 2, 2, 5}, 1},
		// The elements that are not less keep their cyclic order only.
		{[]int{4, 5, 1, 2, 3}, 4, []int{1, 2, 3, 5, 4}, 2}, {[]int{6, 4, 5, 1, 3}, 4, []int{1, 3, 5, 6, 4}, 1},
		{[]int{1, 2, 3, 4}, 3, []int{1, 2, 3, 4}, 3}, {[]int{1, 2, 3, 4}, 0, []int{1, 2, 3, 4}, 0}, {[]int{1, 2, 3, 4}, 1, []int{1, 2, 3, 4}, 1},
		{[]int{impl.MaxKey, -impl.MaxKey}, 0, []int{-impl.MaxKey, impl.MaxKey}, 1},
		{make([]int, impl.MaxList), impl.MaxList - 1, make([]int, impl.MaxList), 0},
		{steppedList(impl.MaxList, 0, 1), impl.MaxList - 1, steppedList(impl.MaxList, 0, 1), impl.MaxList - 1},
	} {
		list, at, ok := impl.PartitionLomuto(c.list, c.pivot)
		checkPartition(t, "PartitionLomuto", list, []int{at}, ok, c.want, c.at)
	}
}

func TestPartitionLomutoSeparatesForEveryPivot(t *testing.T) {
	for _, list := range quickSamples() {
		for pivot, x := range list {
			got, at, ok := impl.PartitionLomuto(list, pivot)
			want, wantAt := lomutoModel(list, pivot)
			checkPartition(t, "PartitionLomuto", got, []int{at}, ok, want, wantAt)
			if t.Failed() {
				t.Fatal("the list is", list, "and the pivot", pivot)
			}
			checkParts(t, "PartitionLomuto", list,
				part{got[:at], func(e int) bool { return e < x }},
				part{got[at : at+1], func(e int) bool { return e == x }},
				part{got[at+1:], func(e int) bool { return e >= x }})
		}
	}
}

func TestPartitionLomutoInvalid(t *testing.T) {
	check := func(list []int, pivot int) {
		parts, at, ok := impl.PartitionLomuto(list, pivot)
		checkNone(t, "PartitionLomuto", parts, ok)
		checkZeros(t, "PartitionLomuto", at)
	}
	for _, list := range invalidLists() {
		for _, pivot := range []int{0, 1, len(list) - 1, len(list), -1, math.MinInt, math.MaxInt} {
			check(list, pivot)
		}
	}
	for n := range impl.MaxList + 1 {
		for _, pivot := range []int{n, n + 1, -1, -n, impl.MaxList, math.MinInt, math.MaxInt, 1 << 32, 1 << 8} {
			if pivot != 0 || n == 0 {
				check(steppedList(n, 9, -1), pivot)
			}
		}
	}
	check(nil, 0)
	check(withSpare([]int{3, 1, 2}), 3)
	check(withSpare(nil), 0)
}

func TestPartitionHoareOfNamedLists(t *testing.T) {
	for _, c := range []struct {
		list, want []int
		at         int
	}{
		{[]int{4}, []int{4}, 1}, {[]int{0}, []int{0}, 1}, {[]int{1, 2}, []int{1, 2}, 1}, {[]int{2, 1}, []int{1, 2}, 1},
		{[]int{2, 3, 1}, []int{1, 3, 2}, 1}, {[]int{1, 2, 3}, []int{1, 2, 3}, 1}, {[]int{3, 2, 1}, []int{1, 2, 3}, 2},
		{[]int{3, 1, 2}, []int{2, 1, 3}, 2}, {[]int{2, 9, 1, 3}, []int{1, 9, 2, 3}, 1}, {[]int{2, 1, 2, 1}, []int{1, 1, 2, 2}, 3},
		// Both indices stop at equal elements.
		{[]int{5, 5}, []int{5, 5}, 1}, {[]int{5, 5, 5}, []int{5, 5, 5}, 2}, {[]int{5, 5, 5, 5}, []int{5, 5, 5, 5}, 2},
		{make([]int, impl.MaxList), make([]int, impl.MaxList), impl.MaxList / 2},
		{make([]int, impl.MaxList-1), make([]int, impl.MaxList-1), impl.MaxList / 2},
		{steppedList(impl.MaxList, 0, 1), steppedList(impl.MaxList, 0, 1), 1},
		{[]int{impl.MaxKey, -impl.MaxKey}, []int{-impl.MaxKey, impl.MaxKey}, 1},
	} {
		list, at, ok := impl.PartitionHoare(c.list)
		checkPartition(t, "PartitionHoare", list, []int{at}, ok, c.want, c.at)
	}
}

func TestPartitionHoareSeparates(t *testing.T) {
	for _, list := range quickSamples() {
		if len(list) == 0 {
			continue
		}
		got, at, ok := impl.PartitionHoare(list)
		want, wantAt := hoareModel(list)
		checkPartition(t, "PartitionHoare", got, []int{at}, ok, want, wantAt)
		// Both parts of two elements or more have one at least.
		if t.Failed() || at < 1 || at > max(len(list)-1, 1) {
			t.Fatal("PartitionHoare of", list, "starts the second part at", at)
		}
		checkParts(t, "PartitionHoare", list,
			part{got[:at], func(e int) bool { return e <= list[0] }},
			part{got[at:], func(e int) bool { return e >= list[0] }})
	}
}

func TestPartitionThreeWayOfNamedLists(t *testing.T) {
	equal := make([]int, impl.MaxList)
	for _, c := range []struct {
		list   []int
		x      int
		want   []int
		lt, gt int
	}{
		{nil, 0, nil, 0, 0}, {nil, math.MaxInt, nil, 0, 0}, {[]int{4}, 3, []int{4}, 0, 0}, {[]int{4}, 4, []int{4}, 0, 1}, {[]int{4}, 5, []int{4}, 1, 1},
		{[]int{2, 3, 1, 2}, 2, []int{1, 2, 2, 3}, 1, 3}, {[]int{5, 5, 5}, 5, []int{5, 5, 5}, 0, 3}, {equal, 0, equal, 0, impl.MaxList},
		// No element is equal to x.
		{[]int{4, 1, 3}, 2, []int{1, 3, 4}, 1, 1}, {[]int{9, 8, 1, 7}, 5, []int{1, 8, 7, 9}, 1, 1},
		// x is less than all elements, or greater; it need not be a valid element.
		{[]int{3, 1, 2}, -5, []int{1, 2, 3}, 0, 0}, {[]int{1, 2, 3, 4}, math.MinInt, []int{2, 3, 4, 1}, 0, 0},
		{[]int{1, 2, 3, 4}, -impl.MaxKey - 1, []int{2, 3, 4, 1}, 0, 0}, {equal, -1, equal, 0, 0}, {equal, 1, equal, impl.MaxList, impl.MaxList},
		{[]int{3, 1, 2}, 9, []int{3, 1, 2}, 3, 3}, {[]int{3, 1, 2}, impl.MaxKey + 1, []int{3, 1, 2}, 3, 3}, {[]int{3, 1, 2}, math.MaxInt, []int{3, 1, 2}, 3, 3},
		{[]int{impl.MaxKey, -impl.MaxKey}, -impl.MaxKey, []int{-impl.MaxKey, impl.MaxKey}, 0, 1},
		{[]int{impl.MaxKey, -impl.MaxKey}, impl.MaxKey, []int{-impl.MaxKey, impl.MaxKey}, 1, 2},
	} {
		list, lt, gt, ok := impl.PartitionThreeWay(c.list, c.x)
		checkPartition(t, "PartitionThreeWay", list, []int{lt, gt}, ok, c.want, c.lt, c.gt)
	}
}

func TestPartitionThreeWaySeparates(t *testing.T) {
	for _, list := range quickSamples() {
		for _, x := range valuesAround(list) {
			got, lt, gt, ok := impl.PartitionThreeWay(list, x)
			want, wantLt, wantGt := threeWayModel(list, x)
			checkPartition(t, "PartitionThreeWay", got, []int{lt, gt}, ok, want, wantLt, wantGt)
			if t.Failed() {
				t.Fatal("the list is", list, "and x", x)
			}
			checkParts(t, "PartitionThreeWay", list,
				part{got[:lt], func(e int) bool { return e < x }},
				part{got[lt:gt], func(e int) bool { return e == x }},
				part{got[gt:], func(e int) bool { return e > x }})
		}
	}
}

func TestMedianIndexOfNamedLists(t *testing.T) {
	for _, c := range []struct {
		list []int
		at   int
	}{
		{[]int{4}, 0}, {[]int{1, 2}, 1}, {[]int{2, 1}, 1}, {[]int{7, 7}, 0},
		{[]int{1, 2, 3}, 1}, {[]int{1, 3, 2}, 2}, {[]int{2, 1, 3}, 0}, {[]int{2, 3, 1}, 0}, {[]int{3, 1, 2}, 2}, {[]int{3, 2, 1}, 1},
		{[]int{7, 7, 1}, 0}, {[]int{7, 1, 7}, 0}, {[]int{1, 7, 7}, 1}, {[]int{1, 1, 7}, 0}, {[]int{1, 7, 1}, 0}, {[]int{7, 1, 1}, 1},
		{[]int{5, 5, 5}, 0}, {[]int{2, 9, 1, 3}, 0}, {[]int{1, 0, 9, 5}, 3}, {[]int{1, 9, 2, 3}, 2}, {[]int{1, 2, 9, 3, 4}, 4},
		{[]int{1, 2, 9, 2}, 3}, {[]int{9, 4, 4, 1}, 2}, // the element before has no part in it
		{make([]int, impl.MaxList), 0}, {steppedList(impl.MaxList, 3, 1), impl.MaxList / 2}, {steppedList(impl.MaxList-1, 3, -1), impl.MaxList/2 - 1},
		{[]int{impl.MaxKey, -impl.MaxKey, 0}, 2},
	} {
		if at, ok := impl.MedianIndex(c.list); !ok || at != c.at {
			t.Error("MedianIndex of", c.list, "returned", at, ok)
		}
	}
}

func TestMedianIndexFollowsTheDefinition(t *testing.T) {
	for _, list := range quickSamples() {
		if len(list) == 0 {
			continue
		}
		if at, ok := impl.MedianIndex(list); !ok || at != medianModel(list) {
			t.Fatal("MedianIndex of", list, "returned", at, ok)
		}
	}
	// Lists of every length with every order of the three elements, and an element elsewhere.
	for n := 4; n <= impl.MaxList; n++ {
		for three := range listsOver([]int{1, 2, 3}, 3) {
			for _, other := range []int{0, 2, 9} {
				list := steppedList(n, other, 0)
				list[0], list[n/2], list[n-1] = three[0], three[1], three[2]
				if at, ok := impl.MedianIndex(list); !ok || at != medianModel(list) {
					t.Fatal("MedianIndex of", list, "returned", at, ok)
				}
			}
		}
	}
}

func TestQuickSortOfNamedLists(t *testing.T) {
	n := impl.MaxList
	for _, c := range []struct {
		list  []int
		steps int
	}{
		{nil, 0}, {[]int{}, 0}, {[]int{4}, 0}, {[]int{1, 2}, 1}, {[]int{2, 1}, 1}, {[]int{4, 4}, 1}, {[]int{4, 4, 4}, 1}, {make([]int, n), 1},
		{[]int{1, 2, 3}, 1}, {[]int{3, 2, 1}, 1}, {[]int{3, 1, 2, 2}, 1}, {[]int{1, 2, 3, 4}, 2}, {[]int{4, 3, 2, 1}, 2}, {[]int{1, 1, 2, 2}, 2},
		{[]int{1, 2, 3, 4, 5}, 3}, {[]int{1, 2, 3, 4, 5, 6, 7}, 3}, {[]int{3, 3, 1, 1, 2, 2, 2}, 3}, {[]int{3, 3, 1, 2, 2, 2, 2}, 2},
		{unevenList(n), n / 2}, {unevenList(n - 1), n/2 - 1}, {unevenList(6), 3},
		{[]int{impl.MaxKey, -impl.MaxKey}, 1},
	} {
		sorted, steps, ok := impl.QuickSort(c.list)
		checkPartition(t, "QuickSort", sorted, []int{steps}, ok, sortedOf(c.list), c.steps)
	}
}

func TestQuickSortCountsItsSteps(t *testing.T) {
	for _, list := range quickSamples() {
		sorted, steps, ok := impl.QuickSort(list)
		checkPartition(t, "QuickSort", sorted, []int{steps}, ok, sortedOf(list), quickModel(list))
		// Every step takes all the elements of one value off.
		if distinct := len(slices.Compact(sortedOf(list))); t.Failed() || steps > distinct {
			t.Fatal("QuickSort of", list, "took", steps, "steps for", distinct, "values")
		}
	}
}

func TestIntroSortOfNamedLists(t *testing.T) {
	n, small := impl.MaxList, impl.SmallSort
	equal := make([]int, n)
	for _, c := range []struct {
		list                []int
		limit, steps, heaps int
	}{
		{nil, 0, 0, 0}, {nil, 20, 0, 0}, {[]int{}, 1, 0, 0}, {[]int{4}, 0, 0, 0}, {[]int{4}, 20, 0, 0},
		{steppedList(small, 9, -1), 0, 0, 0}, {steppedList(small, 9, -1), 1, 0, 0}, {steppedList(small, 9, -1), 20, 0, 0},
		{steppedList(small+1, 9, -1), 0, 0, 1}, {steppedList(small+1, 9, -1), 1, 1, 0}, {steppedList(small+1, 9, -1), 20, 1, 0},
		{steppedList(small, 9, 0), 0, 0, 0}, {steppedList(small+1, 9, 0), 0, 0, 1}, {steppedList(small+1, 9, 0), 1, 1, 0},
		{equal, 0, 0, 1}, {equal, 1, 1, 0}, {equal, 20, 1, 0},
		// One part of 6 elements and one of 5, and two parts of 6.
		{steppedList(12, 0, 1), 0, 0, 1}, {steppedList(12, 0, 1), 1, 1, 1}, {steppedList(12, 0, 1), 2, 2, 0}, {steppedList(12, 0, 1), 20, 2, 0},
		{steppedList(13, 0, 1), 0, 0, 1}, {steppedList(13, 0, 1), 1, 1, 2}, {steppedList(13, 0, 1), 2, 3, 0}, {steppedList(13, 0, 1), 20, 3, 0},
		// Every step takes two elements off.
		{unevenList(n), 0, 0, 1}, {unevenList(n), 1, 1, 1}, {unevenList(n), 19, 19, 1}, {unevenList(n), 20, 20, 1},
		{unevenList(40 + small), 20, 20, 0}, {unevenList(40 + small), 19, 19, 1}, {unevenList(40 + small + 1), 20, 20, 1}, {unevenList(39 + small), 20, 20, 0},
	} {
		sorted, steps, heaps, ok := impl.IntroSort(c.list, c.limit)
		checkPartition(t, "IntroSort", sorted, []int{steps, heaps}, ok, sortedOf(c.list), c.steps, c.heaps)
	}
}

func TestIntroSortReturnsTheSameListForEveryLimit(t *testing.T) {
	for _, list := range quickSamples() {
		want := sortedOf(list)
		for limit := range 21 {
			sorted, steps, heaps, ok := impl.IntroSort(list, limit)
			wantSteps, wantHeaps := introModel(list, limit, impl.SmallSort)
			checkPartition(t, "IntroSort", sorted, []int{steps, heaps}, ok, want, wantSteps, wantHeaps)
			if t.Failed() {
				t.Fatal("the list is", list, "and the limit", limit)
			}
		}
	}
}

func TestIntroSortInvalidLimits(t *testing.T) {
	for _, limit := range []int{-1, 21, -20, 22, 64, math.MinInt, math.MaxInt, 1 << 32, 1 << 8} {
		for _, list := range [][]int{nil, {4}, steppedList(5, 9, -1), steppedList(6, 9, -1), make([]int, impl.MaxList)} {
			sorted, steps, heaps, ok := impl.IntroSort(list, limit)
			checkNone(t, "IntroSort", sorted, ok)
			checkZeros(t, "IntroSort", steps, heaps)
		}
	}
}

func TestDualPartitionOfNamedLists(t *testing.T) {
	descending := []int{9, 8, 1, 7, 2, 0, 6}
	for _, c := range []struct {
		list, want []int
		p, q       int
		low, most  int
	}{
		{nil, nil, 0, 0, 0, 0}, {nil, nil, math.MinInt, math.MaxInt, 0, 0},
		{[]int{4}, []int{4}, 4, 4, 0, 1}, {[]int{4}, []int{4}, 5, 5, 1, 1}, {[]int{4}, []int{4}, 3, 3, 0, 0},
		{[]int{5, 1, 9, 3, 7}, []int{1, 5, 3, 7, 9}, 3, 7, 1, 4}, {[]int{2, 3, 1, 2}, []int{1, 2, 2, 3}, 2, 2, 1, 3},
		{[]int{3, 1, 2, 3}, []int{1, 2, 3, 3}, 3, 3, 2, 4}, {[]int{3, 1, 2, 1}, []int{1, 1, 3, 2}, 1, 1, 0, 2},
		{descending, []int{1, 0, 7, 2, 6, 9, 8}, 2, 7, 2, 5}, {descending, []int{1, 2, 0, 9, 8, 7, 6}, 3, 5, 3, 3}, // none in p..q
		{descending, descending, 0, 9, 0, 7}, {descending, descending, 10, 11, 7, 7}, {descending, descending, -2, -1, 0, 0},
		{descending, descending, math.MinInt, math.MinInt, 0, 0}, {descending, descending, math.MaxInt, math.MaxInt, 7, 7},
		{descending, descending, math.MinInt, math.MaxInt, 0, 7}, {make([]int, impl.MaxList), make([]int, impl.MaxList), 0, 0, 0, impl.MaxList},
		{[]int{impl.MaxKey, 0, -impl.MaxKey}, []int{-impl.MaxKey, 0, impl.MaxKey}, 1 - impl.MaxKey, impl.MaxKey - 1, 1, 2},
	} {
		list, low, most, ok := impl.DualPartition(c.list, c.p, c.q)
		checkPartition(t, "DualPartition", list, []int{low, most}, ok, c.want, c.low, c.most)
	}
}

func TestDualPartitionSeparatesStably(t *testing.T) {
	for _, list := range quickSamples() {
		values := valuesAround(list)
		for i, p := range values {
			for _, q := range []int{p, values[(i+5)%len(values)], values[(i+8)%len(values)], values[len(values)-1-i]} {
				got, low, most, ok := impl.DualPartition(list, p, q)
				if p > q {
					checkNone(t, "DualPartition with p > q", got, ok)
					checkZeros(t, "DualPartition with p > q", low, most)
					continue
				}
				if want := dualModel(list, p, q); !ok || !slices.Equal(got, want) {
					t.Fatal("DualPartition of", list, "by", p, q, "returned", got, ok, "instead of", want)
				}
				checkParts(t, "DualPartition", list,
					part{got[:low], func(e int) bool { return e < p }},
					part{got[low:most], func(e int) bool { return p <= e && e <= q }},
					part{got[most:], func(e int) bool { return e > q }})
			}
		}
	}
}

func TestDualPartitionInvalidBounds(t *testing.T) {
	for _, bounds := range [][2]int{{1, 0}, {0, -1}, {9, 8}, {impl.MaxKey, -impl.MaxKey}, {math.MaxInt, math.MinInt}, {math.MaxInt, math.MaxInt - 1}, {math.MinInt + 1, math.MinInt}} {
		for _, list := range [][]int{nil, {0}, {4}, {9, 8, 1}, make([]int, impl.MaxList)} {
			parts, low, most, ok := impl.DualPartition(list, bounds[0], bounds[1])
			checkNone(t, "DualPartition", parts, ok)
			checkZeros(t, "DualPartition", low, most)
		}
	}
}

func TestQuickFunctionsOfInvalidLists(t *testing.T) {
	for _, list := range invalidLists() {
		parts, at, ok := impl.PartitionHoare(list)
		checkNone(t, "PartitionHoare", parts, ok)
		median, ok := impl.MedianIndex(list)
		checkNone(t, "MedianIndex", nil, ok)
		sorted, steps, ok := impl.QuickSort(list)
		checkNone(t, "QuickSort", sorted, ok)
		checkZeros(t, "PartitionHoare, MedianIndex or QuickSort", at, median, steps)
		for _, x := range []int{0, -1, 1, 20, 21, math.MinInt, math.MaxInt} {
			parts, lt, gt, ok := impl.PartitionThreeWay(list, x)
			checkNone(t, "PartitionThreeWay", parts, ok)
			sorted, steps, heaps, ok := impl.IntroSort(list, x)
			checkNone(t, "IntroSort", sorted, ok)
			checkZeros(t, "PartitionThreeWay or IntroSort", lt, gt, steps, heaps)
			for _, q := range []int{x, 0, math.MaxInt} {
				parts, low, most, ok := impl.DualPartition(list, x, q)
				checkNone(t, "DualPartition", parts, ok)
				checkZeros(t, "DualPartition", low, most)
			}
		}
	}
}

func TestQuickFunctionsOfAnEmptyList(t *testing.T) {
	for _, list := range [][]int{nil, {}, withSpare(nil)} {
		parts, at, ok := impl.PartitionHoare(list)
		checkNone(t, "PartitionHoare", parts, ok)
		median, ok := impl.MedianIndex(list)
		checkNone(t, "MedianIndex", nil, ok)
		checkZeros(t, "PartitionHoare or MedianIndex", at, median)
		sorted, steps, ok := impl.QuickSort(list)
		checkPartition(t, "QuickSort", sorted, []int{steps}, ok, nil, 0)
		parts, lt, gt, ok := impl.PartitionThreeWay(list, 3)
		checkPartition(t, "PartitionThreeWay", parts, []int{lt, gt}, ok, nil, 0, 0)
	}
}

// quickFunctions are the functions of the chapter, with valid further arguments and with others.
func quickFunctions() []func(list []int) []int {
	functions := []func(list []int) []int{
		func(list []int) []int { parts, _, _ := impl.PartitionHoare(list); return parts },
		func(list []int) []int { impl.MedianIndex(list); return nil },
		func(list []int) []int { sorted, _, _ := impl.QuickSort(list); return sorted },
	}
	for _, x := range []int{-1, 0, 1, 3, 20, 21} {
		functions = append(functions,
			func(list []int) []int { parts, _, _ := impl.PartitionLomuto(list, x); return parts },
			func(list []int) []int { parts, _, _ := impl.PartitionLomuto(list, len(list)-1-x); return parts },
			func(list []int) []int { parts, _, _, _ := impl.PartitionThreeWay(list, x); return parts },
			func(list []int) []int { sorted, _, _, _ := impl.IntroSort(list, x); return sorted },
			func(list []int) []int { parts, _, _, _ := impl.DualPartition(list, x, 3); return parts },
			func(list []int) []int { parts, _, _, _ := impl.DualPartition(list, math.MinInt, x); return parts },
		)
	}
	return functions
}

func TestQuickFunctionsLeaveTheirArguments(t *testing.T) {
	checkLeavesLists(t, quickFunctions(), slices.Concat(quickSamples(), invalidLists()))
}

// Elements beyond the length count nowhere, and every call returns new memory.
func TestQuickFunctionsReadAndKeepNothingElse(t *testing.T) {
	checkKeepsNothing(t, quickFunctions(), quickSamples())
}
