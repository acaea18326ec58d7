package tests

import (
	"math"
	"math/bits"
	"slices"
	"testing"

	"loop.example/g00907/impl"
)

// sortedOf returns the ascending arrangement of list.
func sortedOf(list []int) []int {
	sorted := slices.Clone(list)
	slices.Sort(sorted)
	return sorted
}

// descentsOf states for every element but the last whether it is greater than the next one.
func descentsOf(list []int) []bool {
	descents := []bool{}
	for i := range max(len(list), 1) - 1 {
		descents = append(descents, list[i] > list[i+1])
	}
	return descents
}

// greaterBefore returns, for every index, the number of greater elements before it.
func greaterBefore(list []int) []int {
	counts := make([]int, len(list))
	for i, x := range list {
		for _, e := range list[:i] {
			if e > x {
				counts[i]++
			}
		}
	}
	return counts
}

func inversionsOf(list []int) int {
	sum := 0
	for _, greater := range greaterBefore(list) {
		sum += greater
	}
	return sum
}

// insertionComparisons counts, for every element, the greater ones before it, and the one that
// ends the search unless the beginning does.
func insertionComparisons(list []int) int {
	sum := 0
	for i, greater := range greaterBefore(list) {
		sum += min(greater+1, i)
	}
	return sum
}

// insertionMoves counts, for every element with greater ones before it, these and itself.
func insertionMoves(list []int) int {
	sum := 0
	for _, greater := range greaterBefore(list) {
		if greater > 0 {
			sum += greater + 1
		}
	}
	return sum
}

// searchSteps returns the number of comparisons of a binary search among n elements that ends at
// the index.
func searchSteps(n, index int) int {
	if n == 0 {
		return 0
	}
	if index <= n/2 {
		return 1 + searchSteps(n/2, index)
	}
	return 1 + searchSteps(n-n/2-1, index-n/2-1)
}

func binaryComparisons(list []int) int {
	sum := 0
	for i, greater := range greaterBefore(list) {
		sum += searchSteps(i, i-greater)
	}
	return sum
}

// selectionSwaps takes the first smallest element off the rest, whose first element fills the gap.
func selectionSwaps(list []int) int {
	swaps := 0
	for rest := slices.Clone(list); len(rest) > 0; rest = rest[1:] {
		least := slices.Index(rest, slices.Min(rest))
		if least > 0 {
			rest[least] = rest[0]
			swaps++
		}
	}
	return swaps
}

// bubblePasses counts the passes: each moves every element that has greater ones before it past one
// of them, and the last finds none.
func bubblePasses(list []int) int {
	return 1 + slices.Max(append(greaterBefore(list), 0))
}

// shellReference sorts, for every gap, each class of elements that lie multiples of the gap apart.
func shellReference(list, gaps []int) ([]int, int) {
	sorted, comparisons := slices.Clone(list), 0
	for _, gap := range gaps {
		for start := range min(gap, len(sorted)) {
			class := []int{}
			for i := start; i < len(sorted); i += gap {
				class = append(class, sorted[i])
			}
			comparisons += insertionComparisons(class)
			for k, e := range sortedOf(class) {
				sorted[start+k*gap] = e
			}
		}
	}
	return sorted, comparisons
}

func differences(a, b []int) int {
	count := 0
	for i := range a {
		if a[i] != b[i] {
			count++
		}
	}
	return count
}

// validGaps are gap lists of one to ten gaps, some of them greater than most lists.
func validGaps() [][]int {
	return [][]int{
		{1}, {2, 1}, {3, 1}, {3, 2, 1}, {5, 3, 1}, {4, 2, 1}, {23, 10, 4, 1}, {31, 15, 7, 3, 1}, {32, 16, 8, 4, 2, 1},
		{impl.MaxList, 1}, {impl.MaxList - 1, 1}, {impl.MaxList, impl.MaxList - 1, impl.MaxList - 2, 1},
		{10, 9, 8, 7, 6, 5, 4, 3, 2, 1}, {64, 63, 62, 61, 60, 59, 58, 57, 56, 1}, {64, 50, 40, 30, 20, 15, 9, 5, 3, 1},
	}
}

// invalidGaps are gap lists that break one condition each.
func invalidGaps() [][]int {
	huge := make([]int, 1<<20)
	for i := range huge {
		huge[i] = len(huge) - i
	}
	return [][]int{
		nil, {}, {0}, {-1}, {2}, {impl.MaxList}, {impl.MaxList + 1}, {math.MaxInt}, {math.MinInt},
		{impl.MaxList + 1, 1}, {100, 1}, {math.MaxInt, 1}, {impl.MaxList + 1, impl.MaxList, 2, 1},
		{2, 0}, {1, 0}, {2, 1, 0}, {2, -1}, {1, -1}, {3, 1, -1}, {3, 1, math.MinInt}, {0, 1}, {-1, 1}, {math.MinInt, 1},
		{1, 1}, {2, 2, 1}, {2, 1, 1}, {3, 2, 2, 1}, {1, 2}, {1, 2, 1}, {2, 3, 1}, {5, 1, 2, 1}, {5, 3, 4, 1}, {5, 4, 0, 1},
		{3, 2}, {5, 4, 3}, {10, 9, 8, 7, 6, 5, 4, 3, 2},
		{11, 10, 9, 8, 7, 6, 5, 4, 3, 2, 1}, {64, 50, 40, 30, 25, 20, 15, 9, 5, 3, 1}, huge,
	}
}

// sampleLists are the valid lists, all lists of at most 6 elements out of 3, and all permutations
// of at most 7 elements.
func sampleLists() [][]int {
	lists := append(validLists(), nil)
	for length := range 7 {
		lists = slices.AppendSeq(lists, listsOver([]int{7, -2, 0}, length))
	}
	for n := range 8 {
		lists = slices.AppendSeq(lists, permutationsOf(n))
	}
	return append(lists, longPermutations()...)
}

// steppedList returns n elements from first on, each greater by step than the one before it.
func steppedList(n, first, step int) []int {
	list := make([]int, n)
	for i := range list {
		list[i] = first + i*step
	}
	return list
}

// costs are the numbers that the functions of the chapter report for one list.
type costs struct {
	descent, comparisons, moves, binary, selection, passes, swaps, writes int
}

// costsOf returns the numbers reported for the list, and checks that every sort has sorted it.
func costsOf(t *testing.T, list []int) costs {
	t.Helper()
	var c costs
	var valid [6]bool
	var sorts [4][]int
	c.descent, valid[0] = impl.IsSorted(list)
	sorts[0], c.comparisons, c.moves, valid[1] = impl.InsertionSort(list)
	sorts[1], c.binary, valid[2] = impl.BinaryInsertionSort(list)
	sorts[2], c.selection, valid[3] = impl.SelectionSort(list)
	sorts[3], c.passes, c.swaps, valid[4] = impl.BubblePasses(list)
	c.writes, valid[5] = impl.CycleWrites(list)
	if valid != [6]bool{true, true, true, true, true, true} {
		t.Fatal("refused", list, "by", valid)
	}
	for i, sorted := range sorts {
		if !slices.Equal(sorted, sortedOf(list)) {
			t.Fatal("sort", i, "returned", sorted, "for", list)
		}
	}
	return c
}

func TestElementarySortsOfNamedLists(t *testing.T) {
	n := impl.MaxList
	most := n * (n - 1) / 2
	for _, c := range []struct {
		list []int
		want costs
	}{
		{nil, costs{-1, 0, 0, 0, 0, 1, 0, 0}},
		{[]int{}, costs{-1, 0, 0, 0, 0, 1, 0, 0}},
		{[]int{5}, costs{-1, 0, 0, 0, 0, 1, 0, 0}},
		{[]int{1, 2}, costs{-1, 1, 0, 1, 0, 1, 0, 0}},
		{[]int{4, 4}, costs{-1, 1, 0, 1, 0, 1, 0, 0}},
		{[]int{2, 1}, costs{0, 1, 2, 1, 1, 2, 1, 2}},
		{[]int{2, 1, 3}, costs{0, 2, 2, 2, 1, 2, 1, 2}},
		{[]int{3, 1, 2}, costs{0, 3, 4, 3, 2, 2, 2, 3}},
		{[]int{1, 3, 2}, costs{1, 3, 2, 3, 1, 2, 1, 2}},
		{[]int{2, 3, 1}, costs{1, 3, 3, 3, 2, 3, 2, 3}},
		{[]int{3, 2, 1}, costs{0, 3, 5, 3, 1, 3, 3, 2}},
		{[]int{1, 2, 2, 1}, costs{2, 5, 3, 4, 1, 3, 2, 2}},
		// The first of the two smallest elements is swapped, and then the second.
		{[]int{2, 1, 1}, costs{0, 3, 4, 3, 2, 2, 2, 2}},
		{[]int{3, 1, 2, 1}, costs{0, 6, 7, 5, 2, 3, 4, 2}},
		{steppedList(n, -31, 1), costs{-1, n - 1, 0, 264, 0, 1, 0, 0}},
		{steppedList(n, -impl.MaxKey, 3000), costs{-1, n - 1, 0, 264, 0, 1, 0, 0}},
		{steppedList(n, 31, -1), costs{0, most, most + n - 1, 321, n / 2, n, most, n}},
		{steppedList(n-1, impl.MaxKey, -3000), costs{0, 1953, 1953 + 62, 315, 31, n - 1, 1953, n - 2}},
		{steppedList(n, impl.MaxKey, 0), costs{-1, n - 1, 0, 264, 0, 1, 0, 0}},
		{steppedList(n, -impl.MaxKey, 0), costs{-1, n - 1, 0, 264, 0, 1, 0, 0}},
		// One element at the wrong end.
		{append(steppedList(n-1, 1, 1), 0), costs{n - 2, 2*(n-1) - 1, n, 264, n - 1, n, n - 1, n}},
		{append([]int{n}, steppedList(n-1, 1, 1)...), costs{0, 2*(n-1) - 1, 2 * (n - 1), 295, n - 1, 2, n - 1, n}},
	} {
		if got := costsOf(t, c.list); got != c.want {
			t.Error(c.list, "costs", got, "not", c.want)
		}
	}
}

func TestElementarySortsCountExactly(t *testing.T) {
	for _, list := range sampleLists() {
		sorted := sortedOf(list)
		want := costs{
			descent:     slices.Index(descentsOf(list), true),
			comparisons: insertionComparisons(list),
			moves:       insertionMoves(list),
			binary:      binaryComparisons(list),
			selection:   selectionSwaps(list),
			passes:      bubblePasses(list),
			swaps:       inversionsOf(list),
			writes:      differences(list, sorted),
		}
		if got := costsOf(t, list); got != want {
			t.Fatal(list, "costs", got, "not", want)
		}
	}
}

// The bounds are met exactly by ascending and by descending lists, as the named lists show.
func TestElementarySortsStayWithinTheClassicalBounds(t *testing.T) {
	for _, list := range sampleLists() {
		n, c := len(list), costsOf(t, list)
		last, pairs := max(n-1, 0), n*(n-1)/2
		searches := 0
		for i := 1; i < n; i++ {
			searches += bits.Len(uint(i))
		}
		inBounds := last <= c.comparisons && c.comparisons <= pairs &&
			c.moves <= pairs+last && c.binary <= searches && c.selection <= last &&
			1 <= c.passes && c.passes <= max(n, 1) && c.swaps <= pairs && c.writes <= n
		agree := c.swaps <= c.comparisons && c.comparisons <= c.swaps+last && c.swaps <= c.moves &&
			c.writes <= c.moves && c.writes <= 2*c.selection
		if !inBounds || !agree {
			t.Fatal(list, "costs", c)
		}
		if ascending := c.descent == -1; ascending != (c.moves == 0) || ascending != (c.selection == 0) ||
			ascending != (c.passes == 1) || ascending != (c.swaps == 0) || ascending != (c.writes == 0) {
			t.Fatal(list, "costs", c)
		}
	}
}

// Sorting a permutation by selection takes as many swaps as elements less the cycles, and cycle
// sort writes every element that is not fixed.
func TestElementarySortsOfPermutations(t *testing.T) {
	for _, p := range somePermutations() {
		cycles, _ := impl.PermutationCycles(p)
		fixed := 0
		for _, cycle := range cycles {
			if len(cycle) == 1 {
				fixed++
			}
		}
		if c := costsOf(t, p); c.selection != len(p)-len(cycles) || c.writes != len(p)-fixed {
			t.Error(p, "has the cycles", cycles, "and costs", c)
		}
	}
}

// An ascending list with one pair of neighbours swapped costs one swap wherever the pair lies.
func TestElementarySortsOfOneDescent(t *testing.T) {
	n := impl.MaxList
	for i := range n - 1 {
		list := steppedList(n, -n, 2)
		list[i], list[i+1] = list[i+1], list[i]
		c := costsOf(t, list)
		comparisons := n
		if i == 0 {
			comparisons = n - 1
		}
		if c.descent != i || c.comparisons != comparisons || c.moves != 2 ||
			c.selection != 1 || c.passes != 2 || c.swaps != 1 || c.writes != 2 {
			t.Error("the descent at", i, "costs", c)
		}
	}
}

func TestIsSortedFindsTheFirstDescent(t *testing.T) {
	for _, c := range []struct {
		list []int
		at   int
	}{
		{nil, -1}, {[]int{3}, -1}, {[]int{1, 1, 2}, -1}, {[]int{-2, -1, 0}, -1}, {[]int{1, 3, 2}, 1}, {[]int{2, 1, 0}, 0},
		{[]int{0, 2, 1, 5, 4}, 1}, {[]int{1, 1, 0, 0}, 1}, {[]int{impl.MaxKey, -impl.MaxKey}, 0}, {[]int{0, 1, 2, 3, 2}, 3},
	} {
		if at, ok := impl.IsSorted(c.list); !ok || at != c.at {
			t.Error("the first descent of", c.list, "is", at, ok)
		}
	}
}

func checkShell(t *testing.T, list, gaps []int) {
	t.Helper()
	want, comparisons := shellReference(list, gaps)
	sorted, got, ok := impl.ShellSort(list, gaps)
	if !ok || !slices.Equal(sorted, want) || !slices.IsSorted(sorted) || got != comparisons {
		t.Fatal("Shell sort of", list, "with", gaps, "returned", sorted, got, ok, "not", want, comparisons)
	}
}

func TestShellSort(t *testing.T) {
	for _, gaps := range validGaps() {
		for _, list := range sampleLists() {
			checkShell(t, list, gaps)
		}
	}
}

func TestShellSortOfNamedLists(t *testing.T) {
	n := impl.MaxList
	most := n * (n - 1) / 2
	ascending, descending, equal := steppedList(n, 1, 1), steppedList(n, n, -1), steppedList(n, 7, 0)
	for _, c := range []struct {
		list, gaps  []int
		comparisons int
	}{
		{nil, []int{1}, 0}, {[]int{}, []int{n, 1}, 0}, {[]int{5}, []int{3, 2, 1}, 0},
		{[]int{3, 2, 1}, []int{2, 1}, 3}, {[]int{3, 2, 1}, []int{1}, 3}, {[]int{3, 2, 1}, []int{n, 1}, 3},
		{[]int{2, 1}, []int{2, 1}, 1}, {[]int{2, 1}, []int{10, 9, 8, 7, 6, 5, 4, 3, 2, 1}, 1},
		{[]int{4, 3, 2, 1}, []int{2, 1}, 6}, {[]int{2, 1, 2, 1}, []int{3, 1}, 4}, {[]int{1, 1, 1, 1}, []int{2, 1}, 5},
		{ascending, []int{1}, n - 1}, {equal, []int{1}, n - 1}, {descending, []int{1}, most},
		{ascending, []int{n, 1}, n - 1}, {equal, []int{n, 1}, n - 1}, {descending, []int{n, 1}, most},
		// The gap n-1 orders the two ends alone.
		{ascending, []int{n - 1, 1}, 1 + n - 1}, {equal, []int{n - 1, 1}, 1 + n - 1},
		{descending, []int{n - 1, 1}, 1 + (n-2)*(n-1)/2 + 1},
		{ascending, []int{10, 9, 8, 7, 6, 5, 4, 3, 2, 1}, 10*n - 55}, {equal, []int{10, 9, 8, 7, 6, 5, 4, 3, 2, 1}, 10*n - 55},
	} {
		sorted, comparisons, ok := impl.ShellSort(c.list, c.gaps)
		if !ok || !slices.Equal(sorted, sortedOf(c.list)) || comparisons != c.comparisons {
			t.Error("Shell sort of", c.list, "with", c.gaps, "returned", sorted, comparisons, ok)
		}
	}
}

// With the gap 1 alone, or with gaps greater than the list before it, Shell sort is insertion sort.
func TestShellSortWithoutEffectiveGapsIsInsertionSort(t *testing.T) {
	for _, list := range sampleLists() {
		want, comparisons, _, _ := impl.InsertionSort(list)
		lists := [][]int{{1}, {impl.MaxList, 1}}
		if n := len(list); n >= 2 && n < impl.MaxList {
			lists = append(lists, []int{n, 1}, []int{n + 1, n, 1})
		}
		for _, gaps := range lists {
			sorted, got, ok := impl.ShellSort(list, gaps)
			if !ok || !slices.Equal(sorted, want) || got != comparisons {
				t.Fatal("Shell sort of", list, "with", gaps, "returned", sorted, got, ok)
			}
		}
	}
}

func TestShellSortInvalid(t *testing.T) {
	for _, gaps := range invalidGaps() {
		for _, list := range [][]int{nil, {1}, {3, 1, 2}, steppedList(impl.MaxList, 64, -1)} {
			sorted, comparisons, ok := impl.ShellSort(list, gaps)
			checkNone(t, "ShellSort with invalid gaps", sorted, ok)
			checkZeros(t, "ShellSort with invalid gaps", comparisons)
		}
	}
	for _, list := range invalidLists() {
		for _, gaps := range append(validGaps(), invalidGaps()...) {
			sorted, comparisons, ok := impl.ShellSort(list, gaps)
			checkNone(t, "ShellSort of an invalid list", sorted, ok)
			checkZeros(t, "ShellSort of an invalid list", comparisons)
		}
	}
}

// Of all the lists of at most four numbers, the decreasing ones from MaxList at most to 1 are gaps.
func TestShellSortAcceptsOnlyDecreasingGaps(t *testing.T) {
	for length := range 5 {
		for gaps := range listsOver([]int{0, 1, 2, 3, 4, impl.MaxList, impl.MaxList + 1}, length) {
			valid := length > 0 && gaps[max(length, 1)-1] == 1 && slices.Max(gaps) <= impl.MaxList
			for i := 1; i < length; i++ {
				valid = valid && gaps[i-1] > gaps[i]
			}
			if sorted, _, ok := impl.ShellSort([]int{2, 1}, gaps); ok != valid || ok && !slices.Equal(sorted, []int{1, 2}) {
				t.Error("the gaps", gaps, "returned", sorted, ok)
			}
		}
	}
}

func checkZeros(t *testing.T, what string, numbers ...int) {
	t.Helper()
	for i, number := range numbers {
		if number != 0 {
			t.Error(what, "returned the number", number, "at", i)
		}
	}
}

func TestElementarySortsInvalid(t *testing.T) {
	for _, list := range invalidLists() {
		at, ok := impl.IsSorted(list)
		checkNone(t, "IsSorted", nil, ok)
		sorted, comparisons, moves, ok := impl.InsertionSort(list)
		checkNone(t, "InsertionSort", sorted, ok)
		checkZeros(t, "IsSorted or InsertionSort", at, comparisons, moves)
		sorted, comparisons, ok = impl.BinaryInsertionSort(list)
		checkNone(t, "BinaryInsertionSort", sorted, ok)
		checkZeros(t, "BinaryInsertionSort", comparisons)
		sorted, swaps, ok := impl.SelectionSort(list)
		checkNone(t, "SelectionSort", sorted, ok)
		checkZeros(t, "SelectionSort", swaps)
		sorted, passes, swaps, ok := impl.BubblePasses(list)
		checkNone(t, "BubblePasses", sorted, ok)
		writes, ok := impl.CycleWrites(list)
		checkNone(t, "CycleWrites", nil, ok)
		checkZeros(t, "BubblePasses or CycleWrites", passes, swaps, writes)
	}
}

// elementaryFunctions are the functions of the chapter that take one list.
func elementaryFunctions() []func(list []int) []int {
	return []func(list []int) []int{
		func(list []int) []int { impl.IsSorted(list); return nil },
		func(list []int) []int { sorted, _, _, _ := impl.InsertionSort(list); return sorted },
		func(list []int) []int { sorted, _, _ := impl.BinaryInsertionSort(list); return sorted },
		func(list []int) []int { sorted, _, _ := impl.SelectionSort(list); return sorted },
		func(list []int) []int { sorted, _, _, _ := impl.BubblePasses(list); return sorted },
		func(list []int) []int { sorted, _, _ := impl.ShellSort(list, []int{5, 3, 1}); return sorted },
		func(list []int) []int { impl.CycleWrites(list); return nil },
	}
}

func TestElementarySortsLeaveTheirArguments(t *testing.T) {
	checkLeavesLists(t, elementaryFunctions(), append(sampleLists(), invalidLists()...))
	for _, original := range append(validGaps(), invalidGaps()...) {
		for _, list := range [][]int{{3, 1, 2}, {1, 2, 3}, steppedList(impl.MaxList, 64, -1)} {
			gaps := withSpare(original)
			sorted, _, _ := impl.ShellSort(list, gaps)
			overwrite(sorted)
			if !isUntouched(gaps, original) {
				t.Fatal("ShellSort changed its", len(gaps), "gaps, or shares their memory")
			}
		}
	}
	// One slice as the list and as the gaps.
	both := withSpare([]int{3, 2, 1})
	sorted, comparisons, ok := impl.ShellSort(both, both)
	if !ok || !slices.Equal(sorted, []int{1, 2, 3}) || comparisons != 3 {
		t.Error("Shell sort of its gaps returned", sorted, comparisons, ok)
	}
	overwrite(sorted)
	if !isUntouched(both, []int{3, 2, 1}) {
		t.Error("Shell sort of its gaps changed them, or shares their memory")
	}
}

// Elements beyond the length count neither as keys nor as gaps, and every call returns new memory.
func TestElementarySortsReadAndKeepNothingElse(t *testing.T) {
	list := []int{2, 1, 3}
	checkKeepsNothing(t, elementaryFunctions(), [][]int{list})
	if sorted, comparisons, ok := impl.ShellSort(withSpare(list), withSpare([]int{2, 1})); !ok || comparisons != 3 {
		t.Error("Shell sort with gaps that have spare memory returned", sorted, comparisons, ok)
	}
	if c := costsOf(t, withSpare(list)); c != (costs{0, 2, 2, 2, 1, 2, 1, 2}) {
		t.Error("a list that has spare memory costs", c)
	}
}
