package tests

import (
	"cmp"
	"math"
	"slices"
	"testing"

	"loop.example/g00907/impl"
)

// exampleList is the list of the examples of the chapter.
func exampleList() []int { return []int{5, 1, 4, 1, 3} }

// firstOf is the pivot of QuickSelect.
func firstOf(part []int) int { return part[0] }

// lowerMedianModel returns an element with so many lesser and so many equal ones that it has the
// rank of the lower median.
func lowerMedianModel(list []int) int {
	rank := (len(list) - 1) / 2
	return list[slices.IndexFunc(list, func(x int) bool {
		less, notGreater := 0, 0
		for _, e := range list {
			if e < x {
				less++
			}
			if e <= x {
				notGreater++
			}
		}
		return less <= rank && rank < notGreater
	})]
}

// pivotModel is the median of medians, by indices.
func pivotModel(list []int) int {
	for len(list) > 5 {
		medians := make([]int, (len(list)+4)/5)
		for g := range medians {
			medians[g] = lowerMedianModel(list[5*g : min(5*g+5, len(list))])
		}
		list = medians
	}
	return lowerMedianModel(list)
}

// searchModel returns the numbers of rounds and of comparisons until the pivot is x. The list of a
// round has all elements of the whole list between the last pivot less than x and the last greater.
func searchModel(list []int, x int, pivotOf func(part []int) int) (rounds, comparisons int) {
	low, high := math.MinInt, math.MaxInt
	for {
		part := []int{}
		for _, e := range list {
			if low < e && e < high {
				part = append(part, e)
			}
		}
		pivot := pivotOf(part)
		rounds++
		comparisons += len(part) - 1
		switch {
		case pivot < x:
			low = pivot
		case pivot > x:
			high = pivot
		default:
			return rounds, comparisons
		}
	}
}

// partialModel takes the first of the least elements out of the list k times.
func partialModel(list []int, k int) []int {
	least, rest := []int{}, slices.Clone(list)
	for range k {
		at := slices.Index(rest, slices.Min(rest))
		least = append(least, rest[at])
		rest = slices.Delete(rest, at, at+1)
	}
	return append(least, rest...)
}

// nthModel sorts the elements stably by their comparison with x.
func nthModel(list []int, x int) []int {
	groups := slices.Clone(list)
	slices.SortStableFunc(groups, func(a, b int) int { return cmp.Compare(cmp.Compare(a, x), cmp.Compare(b, x)) })
	return groups
}

// tournamentModel returns the number of comparisons of the tournament method. The winner is the
// first of the least elements. It meets a loser in each round but those in which it is the odd one.
func tournamentModel(list []int) int {
	at, losers := slices.Index(list, slices.Min(list)), 0
	for n := len(list); n > 1; n = (n + 1) / 2 {
		if n%2 == 0 || at != n-1 {
			losers++
		}
		at /= 2
	}
	return len(list) - 1 + losers - 1
}

// weightedModel is the lower median of a list that has each element as often as its weight tells.
func weightedModel(list, weights []int) int {
	all := []int{}
	for i, e := range list {
		all = append(all, slices.Repeat([]int{e}, weights[i])...)
	}
	return sortedOf(all)[(len(all)-1)/2]
}

// selectSamples are quickSamples, and lists of every length with many equal elements.
func selectSamples() [][]int {
	lists := append(quickSamples(), exampleList())
	for n := range impl.MaxList + 1 {
		lists = append(lists, steppedList(n, -3, 0))
		for _, modulus := range []int{2, 4, 9} {
			list := steppedList(n, 5, 13)
			for i := range list {
				list[i] = list[i] * list[i] / 7 % modulus
			}
			lists = append(lists, list)
		}
	}
	return lists
}

// invalidRanks are ranks that a list of n elements does not have.
func invalidRanks(n int) []int {
	return []int{-1, n, n + 1, -n - 1, -2, impl.MaxList, math.MinInt, math.MaxInt, 1 << 8, 1 << 32, -1 << 32}
}

// checkNumbers checks that a call has returned the numbers and true.
func checkNumbers(t *testing.T, what string, numbers []int, ok bool, want ...int) {
	t.Helper()
	checkPartition(t, what, nil, numbers, ok, nil, want...)
}

func TestSelectionExamples(t *testing.T) {
	x, ok := impl.KthSmallest(exampleList(), 2)
	checkNumbers(t, "KthSmallest", []int{x}, ok, 3)
	x, n, ok := impl.QuickSelect(exampleList(), 2)
	checkNumbers(t, "QuickSelect", []int{x, n}, ok, 3, 8)
	x, ok = impl.MedianOfMedians(exampleList())
	checkNumbers(t, "MedianOfMedians", []int{x}, ok, 3)
	x, n, ok = impl.SelectByMedians(exampleList(), 2)
	checkNumbers(t, "SelectByMedians", []int{x, n}, ok, 3, 1)
	list, ok := impl.PartialSort(exampleList(), 2)
	checkPartition(t, "PartialSort", list, nil, ok, []int{1, 1, 5, 4, 3})
	list, ok = impl.NthElement(exampleList(), 2)
	checkPartition(t, "NthElement", list, nil, ok, []int{1, 1, 3, 5, 4})
	least, greatest, n, ok := impl.MinMax(exampleList())
	checkNumbers(t, "MinMax", []int{least, greatest, n}, ok, 1, 5, 6)
	x, n, ok = impl.SecondSmallest(exampleList())
	checkNumbers(t, "SecondSmallest", []int{x, n}, ok, 1, 6)
	x, ok = impl.WeightedMedian(exampleList(), []int{1, 1, 1, 1, 10})
	checkNumbers(t, "WeightedMedian", []int{x}, ok, 3)
}

func TestKthSmallestOfNamedLists(t *testing.T) {
	n := impl.MaxList
	for _, c := range []struct {
		list []int
		k, x int
	}{
		{[]int{4}, 0, 4}, {[]int{-4}, 0, -4}, {[]int{2, 1}, 0, 1}, {[]int{2, 1}, 1, 2}, {[]int{1, 2}, 0, 1}, {[]int{1, 2}, 1, 2}, {[]int{7, 7}, 0, 7}, {[]int{7, 7}, 1, 7},
		// An element has as many ranks as it has equals.
		{exampleList(), 0, 1}, {exampleList(), 1, 1}, {exampleList(), 3, 4}, {exampleList(), 4, 5}, {[]int{3, 1, 3, 3}, 1, 3}, {[]int{3, 1, 3, 3}, 3, 3},
		{[]int{impl.MaxKey, -impl.MaxKey}, 0, -impl.MaxKey}, {[]int{impl.MaxKey, -impl.MaxKey}, 1, impl.MaxKey},
		{steppedList(n, 0, 1), 0, 0}, {steppedList(n, 0, 1), n - 1, n - 1}, {steppedList(n, 0, -1), 0, 1 - n}, {steppedList(n, 0, -1), n - 1, 0}, {make([]int, n), n - 1, 0},
	} {
		x, ok := impl.KthSmallest(c.list, c.k)
		checkNumbers(t, "KthSmallest", []int{x}, ok, c.x)
	}
}

func TestQuickSelectOfNamedLists(t *testing.T) {
	n := impl.MaxList
	most := n * (n - 1) / 2
	ascending, descending, equal := steppedList(n, 0, 1), steppedList(n, n-1, -1), steppedList(n, 7, 0)
	equals := []int{3, 3, 1, 3, 5, 1}
	for _, c := range []struct {
		list              []int
		k, x, comparisons int
	}{
		{[]int{4}, 0, 4, 0}, {[]int{1, 2}, 0, 1, 1}, {[]int{1, 2}, 1, 2, 1}, {[]int{2, 1}, 0, 1, 1}, {[]int{2, 1}, 1, 2, 1}, {[]int{7, 7}, 0, 7, 1}, {[]int{7, 7}, 1, 7, 1},
		// The elements equal to the pivot are in neither list.
		{equals, 0, 1, 6}, {equals, 1, 1, 6}, {equals, 2, 3, 5}, {equals, 3, 3, 5}, {equals, 4, 3, 5}, {equals, 5, 5, 5},
		// The smaller elements, and the greater ones, keep their order.
		{[]int{5, 2, 4, 1, 3}, 2, 3, 8}, {[]int{5, 3, 1, 4, 2}, 2, 3, 7}, {[]int{1, 5, 3, 4, 2}, 2, 3, 9}, {[]int{1, 3, 5, 2, 4}, 2, 3, 7}, {[]int{1, 2, 4, 3, 5}, 2, 3, 9},
		{ascending, 0, 0, n - 1}, {ascending, 1, 1, 2*n - 3}, {ascending, n - 1, n - 1, most}, {ascending, n - 2, n - 2, most},
		{descending, n - 1, n - 1, n - 1}, {descending, n - 2, n - 2, 2*n - 3}, {descending, 0, 0, most}, {descending, 1, 1, most},
		{equal, 0, 7, n - 1}, {equal, n / 2, 7, n - 1}, {equal, n - 1, 7, n - 1},
		{[]int{impl.MaxKey, -impl.MaxKey}, 0, -impl.MaxKey, 1}, {[]int{-impl.MaxKey, impl.MaxKey, 0}, 2, impl.MaxKey, 3},
	} {
		x, comparisons, ok := impl.QuickSelect(c.list, c.k)
		checkNumbers(t, "QuickSelect", []int{x, comparisons}, ok, c.x, c.comparisons)
	}
}

func TestSelectByMediansOfNamedLists(t *testing.T) {
	n := impl.MaxList
	ascending, descending, equal := steppedList(n, 0, 1), steppedList(n, n-1, -1), steppedList(n, 7, 0)
	equals := []int{3, 3, 1, 3, 5, 1}
	for _, c := range []struct {
		list         []int
		k, x, rounds int
	}{
		{[]int{4}, 0, 4, 1}, {[]int{1, 2}, 0, 1, 1}, {[]int{1, 2}, 1, 2, 2}, {[]int{2, 1}, 0, 1, 1}, {[]int{2, 1}, 1, 2, 2}, {[]int{7, 7}, 0, 7, 1}, {[]int{7, 7}, 1, 7, 1},
		// The first pivot is 1, the lower one of the medians 3 and 1.
		{equals, 0, 1, 1}, {equals, 1, 1, 1}, {equals, 2, 3, 2}, {equals, 4, 3, 2}, {equals, 5, 5, 3},
		{exampleList(), 0, 1, 2}, {exampleList(), 1, 1, 2}, {exampleList(), 3, 4, 2}, {exampleList(), 4, 5, 3},
		// The pivots are 37, 12, 7, 2 and 0, or 37, 50, 58, 61, 62 and 63.
		{ascending, 37, 37, 1}, {ascending, 0, 0, 5}, {ascending, 12, 12, 2}, {ascending, 50, 50, 2}, {ascending, 61, 61, 4}, {ascending, n - 1, n - 1, 6},
		// The pivots are 26 and 0, or 26, 31, 32, 33, 36, 37, 38, 51, 56, 57, 58, 61, 62 and 63.
		{descending, 26, 26, 1}, {descending, 0, 0, 2}, {descending, 36, 36, 5}, {descending, 51, 51, 8}, {descending, n - 1, n - 1, 14},
		{equal, 0, 7, 1}, {equal, n / 2, 7, 1}, {equal, n - 1, 7, 1},
		{[]int{impl.MaxKey, -impl.MaxKey}, 0, -impl.MaxKey, 1}, {[]int{impl.MaxKey, -impl.MaxKey}, 1, impl.MaxKey, 2},
	} {
		x, rounds, ok := impl.SelectByMedians(c.list, c.k)
		checkNumbers(t, "SelectByMedians", []int{x, rounds}, ok, c.x, c.rounds)
	}
}

// All methods find the element of the sorted list, with the exact numbers of their operations.
func TestSelectionMethodsAgreeForEveryRank(t *testing.T) {
	for _, list := range selectSamples() {
		for k, want := range sortedOf(list) {
			x, ok := impl.KthSmallest(list, k)
			checkNumbers(t, "KthSmallest", []int{x}, ok, want)
			x, comparisons, ok := impl.QuickSelect(list, k)
			_, wantComparisons := searchModel(list, want, firstOf)
			checkNumbers(t, "QuickSelect", []int{x, comparisons}, ok, want, wantComparisons)
			x, rounds, ok := impl.SelectByMedians(list, k)
			wantRounds, _ := searchModel(list, want, pivotModel)
			checkNumbers(t, "SelectByMedians", []int{x, rounds}, ok, want, wantRounds)
			if t.Failed() {
				t.Fatal("the list is", list, "and the rank", k)
			}
		}
	}
}

func TestQuickSelectOfOrderedLists(t *testing.T) {
	for n := 1; n <= impl.MaxList; n++ {
		comparisons := 0
		for k := range n {
			comparisons += n - 1 - k
			x, got, ok := impl.QuickSelect(steppedList(n, -9, 3), k)
			checkNumbers(t, "QuickSelect of an ascending list", []int{x, got}, ok, 3*k-9, comparisons)
			x, got, ok = impl.QuickSelect(steppedList(n, 9, -3), n-1-k)
			checkNumbers(t, "QuickSelect of a descending list", []int{x, got}, ok, 9-3*k, comparisons)
			x, got, ok = impl.QuickSelect(steppedList(n, 4, 0), k)
			checkNumbers(t, "QuickSelect of an equal list", []int{x, got}, ok, 4, n-1)
			x, got, ok = impl.SelectByMedians(steppedList(n, 4, 0), k)
			checkNumbers(t, "SelectByMedians of an equal list", []int{x, got}, ok, 4, 1)
		}
	}
}

func TestMedianOfMediansOfNamedLists(t *testing.T) {
	n := impl.MaxList
	for _, c := range []struct {
		list  []int
		pivot int
	}{
		{[]int{4}, 4}, {[]int{2, 1}, 1}, {[]int{1, 2}, 1}, {[]int{3, 1, 2}, 2}, {[]int{4, 1, 3, 2}, 2}, {[]int{2, 2, 2, 1}, 2}, {[]int{9, 1, 1, 9}, 1},
		{[]int{5, 4, 3, 2, 1}, 3}, {[]int{9, 9, 1, 9, 1}, 9}, {[]int{1, 1, 9, 1, 9}, 1},
		// A group of five, and one of one to four.
		{[]int{1, 2, 3, 4, 5, 6}, 3}, {[]int{6, 7, 8, 9, 10, 1}, 1}, {[]int{5, 5, 5, 1, 1, 6}, 5}, {[]int{6, 5, 5, 5, 1, 1}, 1},
		{[]int{9, 8, 7, 6, 5, 2, 1}, 1}, {[]int{9, 8, 7, 6, 5, 9, 6}, 6}, {[]int{9, 8, 7, 6, 5, 3, 9, 1}, 3}, {[]int{9, 8, 7, 6, 5, 8, 9, 1}, 7},
		{[]int{11, 12, 13, 14, 15, 4, 3, 2, 1}, 2}, {[]int{1, 2, 3, 4, 5, 30, 10, 40, 20}, 3}, {[]int{20, 30, 22, 23, 24, 30, 10, 40, 20}, 20},
		{steppedList(10, 0, 1), 2}, {steppedList(10, 9, -1), 2}, {steppedList(11, 0, 1), 7}, {steppedList(11, 10, -1), 3},
		// Five groups of five; two of the last elements, and the groups are six.
		{steppedList(25, 0, 1), 12}, {steppedList(25, 24, -1), 12}, {steppedPermutation(25, 7, 0), 13},
		{steppedList(26, 0, 1), 12}, {steppedList(26, 25, -1), 0}, {steppedList(27, 0, 1), 12}, {steppedList(27, 26, -1), 0},
		{[]int{1, 1, 1, 9, 9, 1, 1, 1, 9, 9, 1, 1, 1, 9, 9, 2, 2, 2, 2, 2, 2, 2, 2, 2, 2}, 1},
		{[]int{1, 1, 9, 9, 9, 1, 1, 8, 9, 9, 1, 1, 7, 9, 9, 0, 0, 0, 0, 0, 0, 0, 0, 0, 0}, 7}, // the element of rank 16 of 25
		{steppedList(30, 0, 1), 12}, {steppedList(30, 29, -1), 2}, {steppedList(31, 0, 1), 12},
		{steppedList(n, 0, 1), 37}, {steppedList(n, n-1, -1), 26}, {steppedList(n, -5, 0), -5}, {steppedList(n-1, 0, 1), 37}, {steppedList(n-4, 0, 1), 37},
		{[]int{impl.MaxKey, -impl.MaxKey}, -impl.MaxKey}, {slices.Repeat([]int{impl.MaxKey}, 6), impl.MaxKey},
	} {
		pivot, ok := impl.MedianOfMedians(c.list)
		checkNumbers(t, "MedianOfMedians", []int{pivot}, ok, c.pivot)
		if t.Failed() {
			t.Fatal("the list is", c.list)
		}
	}
}

func TestMedianOfMediansIsAnElement(t *testing.T) {
	for _, list := range selectSamples() {
		if len(list) == 0 {
			continue
		}
		pivot, ok := impl.MedianOfMedians(list)
		if !ok || pivot != pivotModel(list) || !slices.Contains(list, pivot) {
			t.Fatal("MedianOfMedians of", list, "returned", pivot, ok)
		}
	}
}

// The list of a length that is no multiple of five has a last group of all orders of its elements.
func TestMedianOfMediansOfTheLastGroup(t *testing.T) {
	for _, before := range []int{5, 10, 15, 20, 25, 60} {
		for size := 1; size <= min(4, impl.MaxList-before); size++ {
			for group := range listsOver([]int{-1, before / 2, 99}, size) {
				list := append(steppedPermutation(before, 7, 3), group...)
				if pivot, ok := impl.MedianOfMedians(list); !ok || pivot != pivotModel(list) {
					t.Fatal("MedianOfMedians of", list, "returned", pivot, ok)
				}
			}
		}
	}
}

func TestPartialSortOfNamedLists(t *testing.T) {
	n := impl.MaxList
	descending := steppedList(n, n, -1)
	equals := []int{1, 5, 1, 0, 1}
	for _, c := range []struct {
		list []int
		k    int
		want []int
	}{
		{nil, 0, nil}, {[]int{}, 0, nil}, {[]int{4}, 0, []int{4}}, {[]int{4}, 1, []int{4}},
		{[]int{2, 1}, 0, []int{2, 1}}, {[]int{2, 1}, 1, []int{1, 2}}, {[]int{2, 1}, 2, []int{1, 2}}, {[]int{1, 2}, 1, []int{1, 2}},
		// The first of the equal elements is taken out.
		{equals, 0, equals}, {equals, 1, []int{0, 1, 5, 1, 1}}, {equals, 2, []int{0, 1, 5, 1, 1}}, {equals, 3, []int{0, 1, 1, 5, 1}},
		{equals, 4, []int{0, 1, 1, 1, 5}}, {equals, 5, []int{0, 1, 1, 1, 5}}, {[]int{2, 9, 2, 8, 2}, 1, []int{2, 9, 2, 8, 2}}, {[]int{2, 9, 2, 8, 2}, 2, []int{2, 2, 9, 8, 2}},
		// The others are not sorted.
		{[]int{9, 2, 7, 1, 8}, 1, []int{1, 9, 2, 7, 8}}, {[]int{9, 2, 7, 1, 8}, 2, []int{1, 2, 9, 7, 8}}, {[]int{9, 2, 7, 1, 8}, 3, []int{1, 2, 7, 9, 8}}, {[]int{9, 2, 7, 1, 8}, 4, []int{1, 2, 7, 8, 9}},
		{descending, 0, descending}, {descending, 1, append([]int{1}, descending[:n-1]...)}, {descending, n - 1, steppedList(n, 1, 1)}, {descending, n, steppedList(n, 1, 1)},
		{[]int{impl.MaxKey, -impl.MaxKey}, 1, []int{-impl.MaxKey, impl.MaxKey}}, {make([]int, n), n, make([]int, n)},
	} {
		list, ok := impl.PartialSort(c.list, c.k)
		checkPartition(t, "PartialSort", list, nil, ok, c.want)
	}
}

func TestPartialSortForEveryNumber(t *testing.T) {
	for _, list := range selectSamples() {
		sorted := sortedOf(list)
		for k := range len(list) + 1 {
			got, ok := impl.PartialSort(list, k)
			checkPartition(t, "PartialSort", got, nil, ok, partialModel(list, k))
			if t.Failed() || !slices.Equal(got[:k], sorted[:k]) {
				t.Fatal("the list is", list, "and the number", k)
			}
		}
	}
}

func TestNthElementOfNamedLists(t *testing.T) {
	n := impl.MaxList
	mixed := []int{7, 3, 9, 5, 1, 5, 8, 2}
	for _, c := range []struct {
		list []int
		k    int
		want []int
	}{
		{[]int{4}, 0, []int{4}}, {[]int{2, 1}, 0, []int{1, 2}}, {[]int{2, 1}, 1, []int{1, 2}}, {[]int{1, 2}, 0, []int{1, 2}}, {[]int{7, 7}, 1, []int{7, 7}},
		{exampleList(), 0, []int{1, 1, 5, 4, 3}}, {exampleList(), 1, []int{1, 1, 5, 4, 3}}, {exampleList(), 3, []int{1, 1, 3, 4, 5}}, {exampleList(), 4, []int{1, 4, 1, 3, 5}},
		{mixed, 0, []int{1, 7, 3, 9, 5, 5, 8, 2}}, {mixed, 3, []int{3, 1, 2, 5, 5, 7, 9, 8}}, {mixed, 4, []int{3, 1, 2, 5, 5, 7, 9, 8}}, {mixed, 5, []int{3, 5, 1, 5, 2, 7, 9, 8}}, {mixed, 7, []int{7, 3, 5, 1, 5, 8, 2, 9}},
		{steppedList(n, 0, 1), 9, steppedList(n, 0, 1)}, {make([]int, n), n - 1, make([]int, n)},
		{[]int{impl.MaxKey, 0, -impl.MaxKey}, 1, []int{-impl.MaxKey, 0, impl.MaxKey}}, {[]int{impl.MaxKey, 0, -impl.MaxKey}, 2, []int{0, -impl.MaxKey, impl.MaxKey}},
	} {
		list, ok := impl.NthElement(c.list, c.k)
		checkPartition(t, "NthElement", list, nil, ok, c.want)
	}
}

func TestNthElementGroupsStablyForEveryRank(t *testing.T) {
	for _, list := range selectSamples() {
		for k, x := range sortedOf(list) {
			got, ok := impl.NthElement(list, k)
			checkPartition(t, "NthElement", got, nil, ok, nthModel(list, x))
			if t.Failed() || got[k] != x {
				t.Fatal("the list is", list, "and the rank", k)
			}
		}
	}
}

func TestMinMaxOfNamedLists(t *testing.T) {
	n := impl.MaxList
	for _, c := range []struct {
		list                         []int
		least, greatest, comparisons int
	}{
		{[]int{4}, 4, 4, 0}, {[]int{-4}, -4, -4, 0}, {[]int{1, 2}, 1, 2, 1}, {[]int{2, 1}, 1, 2, 1}, {[]int{7, 7}, 7, 7, 1},
		{[]int{1, 2, 3}, 1, 3, 3}, {[]int{3, 2, 1}, 1, 3, 3}, {[]int{2, 3, 1}, 1, 3, 3}, {[]int{7, 7, 7}, 7, 7, 3}, {[]int{4, 3, 2, 1}, 1, 4, 4}, {[]int{2, 1, 3, 0, 9}, 0, 9, 6},
		{[]int{6, 5, 4, 3, 2, 1}, 1, 6, 7}, {steppedList(7, 5, 0), 5, 5, 9}, {steppedList(8, 1, 1), 1, 8, 10},
		{steppedList(n, 0, 1), 0, n - 1, 94}, {steppedList(n, 0, -1), 1 - n, 0, 94}, {steppedList(n, 7, 0), 7, 7, 94}, {steppedList(n-1, 0, 1), 0, n - 2, 93}, {steppedList(n-1, 7, 0), 7, 7, 93},
		{[]int{impl.MaxKey, -impl.MaxKey}, -impl.MaxKey, impl.MaxKey, 1}, {[]int{impl.MaxKey}, impl.MaxKey, impl.MaxKey, 0}, {[]int{-impl.MaxKey}, -impl.MaxKey, -impl.MaxKey, 0},
	} {
		least, greatest, comparisons, ok := impl.MinMax(c.list)
		checkNumbers(t, "MinMax", []int{least, greatest, comparisons}, ok, c.least, c.greatest, c.comparisons)
	}
}

func TestMinMaxCountsExactly(t *testing.T) {
	for _, list := range selectSamples() {
		n := len(list)
		if n == 0 {
			continue
		}
		want := 3 * (n - 1) / 2
		if n%2 == 0 {
			want = 3*n/2 - 2
		}
		least, greatest, comparisons, ok := impl.MinMax(list)
		checkNumbers(t, "MinMax", []int{least, greatest, comparisons}, ok, slices.Min(list), slices.Max(list), want)
		if t.Failed() {
			t.Fatal("the list is", list)
		}
	}
}

// The least and the greatest element are found at every two indices.
func TestMinMaxReachesEveryIndex(t *testing.T) {
	for n := 2; n <= impl.MaxList; n++ {
		for i := range n {
			for k := range n {
				list := steppedList(n, 5, 0)
				list[i], list[k] = -impl.MaxKey, impl.MaxKey
				least, greatest, _, ok := impl.MinMax(list)
				if !ok || least != slices.Min(list) || greatest != impl.MaxKey {
					t.Fatal("MinMax of", list, "returned", least, greatest, ok)
				}
			}
		}
	}
}

func TestSecondSmallestOfNamedLists(t *testing.T) {
	n := impl.MaxList
	for _, c := range []struct {
		list           []int
		x, comparisons int
	}{
		{[]int{1, 2}, 2, 1}, {[]int{2, 1}, 2, 1}, {[]int{7, 7}, 7, 1}, {[]int{impl.MaxKey, -impl.MaxKey}, impl.MaxKey, 1},
		{[]int{1, 2, 3}, 2, 3}, {[]int{2, 1, 3}, 2, 3}, {[]int{2, 3, 1}, 2, 2}, {[]int{3, 2, 1}, 2, 2},
		// The first of the equal least elements wins against the odd last one, which so is one more loser.
		{[]int{1, 5, 1}, 1, 3}, {[]int{5, 1, 1}, 1, 3}, {[]int{1, 1, 5}, 1, 3}, {[]int{5, 5, 1}, 5, 2}, {[]int{7, 7, 7}, 7, 3},
		{[]int{1, 2, 3, 4}, 2, 4}, {[]int{4, 3, 2, 1}, 2, 4}, {[]int{1, 3, 2, 4}, 2, 4}, {[]int{1, 9, 1, 9}, 1, 4},
		{[]int{1, 2, 3, 4, 5}, 2, 6}, {[]int{2, 3, 4, 5, 1}, 2, 4}, {[]int{2, 3, 4, 1, 5}, 2, 6}, {[]int{5, 4, 3, 2, 1}, 2, 4}, {[]int{1, 1, 1, 1, 1}, 1, 6}, {[]int{9, 1, 9, 9, 1}, 1, 6},
		{[]int{1, 2, 3, 4, 5, 6}, 2, 7}, {[]int{2, 3, 4, 5, 1, 6}, 2, 6}, {[]int{2, 3, 4, 5, 6, 1}, 2, 6}, {[]int{2, 3, 1, 4, 5, 6}, 2, 7},
		{[]int{1, 2, 3, 4, 5, 6, 7}, 2, 8}, {[]int{2, 3, 4, 5, 6, 7, 1}, 2, 7}, {[]int{3, 3, 4, 5, 6, 1, 2}, 2, 8},
		{steppedList(n, 0, 1), 1, 68}, {steppedList(n, 0, -1), 2 - n, 68}, {steppedList(n, 7, 0), 7, 68},
		{steppedList(n-1, 0, 1), 1, 67}, {steppedList(n-1, 0, -1), 3 - n, 66}, {steppedList(n-1, 7, 0), 7, 67},
		{steppedList(33, 0, 1), 1, 37}, {steppedList(33, 0, -1), -31, 32}, {steppedList(33, 7, 0), 7, 37},
	} {
		x, comparisons, ok := impl.SecondSmallest(c.list)
		checkNumbers(t, "SecondSmallest", []int{x, comparisons}, ok, c.x, c.comparisons)
		if t.Failed() {
			t.Fatal("the list is", c.list)
		}
	}
}

func TestSecondSmallestCountsExactly(t *testing.T) {
	for _, list := range selectSamples() {
		if len(list) < 2 {
			continue
		}
		x, comparisons, ok := impl.SecondSmallest(list)
		checkNumbers(t, "SecondSmallest", []int{x, comparisons}, ok, sortedOf(list)[1], tournamentModel(list))
		if t.Failed() {
			t.Fatal("the list is", list)
		}
	}
}

// The two least elements, equal or not, are at every two indices of lists of every length.
func TestSecondSmallestAtEveryTwoIndices(t *testing.T) {
	for n := 2; n <= impl.MaxList; n++ {
		for i := range n {
			for k := range n {
				list := steppedList(n, 5, 1)
				list[i], list[k] = 3-(i+k)%2, 2
				x, comparisons, ok := impl.SecondSmallest(list)
				if !ok || x != sortedOf(list)[1] || comparisons != tournamentModel(list) {
					t.Fatal("SecondSmallest of", list, "returned", x, comparisons, ok)
				}
			}
		}
	}
}

func TestWeightedMedianOfNamedLists(t *testing.T) {
	n := impl.MaxList
	for _, c := range []struct {
		list, weights []int
		x             int
	}{
		{[]int{4}, []int{1}, 4}, {[]int{-4}, []int{1000}, -4}, {[]int{2, 1}, []int{1, 2}, 1}, {[]int{2, 1}, []int{2, 1}, 2},
		// Exactly half of the total, and one less.
		{[]int{1, 2}, []int{1, 1}, 1}, {[]int{3, 1}, []int{5, 5}, 1}, {[]int{1, 2}, []int{1000, 1000}, 1}, {[]int{1, 2}, []int{999, 1000}, 2}, {[]int{1, 2}, []int{1000, 999}, 1},
		{[]int{4, 3, 2, 1}, []int{1, 1, 1, 1}, 2}, {[]int{4, 3, 2, 1}, []int{3, 1, 1, 1}, 3}, {[]int{4, 3, 2, 1}, []int{4, 1, 1, 1}, 4}, {[]int{4, 3, 2, 1}, []int{1, 1, 1, 3}, 1}, {[]int{4, 3, 2, 1}, []int{1, 1, 2, 3}, 2},
		{[]int{3, 1, 2}, []int{1, 1, 1}, 2}, {[]int{3, 1, 2}, []int{3, 1, 2}, 2}, {[]int{3, 1, 2}, []int{4, 1, 2}, 3}, {[]int{3, 1, 2}, []int{1, 3, 2}, 1},
		// Equal elements weigh together.
		{[]int{4, 1, 9, 4}, []int{2, 1, 6, 3}, 4}, {[]int{4, 1, 9, 4}, []int{2, 1, 7, 3}, 9}, {[]int{9, 4, 1, 4, 4}, []int{5, 1, 1, 1, 1}, 9}, {[]int{9, 4, 1, 4, 4}, []int{5, 1, 2, 1, 1}, 4},
		{[]int{7, 7}, []int{1, 1000}, 7}, {[]int{1, 7, 7}, []int{1000, 1, 999}, 1}, {[]int{1, 7, 7}, []int{1000, 2, 999}, 7},
		{[]int{impl.MaxKey, -impl.MaxKey}, []int{1000, 1}, impl.MaxKey}, {[]int{impl.MaxKey, -impl.MaxKey}, []int{1, 1}, -impl.MaxKey},
		{steppedList(n, 0, 1), steppedList(n, 1, 0), n/2 - 1}, {steppedList(n, 0, 1), steppedList(n, 1000, 0), n/2 - 1}, {steppedList(n, 0, -1), steppedList(n, 1000, 0), -n / 2},
		{steppedList(n-1, 0, 1), steppedList(n-1, 1000, 0), n/2 - 1}, {steppedList(n, 7, 0), steppedList(n, 1, 1), 7},
	} {
		x, ok := impl.WeightedMedian(c.list, c.weights)
		checkNumbers(t, "WeightedMedian", []int{x}, ok, c.x)
		if t.Failed() {
			t.Fatal("the list is", c.list, "and the weights are", c.weights)
		}
	}
}

func checkWeighted(t *testing.T, list, weights []int) {
	t.Helper()
	if x, ok := impl.WeightedMedian(list, weights); !ok || x != weightedModel(list, weights) {
		t.Fatal("WeightedMedian of", list, weights, "returned", x, ok)
	}
}

func TestWeightedMedianOfShortLists(t *testing.T) {
	for n := 1; n <= 4; n++ {
		for list := range listsOver([]int{4, -1, 7}, n) {
			for weights := range listsOver([]int{1, 2, 3, 5}, n) {
				checkWeighted(t, list, weights)
			}
		}
	}
}

func TestWeightedMedianOfManyLists(t *testing.T) {
	for _, list := range selectSamples() {
		n := len(list)
		if n == 0 {
			continue
		}
		for _, weights := range [][]int{steppedList(n, 1, 0), steppedList(n, 1, 1), steppedList(n, 70, -1)} {
			checkWeighted(t, list, weights)
		}
	}
	// One weight of 1000 at every index, which is more than all others or less.
	for n := 1; n <= impl.MaxList; n++ {
		for i := range n {
			for _, other := range []int{1, 1000/n + 1} {
				weights := steppedList(n, other, 0)
				weights[i] = 1000
				checkWeighted(t, steppedPermutation(impl.MaxList, 27, 60)[:n], weights)
			}
		}
	}
}

// Equal weights leave the lower median of the list.
func TestWeightedMedianOfEqualWeightsIsTheLowerMedian(t *testing.T) {
	for _, list := range selectSamples() {
		for _, weight := range []int{1, 2, 1000} {
			if len(list) > 0 {
				x, ok := impl.WeightedMedian(list, steppedList(len(list), weight, 0))
				checkNumbers(t, "WeightedMedian", []int{x}, ok, lowerMedianModel(list))
			}
		}
		if t.Failed() {
			t.Fatal("the list is", list)
		}
	}
}

// checkNoWeighted checks that WeightedMedian refuses its arguments.
func checkNoWeighted(t *testing.T, list, weights []int) {
	t.Helper()
	x, ok := impl.WeightedMedian(list, weights)
	checkNone(t, "WeightedMedian", nil, ok)
	checkZeros(t, "WeightedMedian", x)
	if t.Failed() {
		t.Fatal("the list has", len(list), "elements and the weights are", weights[:min(len(weights), impl.MaxList+1)])
	}
}

func TestWeightedMedianOfInvalidWeights(t *testing.T) {
	for n := 1; n <= impl.MaxList; n++ {
		list := steppedList(n, 9, -1)
		for i := range n {
			for _, weight := range []int{0, 1001, -1, -1000, math.MinInt, math.MaxInt, 1 << 32, 1<<32 + 1, 1<<8 + 1000, impl.MaxKey} {
				weights := steppedList(n, 20, 0)
				weights[i] = weight
				checkNoWeighted(t, list, weights)
			}
			for _, weight := range []int{1, 1000} {
				weights := steppedList(n, 20, 0)
				weights[i] = weight
				checkWeighted(t, list, weights)
			}
		}
		for _, length := range []int{0, n - 1, n + 1, 2 * n, impl.MaxList + 1} {
			checkNoWeighted(t, list, steppedList(length, 1, 0))
		}
		checkNoWeighted(t, list, withSpare(steppedList(n-1, 1, 0)))
	}
	checkNoWeighted(t, []int{4}, nil)
	checkNoWeighted(t, []int{4}, steppedList(1<<20, 1, 0))
}

func TestWeightedMedianOfInvalidLists(t *testing.T) {
	for _, list := range append(invalidLists(), nil, []int{}, withSpare(nil)) {
		for _, length := range []int{len(list), len(list) + 1, 0, 1, impl.MaxList} {
			checkNoWeighted(t, list, steppedList(length, 1, 0))
		}
	}
}

// checkNoRank checks that all the functions that take a rank refuse it or the list.
func checkNoRank(t *testing.T, list []int, k int) {
	t.Helper()
	x, ok := impl.KthSmallest(list, k)
	checkNone(t, "KthSmallest", nil, ok)
	y, comparisons, ok := impl.QuickSelect(list, k)
	checkNone(t, "QuickSelect", nil, ok)
	z, rounds, ok := impl.SelectByMedians(list, k)
	checkNone(t, "SelectByMedians", nil, ok)
	checkZeros(t, "KthSmallest, QuickSelect or SelectByMedians", x, y, comparisons, z, rounds)
	groups, ok := impl.NthElement(list, k)
	checkNone(t, "NthElement", groups, ok)
	if t.Failed() {
		t.Fatal("the list has", len(list), "elements and the rank is", k)
	}
}

func checkNoPartialSort(t *testing.T, list []int, k int) {
	t.Helper()
	sorted, ok := impl.PartialSort(list, k)
	checkNone(t, "PartialSort", sorted, ok)
	if t.Failed() {
		t.Fatal("the list has", len(list), "elements and the number is", k)
	}
}

func TestSelectionOfInvalidRanks(t *testing.T) {
	for n := range impl.MaxList + 1 {
		for _, list := range [][]int{steppedList(n, 9, -1), steppedList(n, 4, 0), withSpare(steppedList(n, 0, 1))} {
			for _, k := range invalidRanks(n) {
				checkNoRank(t, list, k)
				if k < 0 || k > n {
					checkNoPartialSort(t, list, k)
				}
			}
		}
	}
	checkNoRank(t, nil, 0)
	checkNoPartialSort(t, nil, 1)
	checkNoPartialSort(t, nil, -1)
}

func TestSelectionOfInvalidLists(t *testing.T) {
	for _, list := range invalidLists() {
		for _, k := range append(invalidRanks(len(list)), 0, 1, len(list)/2, len(list)-1) {
			checkNoRank(t, list, k)
			checkNoPartialSort(t, list, k)
		}
		checkNoExtremes(t, list)
		checkNoSecond(t, list)
	}
}

// checkNoExtremes checks that the functions of a non-empty list refuse the list.
func checkNoExtremes(t *testing.T, list []int) {
	t.Helper()
	pivot, ok := impl.MedianOfMedians(list)
	checkNone(t, "MedianOfMedians", nil, ok)
	least, greatest, comparisons, ok := impl.MinMax(list)
	checkNone(t, "MinMax", nil, ok)
	checkZeros(t, "MedianOfMedians or MinMax", pivot, least, greatest, comparisons)
}

func checkNoSecond(t *testing.T, list []int) {
	t.Helper()
	x, comparisons, ok := impl.SecondSmallest(list)
	checkNone(t, "SecondSmallest", nil, ok)
	checkZeros(t, "SecondSmallest", x, comparisons)
}

func TestSelectionOfListsThatAreTooShort(t *testing.T) {
	for _, list := range [][]int{nil, {}, withSpare(nil)} {
		checkNoExtremes(t, list)
		checkNoSecond(t, list)
	}
	for _, list := range [][]int{{0}, {4}, {-impl.MaxKey}, {impl.MaxKey}, withSpare([]int{1})} {
		checkNoSecond(t, list)
	}
}

// selectFunctions are the functions of the chapter, with valid further arguments and with others.
// Results that are numbers are made into a list.
func selectFunctions() []func(list []int) []int {
	functions := []func(list []int) []int{
		func(list []int) []int { x, _ := impl.MedianOfMedians(list); return []int{x} },
		func(list []int) []int { least, greatest, n, _ := impl.MinMax(list); return []int{least, greatest, n} },
		func(list []int) []int { x, n, _ := impl.SecondSmallest(list); return []int{x, n} },
		func(list []int) []int {
			x, _ := impl.WeightedMedian(list, steppedList(len(list), 1, 1))
			return []int{x}
		},
		func(list []int) []int { sorted, _ := impl.PartialSort(list, len(list)); return sorted },
	}
	for _, k := range []int{-1, 0, 1, 2, 5, impl.MaxList - 1, impl.MaxList} {
		functions = append(functions,
			func(list []int) []int { x, _ := impl.KthSmallest(list, k); return []int{x} },
			func(list []int) []int { x, n, _ := impl.QuickSelect(list, k); return []int{x, n} },
			func(list []int) []int { x, n, _ := impl.SelectByMedians(list, k); return []int{x, n} },
			func(list []int) []int { sorted, _ := impl.PartialSort(list, k); return sorted },
			func(list []int) []int { groups, _ := impl.NthElement(list, k); return groups },
		)
	}
	return functions
}

func TestSelectionLeavesItsArguments(t *testing.T) {
	checkLeavesLists(t, selectFunctions(), slices.Concat(selectSamples(), invalidLists()))
}

func TestWeightedMedianLeavesItsWeights(t *testing.T) {
	for _, original := range [][]int{nil, {1}, {3, 1, 2}, {1000, 1, 1}, {0, 1, 2}, {2, 1001, 1}, {2, 1}, steppedList(impl.MaxList, 70, -1), steppedList(impl.MaxList+1, 70, -1)} {
		for _, list := range [][]int{{4}, {9, 7, 8}, {7, 7, 7}, steppedList(impl.MaxList, 9, -1)} {
			weights := withSpare(original)
			impl.WeightedMedian(list, weights)
			if !isUntouched(weights, original) {
				t.Fatal("WeightedMedian changed its weights", original)
			}
		}
	}
	// One slice as the list and as the weights.
	both := withSpare([]int{3, 1, 2})
	x, ok := impl.WeightedMedian(both, both)
	checkNumbers(t, "WeightedMedian", []int{x}, ok, 2)
	if !isUntouched(both, []int{3, 1, 2}) {
		t.Error("WeightedMedian of its weights changed them")
	}
}

// Elements beyond the length count nowhere, and every call returns new memory.
func TestSelectionReadsAndKeepsNothingElse(t *testing.T) {
	checkKeepsNothing(t, selectFunctions(), selectSamples())
}
