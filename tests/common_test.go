package tests

import (
	"iter"
	"math"
	"slices"
	"testing"

	"loop.example/g00907/impl"
)

// beyondMark stands in the memory after an argument's length and over the memory of a result.
const beyondMark = -987654321

// paddedWith returns a copy of list that has elements beyond its length, all of them mark.
func paddedWith[E any](mark E, list []E) []E {
	whole := append(slices.Clone(list), mark, mark, mark)
	return whole[:len(list)]
}

// isPaddedWith reports whether list, made by paddedWith from mark and original, is as it was made.
func isPaddedWith[E comparable](mark E, list, original []E) bool {
	whole := list[:len(original)+3]
	return slices.Equal(whole[:len(original)], original) &&
		!slices.ContainsFunc(whole[len(original):], func(e E) bool { return e != mark })
}

// overwriteWith writes e over all the memory that list reaches.
func overwriteWith[E any](e E, list []E) {
	for i := range list[:cap(list)] {
		list[:cap(list)][i] = e
	}
}

// withSpare returns a copy of list that has elements beyond its length, all of them beyondMark.
func withSpare(list []int) []int { return paddedWith(beyondMark, list) }

// isUntouched reports whether list, made by withSpare from original, is as it was made.
func isUntouched(list, original []int) bool { return isPaddedWith(beyondMark, list, original) }

// overwrite writes over all the memory that list reaches.
func overwrite(list []int) { overwriteWith(beyondMark+1, list) }

// beyondRecord is to a record list what beyondMark is to an integer list.
func beyondRecord() impl.Record { return impl.Record{Key: beyondMark, Tag: beyondMark} }

func recordsWithSpare(list []impl.Record) []impl.Record { return paddedWith(beyondRecord(), list) }

func areUntouched(list, original []impl.Record) bool {
	return isPaddedWith(beyondRecord(), list, original)
}

func overwriteRecords(list []impl.Record) { overwriteWith(impl.Record{Key: beyondMark + 1}, list) }

// recordsOf returns records with the keys. Their tags fall, so that neither a sort by Key and Tag
// nor one that reverses equal Keys passes for a stable one.
func recordsOf(keys ...int) []impl.Record {
	list := make([]impl.Record, len(keys))
	for i, key := range keys {
		list[i] = impl.Record{Key: key, Tag: 999 - i}
	}
	return list
}

// listsOver yields every list of the length over the values, each as a new slice.
func listsOver(values []int, length int) iter.Seq[[]int] {
	return func(yield func([]int) bool) {
		total := 1
		for range length {
			total *= len(values)
		}
		for code := range total {
			list := make([]int, length)
			for i := range list {
				list[i] = values[code%len(values)]
				code /= len(values)
			}
			if !yield(list) {
				return
			}
		}
	}
}

// permutationsOf yields the permutations of n elements in lexicographic order, found by trying
// every element at every index.
func permutationsOf(n int) iter.Seq[[]int] {
	return func(yield func([]int) bool) {
		var extend func(prefix []int) bool
		extend = func(prefix []int) bool {
			if len(prefix) == n {
				return yield(slices.Clone(prefix))
			}
			for e := range n {
				if !slices.Contains(prefix, e) && !extend(append(slices.Clone(prefix), e)) {
					return false
				}
			}
			return true
		}
		extend([]int{})
	}
}

// steppedPermutation returns the permutation i*step + start of n elements, where step has no
// divisor in common with n.
func steppedPermutation(n, step, start int) []int {
	p := make([]int, n)
	for i := range p {
		p[i] = (i*step + start) % n
	}
	return p
}

// longPermutations are permutations of MaxList elements.
func longPermutations() [][]int {
	n := impl.MaxList
	reversed := steppedPermutation(n, n-1, n-1)
	swapped := steppedPermutation(n, 1, 0)
	swapped[0], swapped[n-1] = n-1, 0
	return [][]int{
		steppedPermutation(n, 1, 0), steppedPermutation(n, 1, 1), steppedPermutation(n, 1, n-1), reversed, swapped,
		steppedPermutation(n, 5, 3), steppedPermutation(n, 27, 60),
	}
}

// invalidPermutations are slices that are not permutations, for one reason each.
func invalidPermutations() [][]int {
	tooLong := steppedPermutation(impl.MaxList+1, 1, 0)
	repeated := steppedPermutation(impl.MaxList, 1, 0)
	repeated[impl.MaxList-1] = 0
	return [][]int{
		{1}, {-1}, {0, 0}, {1, 1}, {0, 2}, {2, 0}, {-1, 0}, {0, -1}, {1, 2}, {1, 2, 3}, {0, 1, 1}, {0, 1, 3}, {3, 1, 0},
		{math.MinInt}, {math.MaxInt}, {0, math.MinInt, 1}, {0, 1, math.MaxInt}, {1 << 32, 0},
		tooLong, repeated, make([]int, impl.MaxList), make([]int, 1<<20),
	}
}

// validLists are integer lists from none to MaxList elements, with and without equal elements.
func validLists() [][]int {
	lists := [][]int{
		{}, {0}, {impl.MaxKey}, {-impl.MaxKey}, {impl.MaxKey, -impl.MaxKey}, {-impl.MaxKey, impl.MaxKey}, {5, 3, 5, 1},
	}
	for _, modulus := range []int{1, 2, 3, 7, 31, 64, 200001} {
		list := make([]int, impl.MaxList)
		for i := range list {
			list[i] = (i*7919+13)%modulus - modulus/2
		}
		lists = append(lists, list, list[:impl.MaxList-1], list[5:22])
	}
	return lists
}

// invalidLists are integer lists that break one condition each.
func invalidLists() [][]int {
	return [][]int{
		{impl.MaxKey + 1}, {-impl.MaxKey - 1}, {math.MaxInt}, {math.MinInt}, {impl.MaxKey + 1, 0}, {0, -impl.MaxKey - 1},
		{2, 1, impl.MaxKey + 1, 0}, {0, 1, 2, -impl.MaxKey - 1}, make([]int, impl.MaxList+1), make([]int, 1<<20),
	}
}

// checkLeavesLists checks that no function changes its argument, one of the lists, or returns its
// memory.
func checkLeavesLists(t *testing.T, functions []func(list []int) []int, lists [][]int) {
	t.Helper()
	for _, original := range lists {
		for i, function := range functions {
			list := withSpare(original)
			overwrite(function(list))
			if !isUntouched(list, original) {
				t.Fatal("function", i, "changed its argument of", len(list), "elements, or shares its memory")
			}
		}
	}
}

// checkKeepsNothing checks that no function reads elements beyond the length of its argument, one of
// the lists, and that each returns new memory whenever it is called.
func checkKeepsNothing(t *testing.T, functions []func(list []int) []int, lists [][]int) {
	t.Helper()
	for _, list := range lists {
		for i, function := range functions {
			first := slices.Clone(function(withSpare(list)))
			overwrite(function(list))
			if again := function(list); !slices.Equal(again, first) {
				t.Fatal("function", i, "returned", again, "after", first)
			}
		}
	}
}

// cloneLists returns a copy of lists and of each list in it.
func cloneLists[E any](lists [][]E) [][]E {
	cloned := slices.Clone(lists)
	for i, list := range cloned {
		cloned[i] = slices.Clone(list)
	}
	return cloned
}

func sameLists[E comparable](a, b [][]E) bool { return slices.EqualFunc(a, b, slices.Equal) }

// checkSeparate checks that no two of the lists, which are parts of one result, share memory. It
// overwrites them.
func checkSeparate(t *testing.T, what string, lists [][]int) {
	t.Helper()
	for i, list := range lists {
		before := cloneLists(lists)
		overwriteWith(beyondMark-1-i, list)
		for k := range lists {
			if k != i && !slices.Equal(lists[k], before[k]) {
				t.Error(what, i, "shares memory with", what, k)
			}
		}
	}
}

// checkNone checks that a call that returned list and ok has failed with an empty slice.
func checkNone(t *testing.T, what string, list []int, ok bool) {
	t.Helper()
	if ok || len(list) != 0 {
		t.Error(what, "returned", len(list), "elements and", ok)
	}
}

// checkNoRecords does the same for a call that returns records.
func checkNoRecords(t *testing.T, what string, list []impl.Record, ok bool) {
	t.Helper()
	checkNone(t, what, make([]int, len(list)), ok)
}
