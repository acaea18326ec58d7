package tests

import (
	"cmp"
	"math"
	"slices"
	"testing"

	"loop.example/g00907/impl"
)

// somePermutations are all permutations of at most 5 elements and the long ones.
func somePermutations() [][]int {
	all := longPermutations()
	for n := range 6 {
		all = slices.AppendSeq(all, permutationsOf(n))
	}
	return all
}

func TestIsValidPermutation(t *testing.T) {
	for _, p := range append(somePermutations(), nil) {
		if !impl.IsValidPermutation(p) {
			t.Error("refused", p)
		}
	}
	for i, p := range invalidPermutations() {
		if impl.IsValidPermutation(p) {
			t.Errorf("accepted invalid permutation %d with %d elements from %d", i, len(p), p[0])
		}
	}
	if !impl.IsValidPermutation([]int{1, 0, 0, 9}[:2]) {
		t.Error("elements beyond the length count")
	}
	if impl.MaxRanked != 10 {
		t.Error("MaxRanked is", impl.MaxRanked)
	}
}

// Of all the lists over -1..n of length n, the valid ones are the n! permutations.
func TestIsValidPermutationOfAllLists(t *testing.T) {
	factorial := 1
	for n := range 6 {
		factorial *= max(1, n)
		values := []int{-1}
		for e := range n + 1 {
			values = append(values, e)
		}
		valid := 0
		for list := range listsOver(values, n) {
			if impl.IsValidPermutation(list) {
				valid++
			}
		}
		if valid != factorial {
			t.Error(valid, "permutations of", n, "elements")
		}
	}
}

func TestInversePermutation(t *testing.T) {
	if q, ok := impl.InversePermutation([]int{1, 2, 0}); !ok || !slices.Equal(q, []int{2, 0, 1}) {
		t.Error("a cycle:", q, ok)
	}
	for _, p := range append(somePermutations(), nil) {
		q, ok := impl.InversePermutation(p)
		if !ok || len(q) != len(p) {
			t.Error("the inverse of", p, "is", q, ok)
			continue
		}
		for i, e := range p {
			if q[e] != i {
				t.Error("the inverse of", p, "is", q)
				break
			}
		}
	}
	for _, p := range invalidPermutations() {
		q, ok := impl.InversePermutation(p)
		checkNone(t, "InversePermutation", q, ok)
	}
}

func TestComposePermutations(t *testing.T) {
	if r, ok := impl.ComposePermutations([]int{1, 2, 0}, []int{0, 2, 1}); !ok || !slices.Equal(r, []int{1, 0, 2}) {
		t.Error("the example:", r, ok)
	}
	permutations := somePermutations()
	for _, p := range permutations {
		for _, q := range permutations {
			r, ok := impl.ComposePermutations(p, q)
			if len(p) != len(q) {
				checkNone(t, "ComposePermutations of two lengths", r, ok)
				continue
			}
			if !ok || len(r) != len(p) {
				t.Fatal("composing", p, "with", q, "yields", r, ok)
			}
			for i := range r {
				if r[i] != p[q[i]] {
					t.Fatal("composing", p, "with", q, "yields", r)
				}
			}
		}
	}
	if r, ok := impl.ComposePermutations(nil, []int{}); !ok || len(r) != 0 {
		t.Error("the empty permutation:", r, ok)
	}
}

func TestComposePermutationsInvalid(t *testing.T) {
	for _, p := range invalidPermutations() {
		r, ok := impl.ComposePermutations(p, p)
		checkNone(t, "an invalid permutation twice", r, ok)
		if len(p) > impl.MaxList {
			continue
		}
		valid := steppedPermutation(len(p), 1, 0)
		r, ok = impl.ComposePermutations(p, valid)
		checkNone(t, "an invalid first permutation", r, ok)
		r, ok = impl.ComposePermutations(valid, p)
		checkNone(t, "an invalid second permutation", r, ok)
	}
	for _, lengths := range [][2]int{{0, 1}, {1, 0}, {2, 3}, {3, 2}, {63, 64}, {64, 63}, {64, 65}, {65, 64}} {
		r, ok := impl.ComposePermutations(steppedPermutation(lengths[0], 1, 0), steppedPermutation(lengths[1], 1, 0))
		checkNone(t, "permutations of two lengths", r, ok)
	}
}

func TestApplyPermutation(t *testing.T) {
	if l, ok := impl.ApplyPermutation([]int{1, 2, 0}, []int{7, 8, 9}); !ok || !slices.Equal(l, []int{8, 9, 7}) {
		t.Error("a cycle:", l, ok)
	}
	permutations := somePermutations()
	for _, list := range append(validLists(), []int{4, 4, 2}, []int{impl.MaxKey, 7, -impl.MaxKey, 7}) {
		for _, p := range permutations {
			l, ok := impl.ApplyPermutation(p, list)
			if len(p) != len(list) {
				checkNone(t, "ApplyPermutation of two lengths", l, ok)
				continue
			}
			if !ok || len(l) != len(p) {
				t.Fatal("applying", p, "to", list, "yields", l, ok)
			}
			for i := range l {
				if l[i] != list[p[i]] {
					t.Fatal("applying", p, "to", list, "yields", l)
				}
			}
		}
	}
	if l, ok := impl.ApplyPermutation(nil, nil); !ok || len(l) != 0 {
		t.Error("no elements:", l, ok)
	}
}

func TestApplyPermutationInvalid(t *testing.T) {
	for _, list := range invalidLists() {
		l, ok := impl.ApplyPermutation(steppedPermutation(len(list), 1, 0), list)
		checkNone(t, "an invalid list", l, ok)
	}
	for _, p := range invalidPermutations() {
		l, ok := impl.ApplyPermutation(p, make([]int, len(p)))
		checkNone(t, "an invalid permutation", l, ok)
	}
	for _, lengths := range [][2]int{{0, 1}, {1, 0}, {2, 3}, {3, 2}, {63, 64}, {64, 63}, {64, 65}, {65, 64}} {
		l, ok := impl.ApplyPermutation(steppedPermutation(lengths[0], 1, 0), make([]int, lengths[1]))
		checkNone(t, "a list of another length", l, ok)
	}
}

// Applying the composition of p and q is applying p and then q; inverses cancel on either side.
func TestCompositionAgreesWithInversesAndApplication(t *testing.T) {
	permutations := somePermutations()
	for _, p := range permutations {
		identity := steppedPermutation(len(p), 1, 0)
		inverse, _ := impl.InversePermutation(p)
		left, _ := impl.ComposePermutations(inverse, p)
		right, _ := impl.ComposePermutations(p, inverse)
		if !slices.Equal(left, identity) || !slices.Equal(right, identity) {
			t.Error(p, "does not cancel with its inverse:", left, right)
		}
		list := make([]int, len(p))
		for i := range list {
			list[i] = i*i - 7
		}
		for _, q := range permutations {
			if len(q) != len(p) {
				continue
			}
			composed, _ := impl.ComposePermutations(p, q)
			once, _ := impl.ApplyPermutation(composed, list)
			first, _ := impl.ApplyPermutation(p, list)
			twice, _ := impl.ApplyPermutation(q, first)
			if !slices.Equal(once, twice) {
				t.Fatal("applying", p, "and then", q, "yields", twice, "not", once)
			}
			back, _ := impl.InversePermutation(composed)
			inverseOfQ, _ := impl.InversePermutation(q)
			reversed, _ := impl.ComposePermutations(inverseOfQ, inverse)
			if !slices.Equal(back, reversed) {
				t.Fatal("the inverse of", p, "composed with", q, "is", back)
			}
		}
	}
}

func checkCycles(t *testing.T, p []int, cycles [][]int) {
	t.Helper()
	covered := 0
	for c, cycle := range cycles {
		if len(cycle) == 0 || cycle[0] != slices.Min(cycle) || c > 0 && cycles[c-1][0] >= cycle[0] {
			t.Fatal("the cycles of", p, "are", cycles)
		}
		for i, e := range cycle {
			if p[e] != cycle[(i+1)%len(cycle)] || slices.Index(cycle, e) != i {
				t.Fatal("the cycles of", p, "are", cycles)
			}
		}
		covered += len(cycle)
	}
	if covered != len(p) {
		t.Fatal("the cycles of", p, "are", cycles)
	}
}

func TestPermutationCycles(t *testing.T) {
	for _, c := range []struct {
		p      []int
		cycles [][]int
	}{
		{nil, nil},
		{[]int{0}, [][]int{{0}}},
		{[]int{1, 2, 0, 3}, [][]int{{0, 1, 2}, {3}}},
		{[]int{0, 1, 2}, [][]int{{0}, {1}, {2}}},
		{[]int{2, 0, 1}, [][]int{{0, 2, 1}}},
		{[]int{3, 4, 2, 0, 1}, [][]int{{0, 3}, {1, 4}, {2}}},
		{[]int{0, 4, 3, 2, 5, 1}, [][]int{{0}, {1, 4, 5}, {2, 3}}},
	} {
		cycles, ok := impl.PermutationCycles(c.p)
		if !ok || !sameLists(cycles, c.cycles) {
			t.Error("the cycles of", c.p, "are", cycles, ok)
		}
	}
	for _, p := range somePermutations() {
		cycles, ok := impl.PermutationCycles(p)
		if !ok {
			t.Error("refused", p)
		}
		checkCycles(t, p, cycles)
	}
	if cycles, _ := impl.PermutationCycles(steppedPermutation(impl.MaxList, 1, 1)); len(cycles) != 1 {
		t.Error("the cycle of MaxList elements is", cycles)
	}
	if cycles, _ := impl.PermutationCycles(steppedPermutation(impl.MaxList, 1, 0)); len(cycles) != impl.MaxList {
		t.Error("the MaxList fixed points are", cycles)
	}
	for i, p := range invalidPermutations() {
		if cycles, ok := impl.PermutationCycles(p); ok || len(cycles) != 0 {
			t.Error("invalid permutation", i, "has", len(cycles), "cycles and", ok)
		}
	}
}

// signByInversions is the sign by its definition.
func signByInversions(p []int) int {
	sign := 1
	for i := range p {
		for k := i + 1; k < len(p); k++ {
			if p[i] > p[k] {
				sign = -sign
			}
		}
	}
	return sign
}

func TestPermutationSign(t *testing.T) {
	for _, p := range append(somePermutations(), nil) {
		if sign, ok := impl.PermutationSign(p); !ok || sign != signByInversions(p) {
			t.Error("the sign of", p, "is", sign, ok)
		}
	}
	for _, c := range []struct {
		p    []int
		sign int
	}{{nil, 1}, {[]int{0}, 1}, {[]int{1, 0}, -1}, {[]int{1, 2, 0}, 1}, {[]int{2, 1, 0}, -1}, {[]int{1, 0, 3, 2}, 1}} {
		if sign, ok := impl.PermutationSign(c.p); !ok || sign != c.sign {
			t.Error("the sign of", c.p, "is", sign, ok)
		}
	}
	for i, p := range invalidPermutations() {
		if sign, ok := impl.PermutationSign(p); ok || sign != 0 {
			t.Error("invalid permutation", i, "has the sign", sign, ok)
		}
	}
}

// The sign of a composition is the product of the signs, and an inverse has the same sign.
func TestSignsAgreeWithComposition(t *testing.T) {
	permutations := somePermutations()
	for _, p := range permutations {
		signOfP, _ := impl.PermutationSign(p)
		inverse, _ := impl.InversePermutation(p)
		if sign, _ := impl.PermutationSign(inverse); sign != signOfP {
			t.Error("the inverse of", p, "has the sign", sign)
		}
		for _, q := range permutations {
			if r, ok := impl.ComposePermutations(p, q); ok {
				signOfQ, _ := impl.PermutationSign(q)
				if sign, _ := impl.PermutationSign(r); sign != signOfP*signOfQ {
					t.Fatal("composing", p, "with", q, "has the sign", sign)
				}
			}
		}
	}
}

func checkSortingPermutation(t *testing.T, list []int) {
	t.Helper()
	want := steppedPermutation(len(list), 1, 0)
	slices.SortFunc(want, func(i, k int) int { return cmp.Or(cmp.Compare(list[i], list[k]), cmp.Compare(i, k)) })
	p, ok := impl.SortingPermutation(list)
	if !ok || !slices.Equal(p, want) {
		t.Fatal("the sorting permutation of", list, "is", p, ok)
	}
	applied, ok := impl.ApplyPermutation(p, list)
	if !ok || !slices.IsSorted(applied) {
		t.Fatal("applied to", list, "the sorting permutation yields", applied, ok)
	}
}

func TestSortingPermutation(t *testing.T) {
	if p, ok := impl.SortingPermutation([]int{5, 3, 5, 1}); !ok || !slices.Equal(p, []int{3, 1, 0, 2}) {
		t.Error("the example:", p, ok)
	}
	checkSortingPermutation(t, nil)
	for _, list := range validLists() {
		checkSortingPermutation(t, list)
	}
	for length := range 7 {
		for list := range listsOver([]int{3, -2, 1}, length) {
			checkSortingPermutation(t, list)
		}
	}
	for _, list := range invalidLists() {
		p, ok := impl.SortingPermutation(list)
		checkNone(t, "SortingPermutation", p, ok)
	}
}

// The permutation that sorts a permutation is its inverse.
func TestSortingPermutationOfAPermutation(t *testing.T) {
	for _, p := range somePermutations() {
		sorting, _ := impl.SortingPermutation(p)
		inverse, _ := impl.InversePermutation(p)
		if !slices.Equal(sorting, inverse) {
			t.Error(p, "is sorted by", sorting, "and has the inverse", inverse)
		}
	}
}

// Ranks count the permutations of one length in lexicographic order, and NextPermutation follows it.
func TestRanksAndSuccessors(t *testing.T) {
	for n := range 8 {
		rank := 0
		var previous []int
		for p := range permutationsOf(n) {
			if got, ok := impl.RankPermutation(p); !ok || got != rank {
				t.Fatal("the rank of", p, "is", got, ok)
			}
			if got, ok := impl.UnrankPermutation(n, rank); !ok || !slices.Equal(got, p) {
				t.Fatal("the permutation of", n, "elements with the rank", rank, "is", got, ok)
			}
			if rank > 0 {
				if got, ok := impl.NextPermutation(previous); !ok || !slices.Equal(got, p) {
					t.Fatal("after", previous, "follows", got, ok)
				}
			}
			previous = p
			rank++
		}
		got, ok := impl.NextPermutation(previous)
		checkNone(t, "NextPermutation of the last one", got, ok)
		got, ok = impl.UnrankPermutation(n, rank)
		checkNone(t, "UnrankPermutation of n!", got, ok)
	}
}

func TestRankPermutationLimits(t *testing.T) {
	last := []int{9, 8, 7, 6, 5, 4, 3, 2, 1, 0}
	for _, c := range []struct {
		p    []int
		rank int
	}{
		{nil, 0}, {[]int{}, 0}, {[]int{0}, 0}, {[]int{2, 0, 1}, 4}, {steppedPermutation(10, 1, 0), 0}, {last, 3628799},
		{[]int{1, 0, 2, 3, 4, 5, 6, 7, 8, 9}, 362880}, {[]int{0, 1, 2, 3, 4, 5, 6, 7, 9, 8}, 1},
		{[]int{8, 9, 7, 6, 5, 4, 3, 2, 1, 0}, 9*362880 - 1},
	} {
		if rank, ok := impl.RankPermutation(c.p); !ok || rank != c.rank {
			t.Error("the rank of", c.p, "is", rank, ok)
		}
		if p, ok := impl.UnrankPermutation(len(c.p), c.rank); !ok || !slices.Equal(p, c.p) {
			t.Error("the permutation of", len(c.p), "elements with the rank", c.rank, "is", p, ok)
		}
	}
	refused := append(invalidPermutations(), longPermutations()...)
	refused = append(refused, steppedPermutation(11, 1, 0), steppedPermutation(11, 10, 10))
	for i, p := range refused {
		if rank, ok := impl.RankPermutation(p); ok || rank != 0 {
			t.Error("refused permutation", i, "has the rank", rank, ok)
		}
	}
}

func TestUnrankPermutationLimits(t *testing.T) {
	factorials := []int{1, 1, 2, 6, 24, 120, 720, 5040, 40320, 362880, 3628800}
	for n, factorial := range factorials {
		for _, rank := range []int{0, factorial - 1, factorial / 2, factorial / 3} {
			p, ok := impl.UnrankPermutation(n, rank)
			if back, valid := impl.RankPermutation(p); !ok || !valid || len(p) != n || back != rank {
				t.Error("the permutation of", n, "elements with the rank", rank, "is", p, ok)
			}
		}
		for _, rank := range []int{-1, factorial, factorial + 1, 2 * factorial, math.MinInt, math.MaxInt, -factorial} {
			p, ok := impl.UnrankPermutation(n, rank)
			checkNone(t, "a rank out of range", p, ok)
		}
	}
	for _, n := range []int{-1, -2, 11, 12, 64, 1 << 40, math.MinInt, math.MaxInt} {
		for _, rank := range []int{0, 1, -1, math.MaxInt, math.MinInt} {
			p, ok := impl.UnrankPermutation(n, rank)
			checkNone(t, "a length out of range", p, ok)
		}
	}
}

func TestNextPermutation(t *testing.T) {
	n := impl.MaxList
	last := steppedPermutation(n, n-1, n-1)
	almost := slices.Clone(last)
	almost[n-1], almost[n-2] = almost[n-2], almost[n-1]
	halfway := append([]int{0}, last[:n-1]...)
	afterHalfway := append([]int{1, 0}, steppedPermutation(n, 1, 0)[2:]...)
	second := steppedPermutation(n, 1, 0)
	second[n-1], second[n-2] = n-2, n-1
	for _, c := range []struct{ p, next []int }{
		{[]int{0, 1}, []int{1, 0}}, {[]int{0, 3, 2, 1}, []int{1, 0, 2, 3}}, {[]int{1, 3, 2, 0}, []int{2, 0, 1, 3}},
		{steppedPermutation(n, 1, 0), second}, {almost, last}, {halfway, afterHalfway},
	} {
		if next, ok := impl.NextPermutation(c.p); !ok || !slices.Equal(next, c.next) {
			t.Error("after", c.p, "follows", next, ok)
		}
	}
	for _, p := range append(invalidPermutations(), nil, []int{}, []int{0}, []int{1, 0}, []int{2, 1, 0}, last) {
		next, ok := impl.NextPermutation(p)
		checkNone(t, "NextPermutation", next, ok)
	}
}

// Every function from a permutation to a list returns new memory, and changes neither the
// permutation nor what lies beyond it.
func TestPermutationFunctionsLeaveTheirArguments(t *testing.T) {
	functions := []func(p []int) ([]int, bool){
		impl.InversePermutation, impl.SortingPermutation, impl.NextPermutation,
		func(p []int) ([]int, bool) { return impl.ComposePermutations(p, p) },
		func(p []int) ([]int, bool) { return impl.ApplyPermutation(p, p) },
		func(p []int) ([]int, bool) { return impl.ComposePermutations(p, steppedPermutation(len(p), 1, 0)) },
		func(p []int) ([]int, bool) { return impl.ComposePermutations(steppedPermutation(len(p), 1, 0), p) },
		func(p []int) ([]int, bool) { return impl.ApplyPermutation(steppedPermutation(len(p), 1, 0), p) },
		func(p []int) ([]int, bool) {
			cycles, ok := impl.PermutationCycles(p)
			for _, cycle := range cycles {
				overwrite(cycle)
			}
			return nil, ok
		},
		func(p []int) ([]int, bool) { _, ok := impl.PermutationSign(p); return nil, ok },
		func(p []int) ([]int, bool) { _, ok := impl.RankPermutation(p); return nil, ok },
		func(p []int) ([]int, bool) { return nil, impl.IsValidPermutation(p) },
	}
	for _, original := range append(somePermutations(), invalidPermutations()...) {
		for i, function := range functions {
			p := withSpare(original)
			result, _ := function(p)
			overwrite(result)
			if !isUntouched(p, original) {
				t.Fatal("function", i, "changed its argument of", len(p), "elements, or shares its memory")
			}
		}
	}
}

func TestResultsOfPermutationsShareNoMemory(t *testing.T) {
	p := []int{1, 2, 0, 4, 3, 5}
	cycles, _ := impl.PermutationCycles(p)
	checkSeparate(t, "cycle", cycles)
	first, _ := impl.UnrankPermutation(4, 7)
	overwrite(first)
	if again, _ := impl.UnrankPermutation(4, 7); !slices.Equal(again, []int{1, 0, 3, 2}) {
		t.Error("a changed result changes the next one:", again)
	}
}
