package tests

import (
	"math"
	"slices"
	"testing"

	"loop.example/g00907/impl"
)

// tableModel finds every element of p among those that are left, which ascend.
func tableModel(p []int) []int {
	rest := sortedOf(p)
	table := []int{}
	for _, e := range p {
		at := slices.Index(rest, e)
		table = append(table, at)
		rest = slices.Delete(rest, at, at+1)
	}
	return table
}

// isTableModel reports whether every entry is at most the number of the entries after it.
func isTableModel(table []int) bool {
	for i, entry := range table {
		if entry < 0 || entry > len(table[i+1:]) {
			return false
		}
	}
	return len(table) <= impl.MaxList
}

// permutationModel puts one element after the other before those that it has, from the last one on,
// and raises the ones that are not less than the new one.
func permutationModel(table []int) []int {
	p := []int{}
	for _, entry := range slices.Backward(table) {
		for i := range p {
			if p[i] >= entry {
				p[i]++
			}
		}
		p = slices.Insert(p, 0, entry)
	}
	return p
}

// longTables are the inversion tables of permutations of MaxList elements.
func longTables() [][]int {
	var tables [][]int
	for _, p := range longPermutations() {
		tables = append(tables, tableModel(p))
	}
	return tables
}

// kendallModel counts the inversions of q in the order of p.
func kendallModel(p, q []int) int {
	ordered := make([]int, len(p))
	for i, e := range p {
		ordered[e] = q[i]
	}
	return inversionsOf(ordered)
}

func footruleModel(p, q []int) int {
	sum := 0
	for i := range p {
		sum += max(p[i], q[i]) - min(p[i], q[i])
	}
	return sum
}

// isPreferred reports whether a is longer than b, or as long and lexicographically smaller.
func isPreferred(a, b []int) bool {
	return len(a) > len(b) || len(a) == len(b) && slices.Compare(a, b) < 0
}

// longestEnds returns, for every index of list, the preferred one of the lists of indices that end
// there and whose elements increase strictly.
func longestEnds(list []int) [][]int {
	ends := make([][]int, len(list))
	for i, e := range list {
		for k := range i {
			if list[k] < e && isPreferred(ends[k], ends[i]) {
				ends[i] = ends[k]
			}
		}
		ends[i] = append(slices.Clone(ends[i]), i)
	}
	return ends
}

func longestModel(list []int) []int {
	longest := []int{}
	for _, indices := range longestEnds(list) {
		if isPreferred(indices, longest) {
			longest = indices
		}
	}
	return longest
}

// longestByTrial tries every subsequence of list.
func longestByTrial(list []int) []int {
	longest := []int{}
	for code := range 1 << len(list) {
		indices := []int{}
		for i := range list {
			if code>>i%2 == 1 {
				indices = append(indices, i)
			}
		}
		if isPreferred(indices, longest) && increases(list, indices) {
			longest = indices
		}
	}
	return longest
}

// increases reports whether the elements of list at the indices increase strictly.
func increases(list, indices []int) bool {
	for n := 1; n < len(indices); n++ {
		if list[indices[n-1]] >= list[indices[n]] {
			return false
		}
	}
	return true
}

// pilesModel puts every element on the pile whose number is the length of a longest increasing
// subsequence that ends with it.
func pilesModel(list []int) [][]int {
	var piles [][]int
	for i, indices := range longestEnds(list) {
		at := len(indices) - 1
		if at == len(piles) {
			piles = append(piles, nil)
		}
		piles[at] = append(piles[at], list[i])
	}
	return piles
}

func descentsModel(list []int) []int {
	indices := []int{}
	for i, descends := range descentsOf(list) {
		if descends {
			indices = append(indices, i)
		}
	}
	return indices
}

// majorModel counts, for every index, the descents from there on.
func majorModel(list []int) int {
	sum, descents := 0, 0
	for _, descends := range slices.Backward(descentsOf(list)) {
		if descends {
			descents++
		}
		sum += descents
	}
	return sum
}

// inversionSamples are selectSamples, and lists of every length without an order.
func inversionSamples() [][]int {
	lists := append(selectSamples(), []int{5, 1, 2, 2, 7}, []int{3, 1, 2, 0}, []int{5, 1, 2})
	for n := range impl.MaxList + 1 {
		lists = append(lists, mixedList(n))
	}
	return lists
}

// checkPiles checks that PatiencePiles has returned the piles and true.
func checkPiles(t *testing.T, piles [][]int, ok bool, want [][]int) {
	t.Helper()
	if !ok || !sameLists(piles, want) {
		t.Error("PatiencePiles returned", piles, ok, "instead of", want)
	}
}

// checkInversionFunctions checks what every function of a list returns for this one.
func checkInversionFunctions(t *testing.T, list []int) {
	t.Helper()
	n, ok := impl.CountInversions(list)
	checkNumbers(t, "CountInversions", []int{n}, ok, inversionsOf(list))
	indices, ok := impl.LongestIncreasing(list)
	checkPartition(t, "LongestIncreasing", indices, nil, ok, longestModel(list))
	piles, ok := impl.PatiencePiles(list)
	checkPiles(t, piles, ok, pilesModel(list))
	if len(piles) != len(indices) {
		t.Error("there are", len(piles), "piles and", len(indices), "indices")
	}
	descents, ok := impl.Descents(list)
	checkPartition(t, "Descents", descents, nil, ok, descentsModel(list))
	major, ok := impl.MajorIndex(list)
	checkNumbers(t, "MajorIndex", []int{major}, ok, majorModel(list))
	if t.Failed() {
		t.Fatal("the list is", list)
	}
}

// checkDistances checks the distances of p and q, and their bounds.
func checkDistances(t *testing.T, p, q []int) {
	t.Helper()
	kendall, ok := impl.KendallDistance(p, q)
	checkNumbers(t, "KendallDistance", []int{kendall}, ok, kendallModel(p, q))
	footrule, ok := impl.SpearmanFootrule(p, q)
	checkNumbers(t, "SpearmanFootrule", []int{footrule}, ok, footruleModel(p, q))
	if footrule < kendall || footrule > 2*kendall {
		t.Error("the footrule is", footrule, "and the Kendall distance", kendall)
	}
	if t.Failed() {
		t.Fatal("the permutations are", p, q)
	}
}

// checkNoDistances checks that p and q have no distances.
func checkNoDistances(t *testing.T, p, q []int) {
	t.Helper()
	kendall, ok := impl.KendallDistance(p, q)
	checkNone(t, "KendallDistance", nil, ok)
	footrule, ok := impl.SpearmanFootrule(p, q)
	checkNone(t, "SpearmanFootrule", nil, ok)
	checkZeros(t, "KendallDistance or SpearmanFootrule", kendall, footrule)
	if t.Failed() {
		t.Fatal("there are", len(p), "and", len(q), "elements, the first of them", p[:min(len(p), 8)], q[:min(len(q), 8)])
	}
}

func TestInversionExamples(t *testing.T) {
	n, ok := impl.CountInversions([]int{3, 1, 2})
	checkNumbers(t, "CountInversions", []int{n}, ok, 2)
	list, ok := impl.InversionTable([]int{2, 0, 1})
	checkPartition(t, "InversionTable", list, nil, ok, []int{2, 0, 0})
	list, ok = impl.FromInversionTable([]int{2, 0, 0})
	checkPartition(t, "FromInversionTable", list, nil, ok, []int{2, 0, 1})
	list, ok = impl.FromInversionTable([]int{1, 1})
	checkNone(t, "FromInversionTable", list, ok)
	n, ok = impl.KendallDistance([]int{0, 1, 2}, []int{2, 1, 0})
	checkNumbers(t, "KendallDistance", []int{n}, ok, 3)
	n, ok = impl.SpearmanFootrule([]int{0, 1, 2}, []int{2, 1, 0})
	checkNumbers(t, "SpearmanFootrule", []int{n}, ok, 4)
	list, ok = impl.LongestIncreasing([]int{5, 1, 2, 2, 7})
	checkPartition(t, "LongestIncreasing", list, nil, ok, []int{1, 2, 4})
	piles, ok := impl.PatiencePiles([]int{5, 1, 2})
	checkPiles(t, piles, ok, [][]int{{5, 1}, {2}})
	list, ok = impl.Descents([]int{3, 1, 2, 0})
	checkPartition(t, "Descents", list, nil, ok, []int{0, 2})
	n, ok = impl.MajorIndex([]int{3, 1, 2, 0})
	checkNumbers(t, "MajorIndex", []int{n}, ok, 4)
}

func TestCountInversionsOfNamedLists(t *testing.T) {
	n := impl.MaxList
	most := n * (n - 1) / 2
	for _, c := range []struct {
		list       []int
		inversions int
	}{
		{nil, 0}, {[]int{}, 0}, {[]int{4}, 0}, {[]int{1, 2}, 0}, {[]int{2, 1}, 1},
		// Equal elements are no inversion, next to each other or apart.
		{[]int{7, 7}, 0}, {[]int{7, 7, 7, 7}, 0}, {[]int{7, 1, 7}, 1}, {[]int{1, 7, 1}, 1}, {[]int{2, 2, 1, 1}, 4}, {[]int{1, 1, 2, 2}, 0}, {[]int{2, 1, 2, 1}, 3},
		{[]int{1, 2, 3}, 0}, {[]int{3, 2, 1}, 3}, {[]int{2, 3, 1}, 2}, {[]int{2, 1, 3}, 1}, {[]int{1, 3, 2}, 1},
		{[]int{impl.MaxKey, -impl.MaxKey}, 1}, {[]int{-impl.MaxKey, impl.MaxKey}, 0}, {[]int{impl.MaxKey, 0, -impl.MaxKey}, 3},
		{steppedList(n, 0, 1), 0}, {steppedList(n, 0, -1), most}, {steppedList(n, 7, 0), 0}, {steppedPermutation(n, 1, 1), n - 1}, {steppedPermutation(n, 1, n-1), n - 1},
	} {
		inversions, ok := impl.CountInversions(c.list)
		checkNumbers(t, "CountInversions", []int{inversions}, ok, c.inversions)
	}
}

func TestInversionFunctionsOfManyLists(t *testing.T) {
	for _, list := range inversionSamples() {
		checkInversionFunctions(t, list)
	}
}

// Bubble sort swaps every inversion once.
func TestInversionsAgreeWithSwapsAndSigns(t *testing.T) {
	for _, list := range inversionSamples() {
		inversions, _ := impl.CountInversions(list)
		if _, _, swaps, ok := impl.BubblePasses(list); !ok || swaps != inversions {
			t.Fatal("BubblePasses of", list, "has", swaps, "swaps for", inversions, "inversions")
		}
		if sign, ok := impl.PermutationSign(list); ok && sign != 1-inversions%2*2 {
			t.Fatal("the sign of", list, "is", sign, "and the inversions are", inversions)
		}
	}
}

func TestInversionTableOfNamedPermutations(t *testing.T) {
	n := impl.MaxList
	rotated := steppedList(n, 1, 0)
	rotated[n-1] = 0
	for _, c := range []struct{ p, table []int }{
		{nil, nil}, {[]int{}, nil}, {[]int{0}, []int{0}}, {[]int{0, 1}, []int{0, 0}}, {[]int{1, 0}, []int{1, 0}},
		{[]int{0, 2, 1}, []int{0, 1, 0}}, {[]int{1, 0, 2}, []int{1, 0, 0}}, {[]int{1, 2, 0}, []int{1, 1, 0}}, {[]int{2, 1, 0}, []int{2, 1, 0}}, {[]int{3, 0, 2, 1}, []int{3, 0, 1, 0}},
		{steppedPermutation(n, 1, 0), make([]int, n)}, {steppedPermutation(n, n-1, n-1), steppedList(n, n-1, -1)},
		{steppedPermutation(n, 1, 1), rotated}, {steppedPermutation(n, 1, n-1), append([]int{n - 1}, make([]int, n-1)...)},
	} {
		table, ok := impl.InversionTable(c.p)
		checkPartition(t, "InversionTable", table, nil, ok, c.table)
		p, ok := impl.FromInversionTable(c.table)
		checkPartition(t, "FromInversionTable", p, nil, ok, c.p)
	}
}

func TestInversionTablesAreInvertible(t *testing.T) {
	for _, p := range somePermutations() {
		table, ok := impl.InversionTable(p)
		checkPartition(t, "InversionTable", table, nil, ok, tableModel(p))
		back, ok := impl.FromInversionTable(table)
		checkPartition(t, "FromInversionTable", back, nil, ok, p)
		inversions, ok := impl.CountInversions(p)
		checkNumbers(t, "CountInversions", []int{inversions}, ok, totalOf(table))
		if t.Failed() {
			t.Fatal("the permutation is", p)
		}
	}
}

// checkTable checks what FromInversionTable returns for any list.
func checkTable(t *testing.T, table []int) {
	t.Helper()
	p, ok := impl.FromInversionTable(table)
	if !isTableModel(table) {
		checkNone(t, "FromInversionTable", p, ok)
	} else {
		checkPartition(t, "FromInversionTable", p, nil, ok, permutationModel(table))
		back, ok := impl.InversionTable(p)
		checkPartition(t, "InversionTable", back, nil, ok, table)
	}
	if t.Failed() {
		t.Fatal("the table has", len(table), "entries, the first of them", table[:min(len(table), impl.MaxList+1)])
	}
}

// Every list over -1..n of length n is tried; n! of them are tables.
func TestFromInversionTableOfAllShortLists(t *testing.T) {
	factorial := 1
	for n := range 6 {
		factorial *= max(1, n)
		tables := 0
		for table := range listsOver(steppedList(n+2, -1, 1), n) {
			checkTable(t, table)
			if _, ok := impl.FromInversionTable(table); ok {
				tables++
			}
		}
		if tables != factorial {
			t.Error("there are", tables, "tables of", n, "entries")
		}
	}
}

// One entry is out of range, at every index of tables of every length, or the greatest possible.
func TestFromInversionTableOfOneChangedEntry(t *testing.T) {
	for n := 1; n <= impl.MaxList; n++ {
		for _, original := range [][]int{steppedList(n, 0, 0), steppedList(n, n-1, -1), tableModel(steppedPermutation(n, n-1, n/2))} {
			checkTable(t, original)
			for i := range n {
				for _, entry := range []int{n - 1 - i, n - i, n - i + 1, n, -1, -n, impl.MaxList, math.MinInt, math.MaxInt, 1 << 32, -1 << 32, 1 << 8} {
					table := slices.Clone(original)
					table[i] = entry
					checkTable(t, table)
				}
			}
		}
	}
}

func TestFromInversionTableOfTooManyEntries(t *testing.T) {
	for _, length := range []int{impl.MaxList + 1, impl.MaxList + 2, 2 * impl.MaxList, 1 << 20} {
		checkTable(t, make([]int, length))
		checkTable(t, steppedList(length, length-1, -1))
	}
	for _, table := range longTables() {
		checkTable(t, table)
		checkTable(t, append([]int{0}, table...))
		checkTable(t, append(slices.Clone(table), 0))
	}
}

func TestInversionTableOfListsThatAreNoPermutations(t *testing.T) {
	for _, p := range invalidPermutations() {
		table, ok := impl.InversionTable(p)
		checkNone(t, "InversionTable", table, ok)
	}
	// Lists that are valid, and whose elements only are not 0..n-1.
	for _, p := range [][]int{{5, 1, 2}, {-1, 0, 1}, {1, 2, 3}, {2, 2}, {impl.MaxKey, -impl.MaxKey}} {
		table, ok := impl.InversionTable(p)
		checkNone(t, "InversionTable", table, ok)
	}
}

func TestDistancesOfNamedPermutations(t *testing.T) {
	n := impl.MaxList
	identity, reversed := steppedPermutation(n, 1, 0), steppedPermutation(n, n-1, n-1)
	ends := slices.Clone(identity)
	ends[0], ends[n-1] = n-1, 0
	for _, c := range []struct {
		p, q              []int
		kendall, footrule int
	}{
		{nil, nil, 0, 0}, {nil, []int{}, 0, 0}, {[]int{0}, []int{0}, 0, 0}, {[]int{0, 1}, []int{1, 0}, 1, 2}, {[]int{1, 0}, []int{1, 0}, 0, 0},
		{[]int{1, 0, 2}, []int{0, 1, 2}, 1, 2}, {[]int{1, 2, 0}, []int{0, 1, 2}, 2, 4}, {[]int{2, 0, 1}, []int{1, 2, 0}, 2, 4},
		{[]int{2, 1, 0}, []int{1, 2, 0}, 1, 2}, {[]int{0, 2, 1}, []int{2, 0, 1}, 3, 4},
		// Two indices are ordered differently where their two elements are not next to each other.
		{[]int{0, 1, 2, 3}, []int{3, 1, 2, 0}, 5, 6}, {[]int{0, 2, 1, 3}, []int{3, 2, 1, 0}, 5, 6}, {[]int{0, 1, 2, 3}, []int{2, 3, 0, 1}, 4, 8},
		{identity, identity, 0, 0}, {reversed, reversed, 0, 0}, {identity, reversed, n * (n - 1) / 2, n * n / 2}, {identity, ends, 2*n - 3, 2*n - 2},
		{identity, steppedPermutation(n, 1, 1), n - 1, 2*n - 2}, {steppedPermutation(n, 1, n/2), identity, n * n / 4, n * n / 2},
	} {
		kendall, ok := impl.KendallDistance(c.p, c.q)
		checkNumbers(t, "KendallDistance", []int{kendall}, ok, c.kendall)
		footrule, ok := impl.SpearmanFootrule(c.p, c.q)
		checkNumbers(t, "SpearmanFootrule", []int{footrule}, ok, c.footrule)
		if t.Failed() {
			t.Fatal("the permutations are", c.p, c.q)
		}
	}
}

func TestDistancesOfAllPairs(t *testing.T) {
	permutations := somePermutations()
	for _, p := range permutations {
		for _, q := range permutations {
			if len(p) == len(q) {
				checkDistances(t, p, q)
			} else {
				checkNoDistances(t, p, q)
			}
		}
	}
}

// checkMetric checks that the distance is a metric on the permutations, which have one length.
func checkMetric(t *testing.T, distance func(p, q []int) (int, bool), permutations [][]int) {
	t.Helper()
	of := func(p, q []int) int {
		d, ok := distance(p, q)
		if !ok {
			t.Fatal("there is no distance of", p, q)
		}
		return d
	}
	for _, p := range permutations {
		for _, q := range permutations {
			d := of(p, q)
			if d < 0 || (d == 0) != slices.Equal(p, q) || d != of(q, p) {
				t.Fatal("the distances of", p, q, "are", d, of(q, p))
			}
			for _, r := range permutations {
				if of(p, r) > d+of(q, r) {
					t.Fatal("the distance of", p, r, "is", of(p, r), "and more than that by", q)
				}
			}
		}
	}
}

func TestDistancesAreMetrics(t *testing.T) {
	lists := [][][]int{longPermutations()}
	for n := range 5 {
		lists = append(lists, slices.Collect(permutationsOf(n)))
	}
	for _, permutations := range lists {
		checkMetric(t, impl.KendallDistance, permutations)
		checkMetric(t, impl.SpearmanFootrule, permutations)
	}
}

// The distance from the identity is the number of inversions, and to rename the indices changes none.
func TestDistancesAgreeWithInversions(t *testing.T) {
	for _, p := range somePermutations() {
		n := len(p)
		inversions, _ := impl.CountInversions(p)
		kendall, ok := impl.KendallDistance(steppedPermutation(n, 1, 0), p)
		checkNumbers(t, "KendallDistance", []int{kendall}, ok, inversions)
		if n == 0 {
			continue
		}
		renamed := steppedPermutation(n, 1, n/2)
		q := steppedPermutation(n, n-1, n/3)
		first, _ := impl.ComposePermutations(p, renamed)
		second, _ := impl.ComposePermutations(q, renamed)
		kendall, ok = impl.KendallDistance(first, second)
		checkNumbers(t, "KendallDistance", []int{kendall}, ok, kendallModel(p, q))
		footrule, ok := impl.SpearmanFootrule(first, second)
		checkNumbers(t, "SpearmanFootrule", []int{footrule}, ok, footruleModel(p, q))
		if t.Failed() {
			t.Fatal("the permutation is", p)
		}
	}
}

func TestDistancesOfDifferentLengths(t *testing.T) {
	for n := range impl.MaxList + 1 {
		p := steppedPermutation(n, 1, 0)
		for _, length := range []int{n - 1, n + 1, 0, 1, impl.MaxList, impl.MaxList + 1} {
			if length < 0 || length == n {
				continue
			}
			q := steppedPermutation(length, 1, 0)
			checkNoDistances(t, p, q)
			checkNoDistances(t, q, p)
		}
		// The element that is missing is there, but does not belong to the list.
		if n > 0 {
			checkNoDistances(t, p[:n-1], p)
			checkNoDistances(t, p, p[:n-1])
		}
	}
}

func TestDistancesOfListsThatAreNoPermutations(t *testing.T) {
	refused := append(invalidPermutations(), []int{5, 1, 2}, []int{-1, 0, 1}, []int{impl.MaxKey, -impl.MaxKey})
	for n := 2; n <= impl.MaxList; n++ {
		for i := range n {
			p := steppedPermutation(n, 1, 0)
			p[i] = []int{n, -1, p[(i+1)%n]}[i%3]
			refused = append(refused, p)
		}
	}
	for _, p := range refused {
		valid := steppedPermutation(len(p), 1, 0)
		checkNoDistances(t, p, p)
		checkNoDistances(t, p, valid)
		checkNoDistances(t, valid, p)
		checkNoDistances(t, p, nil)
		checkNoDistances(t, nil, p)
	}
}

func TestLongestIncreasingOfNamedLists(t *testing.T) {
	n := impl.MaxList
	pairs, peaks := steppedPermutation(n, 1, 0), make([]int, n)
	for i := range n {
		pairs[i] = i ^ 1
		peaks[i] = i/2 + i%2*100
	}
	for _, c := range []struct{ list, indices []int }{
		{nil, nil}, {[]int{}, nil}, {[]int{4}, []int{0}}, {[]int{-impl.MaxKey}, []int{0}}, {[]int{impl.MaxKey}, []int{0}},
		{[]int{1, 2}, []int{0, 1}}, {[]int{2, 1}, []int{0}}, {[]int{1, 2, 3}, []int{0, 1, 2}}, {[]int{3, 2, 1}, []int{0}},
		// Equal elements do not increase, next to each other or apart, and the first of them is taken.
		{[]int{7, 7}, []int{0}}, {[]int{7, 7, 7}, []int{0}}, {[]int{1, 1, 2, 2}, []int{0, 2}}, {[]int{1, 2, 1, 2}, []int{0, 1}}, {[]int{2, 1, 2}, []int{1, 2}}, {[]int{1, 2, 2, 3, 3}, []int{0, 1, 3}},
		// There are several longest ones, which differ in the first index, in the last one or between.
		{[]int{2, 1, 3}, []int{0, 2}}, {[]int{1, 3, 2}, []int{0, 1}}, {[]int{3, 4, 1, 2}, []int{0, 1}}, {[]int{1, 3, 2, 4}, []int{0, 1, 3}}, {[]int{2, 4, 1, 3, 3}, []int{0, 1}},
		{[]int{2, 5, 1, 4, 3, 6}, []int{0, 1, 5}}, {[]int{5, 6, 1, 2, 7, 3}, []int{0, 1, 4}},
		// The first indices that increase are not part of a longest one.
		{[]int{5, 1, 2}, []int{1, 2}}, {[]int{1, 9, 2, 3}, []int{0, 2, 3}}, {[]int{5, 6, 1, 2, 3}, []int{2, 3, 4}}, {[]int{1, 5, 6, 2, 3, 4}, []int{0, 3, 4, 5}}, {[]int{3, 9, 1, 2, 4}, []int{2, 3, 4}},
		// Elements between those that are taken are less than these, or too great.
		{[]int{4, 5, 1, 2, 6, 3}, []int{0, 1, 4}}, {[]int{5, 2, 8, 1, 6, 7}, []int{0, 4, 5}}, {[]int{3, 1, 4, 1, 5, 9, 2, 6}, []int{0, 2, 4, 5}},
		{[]int{-impl.MaxKey, impl.MaxKey}, []int{0, 1}}, {[]int{impl.MaxKey, -impl.MaxKey, 0}, []int{1, 2}}, {[]int{-impl.MaxKey, -impl.MaxKey, impl.MaxKey}, []int{0, 2}},
		{steppedList(n, 0, 1), steppedList(n, 0, 1)}, {steppedList(n, 0, -1), []int{0}}, {steppedList(n, 7, 0), []int{0}},
		{steppedPermutation(n, 1, 1), steppedList(n-1, 0, 1)}, {steppedPermutation(n, 1, n-1), steppedList(n-1, 1, 1)},
		{pairs, steppedList(n/2, 0, 2)}, {peaks, append([]int{0}, steppedList(n/2, 1, 2)...)},
	} {
		indices, ok := impl.LongestIncreasing(c.list)
		checkPartition(t, "LongestIncreasing", indices, nil, ok, c.indices)
		if t.Failed() {
			t.Fatal("the list is", c.list)
		}
	}
}

func TestLongestIncreasingOfShortListsByTrial(t *testing.T) {
	for n := range 7 {
		for list := range listsOver([]int{0, 1, 2, 3}, n) {
			indices, ok := impl.LongestIncreasing(list)
			checkPartition(t, "LongestIncreasing", indices, nil, ok, longestByTrial(list))
		}
		for p := range permutationsOf(n) {
			indices, ok := impl.LongestIncreasing(p)
			checkPartition(t, "LongestIncreasing", indices, nil, ok, longestByTrial(p))
		}
	}
}

func TestPatiencePilesOfNamedLists(t *testing.T) {
	n := impl.MaxList
	singles := [][]int{}
	for i := range n {
		singles = append(singles, []int{i})
	}
	for _, c := range []struct {
		list  []int
		piles [][]int
	}{
		{nil, nil}, {[]int{}, nil}, {[]int{4}, [][]int{{4}}}, {[]int{1, 2}, [][]int{{1}, {2}}}, {[]int{2, 1}, [][]int{{2, 1}}},
		// An element that equals a top is put on it, and on the first one of those that are not less.
		{[]int{7, 7}, [][]int{{7, 7}}}, {[]int{7, 7, 7}, [][]int{{7, 7, 7}}}, {[]int{1, 2, 1}, [][]int{{1, 1}, {2}}}, {[]int{1, 2, 2}, [][]int{{1}, {2, 2}}}, {[]int{2, 1, 2, 1}, [][]int{{2, 1, 1}, {2}}},
		{[]int{1, 3, 3, 2, 3}, [][]int{{1}, {3, 3, 2}, {3}}}, {[]int{2, 4, 6, 3}, [][]int{{2}, {4, 3}, {6}}}, {[]int{2, 4, 6, 4, 6, 2, 1, 5}, [][]int{{2, 2, 1}, {4, 4}, {6, 6, 5}}},
		{[]int{2, 4, 6, 7}, [][]int{{2}, {4}, {6}, {7}}}, {[]int{2, 4, 6, 0}, [][]int{{2, 0}, {4}, {6}}},
		{[]int{5, 1, 2, 2, 7}, [][]int{{5, 1}, {2, 2}, {7}}}, {[]int{3, 1, 4, 1, 5, 9, 2, 6}, [][]int{{3, 1, 1}, {4, 2}, {5}, {9, 6}}},
		{[]int{impl.MaxKey, -impl.MaxKey, impl.MaxKey}, [][]int{{impl.MaxKey, -impl.MaxKey}, {impl.MaxKey}}}, {[]int{-impl.MaxKey, -impl.MaxKey}, [][]int{{-impl.MaxKey, -impl.MaxKey}}},
		{steppedList(n, 0, 1), singles}, {steppedList(n, n, -1), [][]int{steppedList(n, n, -1)}}, {steppedList(n, 7, 0), [][]int{steppedList(n, 7, 0)}},
	} {
		piles, ok := impl.PatiencePiles(c.list)
		checkPiles(t, piles, ok, c.piles)
		if t.Failed() {
			t.Fatal("the list is", c.list)
		}
	}
}

func TestDescentsAndMajorIndexOfNamedLists(t *testing.T) {
	n := impl.MaxList
	for _, c := range []struct {
		list, descents []int
		major          int
	}{
		{nil, nil, 0}, {[]int{}, nil, 0}, {[]int{4}, nil, 0}, {[]int{1, 2}, nil, 0}, {[]int{2, 1}, []int{0}, 1},
		// Equal elements are no descent, next to each other or apart.
		{[]int{7, 7}, nil, 0}, {[]int{7, 7, 7}, nil, 0}, {[]int{1, 2, 1}, []int{1}, 2}, {[]int{2, 1, 2}, []int{0}, 1}, {[]int{2, 2, 1, 1}, []int{1}, 2}, {[]int{3, 3, 1, 3, 3}, []int{1}, 2},
		// The first pair, the last one, both and all.
		{[]int{2, 1, 3, 4}, []int{0}, 1}, {[]int{1, 2, 4, 3}, []int{2}, 3}, {[]int{2, 1, 4, 3}, []int{0, 2}, 4}, {[]int{4, 3, 2, 1}, []int{0, 1, 2}, 6}, {[]int{1, 3, 2, 4}, []int{1}, 2},
		{[]int{impl.MaxKey, -impl.MaxKey}, []int{0}, 1}, {[]int{-impl.MaxKey, impl.MaxKey}, nil, 0}, {[]int{1, 0, -1}, []int{0, 1}, 3},
		{steppedList(n, 0, 1), nil, 0}, {steppedList(n, 7, 0), nil, 0}, {steppedList(n, 0, -1), steppedList(n-1, 0, 1), n * (n - 1) / 2},
		{steppedPermutation(n, 1, 1), []int{n - 2}, n - 1}, {steppedPermutation(n, 1, n-1), []int{0}, 1},
	} {
		descents, ok := impl.Descents(c.list)
		checkPartition(t, "Descents", descents, nil, ok, c.descents)
		major, ok := impl.MajorIndex(c.list)
		checkNumbers(t, "MajorIndex", []int{major}, ok, c.major)
		if t.Failed() {
			t.Fatal("the list is", c.list)
		}
	}
}

// There are as many permutations with a major index as with a number of inversions.
func TestMajorIndicesAreDistributedAsInversions(t *testing.T) {
	for n := range 8 {
		var difference [22]int
		for p := range permutationsOf(n) {
			major, _ := impl.MajorIndex(p)
			inversions, _ := impl.CountInversions(p)
			difference[major]++
			difference[inversions]--
		}
		if difference != [22]int{} {
			t.Error("of", n, "elements the differences are", difference)
		}
	}
}

// checkNoInversions checks that every function of a list refuses this one.
func checkNoInversions(t *testing.T, list []int) {
	t.Helper()
	inversions, ok := impl.CountInversions(list)
	checkNone(t, "CountInversions", nil, ok)
	table, ok := impl.InversionTable(list)
	checkNone(t, "InversionTable", table, ok)
	indices, ok := impl.LongestIncreasing(list)
	checkNone(t, "LongestIncreasing", indices, ok)
	piles, ok := impl.PatiencePiles(list)
	checkNone(t, "PatiencePiles", make([]int, len(piles)), ok)
	descents, ok := impl.Descents(list)
	checkNone(t, "Descents", descents, ok)
	major, ok := impl.MajorIndex(list)
	checkNone(t, "MajorIndex", nil, ok)
	checkZeros(t, "CountInversions or MajorIndex", inversions, major)
	checkNoDistances(t, list, list)
	if t.Failed() {
		t.Fatal("the list has", len(list), "elements, the first of them", list[:min(len(list), impl.MaxList+1)])
	}
}

func TestInversionFunctionsOfInvalidLists(t *testing.T) {
	for _, list := range invalidLists() {
		checkNoInversions(t, list)
	}
	checkNoInversions(t, steppedPermutation(impl.MaxList+1, 1, 0))
	checkNoInversions(t, steppedList(impl.MaxList+1, impl.MaxList, -1))
	// One element is out of range, at every index.
	for n := 1; n <= impl.MaxList; n++ {
		for i := range n {
			for _, e := range []int{impl.MaxKey + 1, -impl.MaxKey - 1, math.MaxInt, math.MinInt} {
				list := steppedList(n, n, -1)
				list[i] = e
				checkNoInversions(t, list)
			}
		}
	}
}

// inversionFunctions are the functions of the chapter. Results that are numbers are made into a list.
func inversionFunctions() []func(list []int) []int {
	functions := []func(list []int) []int{
		func(list []int) []int { n, _ := impl.CountInversions(list); return []int{n} },
		func(p []int) []int { table, _ := impl.InversionTable(p); return table },
		func(table []int) []int { p, _ := impl.FromInversionTable(table); return p },
		func(list []int) []int { indices, _ := impl.LongestIncreasing(list); return indices },
		func(list []int) []int {
			piles, _ := impl.PatiencePiles(list)
			dealt := slices.Concat(piles...)
			for _, pile := range piles {
				overwrite(pile)
			}
			return dealt
		},
		func(list []int) []int { descents, _ := impl.Descents(list); return descents },
		func(list []int) []int { major, _ := impl.MajorIndex(list); return []int{major} },
	}
	for _, distance := range []func(p, q []int) (int, bool){impl.KendallDistance, impl.SpearmanFootrule} {
		functions = append(functions,
			func(p []int) []int { d, _ := distance(p, p); return []int{d} },
			func(p []int) []int { d, _ := distance(p, steppedPermutation(len(p), 1, 0)); return []int{d} },
			func(q []int) []int { d, _ := distance(steppedPermutation(len(q), 1, 0), q); return []int{d} },
		)
	}
	return functions
}

// inversionArguments are lists, permutations and tables that are valid, and others.
func inversionArguments() [][]int {
	return slices.Concat(inversionSamples(), somePermutations(), longTables(), invalidLists(), invalidPermutations())
}

func TestInversionFunctionsLeaveTheirArguments(t *testing.T) {
	checkLeavesLists(t, inversionFunctions(), inversionArguments())
}

// Elements beyond the length count nowhere, and every call returns new memory.
func TestInversionFunctionsReadAndKeepNothingElse(t *testing.T) {
	checkKeepsNothing(t, inversionFunctions(), inversionArguments())
}

func TestPilesShareNoMemory(t *testing.T) {
	for _, list := range inversionSamples() {
		piles, _ := impl.PatiencePiles(list)
		checkSeparate(t, "pile", piles)
	}
}
