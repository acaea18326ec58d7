package tests

import (
	"math"
	"math/bits"
	"slices"
	"testing"

	"loop.example/g00907/impl"
)

// exampleValues are the values of the Fenwick of the examples of the chapter.
func exampleValues() []int { return []int{1, 2, 0, 4} }

func fenwickOf(sums ...int) impl.Fenwick { return impl.Fenwick{Sums: sums} }

func totalOf(list []int) int {
	total := 0
	for _, e := range list {
		total += e
	}
	return total
}

// firstOfSum returns the first index of the values whose sum has the index i.
func firstOfSum(i int) int {
	low := 1
	for (i+1)%(2*low) == 0 {
		low *= 2
	}
	return i + 1 - low
}

// sumsModel adds up the values of every sum. They need not be in 0..MaxMultiplicity.
func sumsModel(values []int) []int {
	sums := make([]int, len(values))
	for i := range sums {
		sums[i] = totalOf(values[firstOfSum(i) : i+1])
	}
	return sums
}

// valuesModel finds the values one after the other. It returns nil and false if there are none.
func valuesModel(sums []int) ([]int, bool) {
	values := []int{}
	for i, sum := range sums {
		others := totalOf(values[firstOfSum(i):])
		if i >= impl.MaxList || sum < others || sum > others+impl.MaxMultiplicity {
			return nil, false
		}
		values = append(values, sum-others)
	}
	return values, true
}

// spreadValues are n values between 0 and MaxMultiplicity without an order.
func spreadValues(n int) []int {
	values := make([]int, n)
	for i := range values {
		values[i] = (i*i*37 + i*911) % (impl.MaxMultiplicity + 1)
	}
	return values
}

// rareValues are n values of which most are 0.
func rareValues(n int) []int {
	values := make([]int, n)
	for i := range values {
		if i%5 == 3 || i%7 == 0 {
			values[i] = i % 4
		}
	}
	return values
}

// fenwickSamples are lists of values of all lengths, and all short ones of some values.
func fenwickSamples() [][]int {
	lists := [][]int{nil, exampleValues()}
	for length := range 6 {
		lists = slices.AppendSeq(lists, listsOver([]int{0, 1, 3, impl.MaxMultiplicity}, length))
	}
	for n := range impl.MaxList + 1 {
		lists = append(lists, steppedList(n, 0, 0), steppedList(n, 1, 0), steppedList(n, impl.MaxMultiplicity, 0),
			steppedList(n, 0, 15), steppedList(n, impl.MaxMultiplicity, -15), spreadValues(n), rareValues(n))
	}
	return lists
}

// invalidMultiplicities are numbers that no value may have.
func invalidMultiplicities() []int {
	return []int{-1, impl.MaxMultiplicity + 1, -impl.MaxMultiplicity, 2 * impl.MaxMultiplicity, math.MinInt, math.MaxInt, math.MinInt + impl.MaxMultiplicity, 1 << 32, -1 << 32, 1<<32 + 1, 1<<8 + impl.MaxMultiplicity}
}

// treeModel sorts every block, whose indices have one quotient, until a level has no second one.
func treeModel(list []int) [][]int {
	for levels, size := [][]int{}, 1; ; size *= 2 {
		var blocks [][]int
		for i, e := range list {
			if i%size == 0 {
				blocks = append(blocks, nil)
			}
			blocks[i/size] = append(blocks[i/size], e)
		}
		var level []int
		for _, block := range blocks {
			level = append(level, sortedOf(block)...)
		}
		levels = append(levels, level)
		if len(blocks) <= 1 {
			return levels
		}
	}
}

func isTreeModel(levels [][]int) bool {
	return len(levels) > 0 && impl.IsValidList(levels[0]) && sameLists(levels, treeModel(levels[0]))
}

// blocksModel returns the number of blocks of the indices from..to-1 of n within the block of the
// size that begins at start. It halves the blocks that are not all within these indices.
func blocksModel(n, from, to, start, size int) int {
	end := min(start+size, n)
	switch {
	case end <= from || to <= start:
		return 0
	case from <= start && end <= to:
		return 1
	}
	return blocksModel(n, from, to, start, size/2) + blocksModel(n, from, to, start+size/2, size/2)
}

func belowModel(list []int, key int) int {
	return len(slices.DeleteFunc(slices.Clone(list), func(e int) bool { return e >= key }))
}

// mixedList are n elements without an order, some of them equal.
func mixedList(n int) []int {
	list := make([]int, n)
	for i := range list {
		list[i] = (i*i*31+i*17)%43 - 20
	}
	return list
}

// treeSamples are lists of all lengths, and all short ones of some elements.
func treeSamples() [][]int {
	lists := [][]int{nil, {3, 1, 2}, {impl.MaxKey, -impl.MaxKey}, {-impl.MaxKey, impl.MaxKey, 0}}
	for length := range 6 {
		lists = slices.AppendSeq(lists, listsOver([]int{5, -5, 0}, length))
	}
	for n := range impl.MaxList + 1 {
		lists = append(lists, mixedList(n), steppedList(n, n, -1), steppedList(n, 0, 1), steppedList(n, 7, 0))
	}
	return lists
}

func treeOf(t *testing.T, list []int) impl.MergeTree {
	t.Helper()
	tree, ok := impl.BuildMergeTree(list)
	checkTree(t, tree, ok, treeModel(list))
	return tree
}

func checkTree(t *testing.T, tree impl.MergeTree, ok bool, want [][]int) {
	t.Helper()
	if !ok || !sameLists(tree.Levels, want) {
		t.Fatal("BuildMergeTree returned", tree.Levels, ok, "instead of", want)
	}
}

// checkNoFenwick checks that every function that takes a Fenwick refuses one that is invalid.
func checkNoFenwick(t *testing.T, sums []int) {
	t.Helper()
	f := fenwickOf(sums...)
	if impl.IsValidFenwick(f) {
		t.Error("IsValidFenwick returned true")
	}
	values, ok := impl.FenwickValues(f)
	checkNone(t, "FenwickValues", values, ok)
	for _, number := range []int{0, 1, len(sums) - 1, len(sums)} {
		checkNoAdd(t, f, number, 0)
		checkNoPrefix(t, f, number)
		checkNoSelect(t, f, number)
	}
	if t.Failed() {
		t.Fatal("there are", len(sums), "sums, the first of them", sums[:min(len(sums), impl.MaxList+1)])
	}
}

func checkNoAdd(t *testing.T, f impl.Fenwick, i, by int) {
	t.Helper()
	changed, count, ok := impl.FenwickAdd(f, i, by)
	checkNone(t, "FenwickAdd", changed.Sums, ok)
	checkZeros(t, "FenwickAdd", count)
	if t.Failed() {
		t.Fatal("the index is", i, "and the number to add", by)
	}
}

func checkNoPrefix(t *testing.T, f impl.Fenwick, n int) {
	t.Helper()
	sum, count, ok := impl.FenwickPrefix(f, n)
	checkNone(t, "FenwickPrefix", nil, ok)
	checkZeros(t, "FenwickPrefix", sum, count)
	if t.Failed() {
		t.Fatal("the number of values is", n)
	}
}

func checkNoSelect(t *testing.T, f impl.Fenwick, k int) {
	t.Helper()
	i, ok := impl.FenwickSelect(f, k)
	checkNone(t, "FenwickSelect", nil, ok)
	checkZeros(t, "FenwickSelect", i)
	if t.Failed() {
		t.Fatal("the rank is", k)
	}
}

// checkNoTree checks that every function that takes a MergeTree refuses one that is invalid.
func checkNoTree(t *testing.T, levels ...[]int) {
	t.Helper()
	tree := impl.MergeTree{Levels: levels}
	if impl.IsValidMergeTree(tree) {
		t.Error("IsValidMergeTree returned true")
	}
	checkNoCount(t, tree, 0, 0)
	checkNoCount(t, tree, 0, 1)
	checkNoKth(t, tree, 0, 0, 0)
	checkNoKth(t, tree, 0, 1, 0)
	if t.Failed() {
		t.Fatal("there are", len(levels), "levels, the first of them", levels[:min(len(levels), 8)])
	}
}

func checkNoCount(t *testing.T, tree impl.MergeTree, from, to int) {
	t.Helper()
	for _, key := range []int{0, 5, math.MinInt, math.MaxInt} {
		below, blocks, ok := impl.CountBelow(tree, from, to, key)
		checkNone(t, "CountBelow", nil, ok)
		checkZeros(t, "CountBelow", below, blocks)
	}
}

func checkNoKth(t *testing.T, tree impl.MergeTree, from, to, k int) {
	t.Helper()
	x, ok := impl.RangeKth(tree, from, to, k)
	checkNone(t, "RangeKth", nil, ok)
	checkZeros(t, "RangeKth", x)
	if t.Failed() {
		t.Fatal("the range is", from, to, "and the rank", k)
	}
}

func TestTreeLimits(t *testing.T) {
	if impl.MaxMultiplicity != 1000 {
		t.Error("MaxMultiplicity is", impl.MaxMultiplicity)
	}
}

func TestTreeExamples(t *testing.T) {
	f, ok := impl.BuildFenwick(exampleValues())
	checkPartition(t, "BuildFenwick", f.Sums, nil, ok, []int{1, 3, 0, 7})
	changed, count, ok := impl.FenwickAdd(f, 1, 5)
	checkPartition(t, "FenwickAdd", changed.Sums, []int{count}, ok, []int{1, 8, 0, 12}, 2)
	sum, count, ok := impl.FenwickPrefix(f, 3)
	checkNumbers(t, "FenwickPrefix", []int{sum, count}, ok, 3, 2)
	i, ok := impl.FenwickSelect(f, 3)
	checkNumbers(t, "FenwickSelect", []int{i}, ok, 3)
	tree, ok := impl.BuildMergeTree([]int{3, 1, 2})
	checkTree(t, tree, ok, [][]int{{3, 1, 2}, {1, 3, 2}, {1, 2, 3}})
	below, blocks, ok := impl.CountBelow(tree, 0, 2, 2)
	checkNumbers(t, "CountBelow", []int{below, blocks}, ok, 1, 1)
	x, ok := impl.RangeKth(tree, 1, 3, 1)
	checkNumbers(t, "RangeKth", []int{x}, ok, 2)
}

func TestBuildFenwickOfNamedValues(t *testing.T) {
	most := impl.MaxMultiplicity
	for _, c := range []struct{ values, sums []int }{
		{nil, nil}, {[]int{}, nil}, {[]int{0}, []int{0}}, {[]int{5}, []int{5}}, {[]int{most}, []int{most}},
		{[]int{0, 0}, []int{0, 0}}, {[]int{1, 2}, []int{1, 3}}, {[]int{2, 1}, []int{2, 3}}, {[]int{0, most}, []int{0, most}}, {[]int{most, most}, []int{most, 2 * most}},
		{[]int{1, 2, 3}, []int{1, 3, 3}}, {[]int{1, 2, 3, 4}, []int{1, 3, 3, 10}}, {[]int{1, 2, 3, 4, 5}, []int{1, 3, 3, 10, 5}}, {[]int{1, 2, 3, 4, 5, 6, 7}, []int{1, 3, 3, 10, 5, 11, 7}},
		{[]int{1, 2, 3, 4, 5, 6, 7, 8}, []int{1, 3, 3, 10, 5, 11, 7, 36}}, {[]int{1, 2, 3, 4, 5, 6, 7, 8, 9}, []int{1, 3, 3, 10, 5, 11, 7, 36, 9}},
		{steppedList(16, 1, 0), []int{1, 2, 1, 4, 1, 2, 1, 8, 1, 2, 1, 4, 1, 2, 1, 16}},
	} {
		f, ok := impl.BuildFenwick(c.values)
		checkPartition(t, "BuildFenwick", f.Sums, nil, ok, c.sums)
	}
	longest, ok := impl.BuildFenwick(steppedList(impl.MaxList, most, 0))
	if !ok || longest.Sums[impl.MaxList-1] != impl.MaxList*most || longest.Sums[impl.MaxList-2] != most {
		t.Error("BuildFenwick of the greatest values returned", longest, ok)
	}
}

func TestBuildFenwickAddsUpAndFenwickValuesInvertsIt(t *testing.T) {
	for _, values := range fenwickSamples() {
		f, ok := impl.BuildFenwick(values)
		checkPartition(t, "BuildFenwick", f.Sums, nil, ok, sumsModel(values))
		if !impl.IsValidFenwick(f) {
			t.Error("IsValidFenwick returned false")
		}
		got, ok := impl.FenwickValues(f)
		checkPartition(t, "FenwickValues", got, nil, ok, values)
		if t.Failed() {
			t.Fatal("the values are", values)
		}
	}
}

// One value is out of range, at every index, and so is the value that its sums represent.
func TestFenwickOfOneInvalidValue(t *testing.T) {
	for n := 1; n <= impl.MaxList; n++ {
		for i := range n {
			values := steppedList(n, 500, 0)
			for _, invalid := range invalidMultiplicities() {
				values[i] = invalid
				f, ok := impl.BuildFenwick(values)
				checkNone(t, "BuildFenwick", f.Sums, ok)
				checkNoFenwick(t, sumsModel(values))
			}
			for _, valid := range []int{0, impl.MaxMultiplicity} {
				values[i] = valid
				f, ok := impl.BuildFenwick(values)
				checkPartition(t, "BuildFenwick", f.Sums, nil, ok, sumsModel(values))
			}
		}
		if t.Failed() {
			t.Fatal("there are", n, "values")
		}
	}
}

func TestFenwickOfTooManyValues(t *testing.T) {
	for _, length := range []int{impl.MaxList + 1, impl.MaxList + 2, 2 * impl.MaxList, 1 << 20} {
		for _, values := range [][]int{make([]int, length), steppedList(length, 1, 0)} {
			f, ok := impl.BuildFenwick(values)
			checkNone(t, "BuildFenwick", f.Sums, ok)
			checkNoFenwick(t, sumsModel(values))
		}
	}
}

func TestIsValidFenwickOfNamedSums(t *testing.T) {
	most := impl.MaxMultiplicity
	for _, sums := range [][]int{nil, {}, {0}, {most}, {0, 0}, {0, most}, {most, most}, {most, 2 * most}, {1, 3, 0, 7}, {1, 3, 0, 3}, {1, 3, 0, 3 + most}, {1, 3, most, 3 + 2*most}} {
		if !impl.IsValidFenwick(fenwickOf(sums...)) {
			t.Error("IsValidFenwick refused", sums)
		}
	}
	for _, sums := range [][]int{
		{-1}, {most + 1}, {2, 1}, {most, most - 1}, {0, most + 1}, {most, 2*most + 1}, {-1, 0}, {0, -1}, {1, 3, -1, 7}, {1, 3, most + 1, 7 + most},
		// The sum of four values is too small for the sum of the first two or for the third value, or too great.
		{1, 3, 0, 2}, {1, 3, 4, 6}, {1, 3, 0, 4 + most}, {1, 3, 2, 6 + most}, {0, 0, 0, -1}, {1, 0, 0, 0}, {0, 1, 0, 0}, {0, 0, 1, 0},
		// The differences wrap around.
		{math.MinInt}, {math.MaxInt}, {math.MinInt, math.MinInt}, {math.MaxInt, math.MaxInt}, {math.MinInt, math.MaxInt}, {1, math.MinInt}, {most, math.MinInt}, {math.MinInt, math.MinInt + 5},
		{0, math.MinInt, 0, math.MinInt}, {0, math.MaxInt, 1, math.MinInt}, {0, 0, math.MinInt, math.MinInt}, {0, 1 << 62, 1 << 62, math.MinInt}, {1 << 32}, {1<<32 + 1, 1<<32 + 2},
	} {
		checkNoFenwick(t, sums)
	}
}

func TestIsValidFenwickOfAllShortSums(t *testing.T) {
	most := impl.MaxMultiplicity
	for length := range 5 {
		for sums := range listsOver([]int{-1, 0, 1, 2, most, most + 1, most + 2, 2 * most, math.MinInt, math.MaxInt}, length) {
			want, valid := valuesModel(sums)
			if !valid {
				checkNoFenwick(t, sums)
				continue
			}
			got, ok := impl.FenwickValues(fenwickOf(sums...))
			checkPartition(t, "FenwickValues", got, nil, ok, want)
			if !impl.IsValidFenwick(fenwickOf(sums...)) || t.Failed() {
				t.Fatal("the sums are", sums)
			}
		}
	}
}

// Every sum is lessened and raised as far as the values allow, and by one more.
func TestIsValidFenwickOfOneChangedSum(t *testing.T) {
	for n := 1; n <= impl.MaxList; n++ {
		for _, values := range [][]int{steppedList(n, 0, 0), steppedList(n, 10, 3), steppedList(n, impl.MaxMultiplicity, 0), spreadValues(n)} {
			for i := range n {
				for _, by := range []int{1, -1, values[i], -values[i], -values[i] - 1, impl.MaxMultiplicity - values[i], impl.MaxMultiplicity + 1 - values[i], math.MinInt, math.MaxInt} {
					sums := sumsModel(values)
					sums[i] += by
					if _, valid := valuesModel(sums); !valid {
						checkNoFenwick(t, sums)
					} else if !impl.IsValidFenwick(fenwickOf(sums...)) {
						t.Fatal("IsValidFenwick refused", sums)
					}
				}
			}
		}
	}
}

func TestFenwickAddOfNamedValues(t *testing.T) {
	for _, c := range []struct {
		values []int
		i, by  int
		sums   []int
		count  int
	}{
		{[]int{0}, 0, 0, []int{0}, 1}, {[]int{0}, 0, 1000, []int{1000}, 1}, {[]int{1000}, 0, -1000, []int{0}, 1},
		{[]int{1, 2}, 0, 4, []int{5, 7}, 2}, {[]int{1, 2}, 1, 4, []int{1, 7}, 1}, {[]int{1, 2}, 1, -2, []int{1, 1}, 1}, {[]int{1, 2}, 0, -1, []int{0, 2}, 2},
		{[]int{1, 2, 3}, 0, 1, []int{2, 4, 3}, 2}, {[]int{1, 2, 3}, 1, 1, []int{1, 4, 3}, 1}, {[]int{1, 2, 3}, 2, 1, []int{1, 3, 4}, 1},
		{exampleValues(), 0, 9, []int{10, 12, 0, 16}, 3}, {exampleValues(), 1, 0, []int{1, 3, 0, 7}, 2}, {exampleValues(), 2, 9, []int{1, 3, 9, 16}, 2}, {exampleValues(), 3, 996, []int{1, 3, 0, 1003}, 1}, {exampleValues(), 3, -4, []int{1, 3, 0, 3}, 1},
		{steppedList(8, 1, 0), 4, 2, []int{1, 2, 1, 4, 3, 4, 1, 10}, 3}, {steppedList(7, 1, 0), 4, 2, []int{1, 2, 1, 4, 3, 4, 1}, 2}, {steppedList(7, 1, 0), 6, 2, []int{1, 2, 1, 4, 1, 2, 3}, 1}, {steppedList(5, 1, 0), 4, -1, []int{1, 2, 1, 4, 0}, 1},
	} {
		f, count, ok := impl.FenwickAdd(fenwickOf(sumsModel(c.values)...), c.i, c.by)
		checkPartition(t, "FenwickAdd", f.Sums, []int{count}, ok, c.sums, c.count)
		if t.Failed() {
			t.Fatal("the values are", c.values, "the index is", c.i, "and the number to add", c.by)
		}
	}
	// 64 values have seven sums with the first of them, and 63 have six.
	for _, c := range []struct{ n, i, count int }{{64, 0, 7}, {64, 1, 6}, {64, 31, 2}, {64, 32, 6}, {64, 62, 2}, {64, 63, 1}, {63, 0, 6}, {63, 31, 1}, {63, 32, 5}, {63, 62, 1}} {
		_, count, ok := impl.FenwickAdd(fenwickOf(make([]int, c.n)...), c.i, 1)
		checkNumbers(t, "FenwickAdd", []int{count}, ok, c.count)
	}
}

// checkAdd checks FenwickAdd with a model that adds to the value and adds up the sums again.
func checkAdd(t *testing.T, values []int, i, by int) {
	t.Helper()
	changed := slices.Clone(values)
	changed[i] += by
	count := 0
	for at := i; at < len(values); at++ {
		if firstOfSum(at) <= i {
			count++
		}
	}
	f, got, ok := impl.FenwickAdd(fenwickOf(sumsModel(values)...), i, by)
	checkPartition(t, "FenwickAdd", f.Sums, []int{got}, ok, sumsModel(changed), count)
	if t.Failed() {
		t.Fatal("the values are", values, "the index is", i, "and the number to add", by)
	}
}

func TestFenwickAddAtEveryIndex(t *testing.T) {
	most := impl.MaxMultiplicity
	for _, values := range fenwickSamples() {
		f := fenwickOf(sumsModel(values)...)
		for i, value := range values {
			// To 0 and to MaxMultiplicity, and one beyond each of them.
			for _, by := range []int{0, -value, most - value} {
				checkAdd(t, values, i, by)
			}
			for _, by := range []int{-value - 1, most - value + 1, -most - 1, most + 1, math.MinInt, math.MaxInt, math.MaxInt - value, math.MinInt + value, 1 << 32, -1 << 32} {
				checkNoAdd(t, f, i, by)
			}
		}
		n := len(values)
		for _, i := range []int{-1, n, n + 1, -n, -n - 1, impl.MaxList, 1 << 32, -1 << 32, math.MinInt, math.MaxInt} {
			checkNoAdd(t, f, i, 0)
			checkNoAdd(t, f, i, 1)
		}
	}
	checkNoAdd(t, impl.Fenwick{}, 0, 0)
	checkNoAdd(t, fenwickOf(withSpare([]int{1})...), 1, 1)
}

func TestFenwickAddInSteps(t *testing.T) {
	for n := 1; n <= impl.MaxList; n++ {
		f, values := fenwickOf(make([]int, n)...), make([]int, n)
		for step := range 3 * n {
			i, by := step*7%n, step*13%50
			values[i] += by
			f, _, _ = impl.FenwickAdd(f, i, by)
		}
		got, ok := impl.FenwickValues(f)
		checkPartition(t, "FenwickValues", got, nil, ok, values)
	}
}

func TestFenwickPrefixOfNamedValues(t *testing.T) {
	f := fenwickOf(sumsModel(exampleValues())...)
	for n, want := range [][]int{{0, 0}, {1, 1}, {3, 1}, {3, 2}, {7, 1}} {
		sum, count, ok := impl.FenwickPrefix(f, n)
		checkNumbers(t, "FenwickPrefix", []int{sum, count}, ok, want...)
	}
	f = fenwickOf(sumsModel(steppedList(impl.MaxList, impl.MaxMultiplicity, 0))...)
	for _, want := range [][]int{{0, 0}, {1, 1}, {31, 5}, {32, 1}, {33, 2}, {62, 5}, {63, 6}, {64, 1}} {
		sum, count, ok := impl.FenwickPrefix(f, want[0])
		checkNumbers(t, "FenwickPrefix", []int{sum, count}, ok, want[0]*impl.MaxMultiplicity, want[1])
	}
}

// The sums of a prefix have as many values as the binary digits of its length are worth.
func TestFenwickPrefixForEveryLength(t *testing.T) {
	for _, values := range fenwickSamples() {
		f, length := fenwickOf(sumsModel(values)...), len(values)
		for n := range length + 1 {
			sum, count, ok := impl.FenwickPrefix(f, n)
			checkNumbers(t, "FenwickPrefix", []int{sum, count}, ok, totalOf(values[:n]), bits.OnesCount(uint(n)))
		}
		for _, n := range []int{-1, length + 1, length + 2, -length - 1, impl.MaxList + 1, 1 << 32, -1 << 32, math.MinInt, math.MaxInt} {
			checkNoPrefix(t, f, n)
		}
		if t.Failed() {
			t.Fatal("the values are", values)
		}
	}
}

func TestFenwickSelectOfNamedValues(t *testing.T) {
	for _, c := range []struct {
		values  []int
		indices []int
	}{
		{nil, nil}, {[]int{0}, nil}, {[]int{0, 0, 0}, nil}, {[]int{3}, []int{0, 0, 0}}, {[]int{0, 2}, []int{1, 1}}, {[]int{2, 0}, []int{0, 0}}, {[]int{1, 2}, []int{0, 1, 1}},
		{exampleValues(), []int{0, 1, 1, 3, 3, 3, 3}}, {[]int{0, 0, 1, 0, 0, 2, 0}, []int{2, 5, 5}}, {[]int{0, 0, 0, 0, 0, 0, 0, 1}, []int{7}}, {[]int{0, 0, 0, 0, 0, 0, 1, 0}, []int{6}}, {[]int{1, 0, 0, 0, 1}, []int{0, 4}},
		{steppedList(impl.MaxList, 1, 0), steppedList(impl.MaxList, 0, 1)}, {steppedList(impl.MaxList-1, 1, 0), steppedList(impl.MaxList-1, 0, 1)},
	} {
		f := fenwickOf(sumsModel(c.values)...)
		for k, want := range c.indices {
			i, ok := impl.FenwickSelect(f, k)
			checkNumbers(t, "FenwickSelect", []int{i}, ok, want)
		}
		checkNoSelect(t, f, len(c.indices))
		checkNoSelect(t, f, -1)
	}
}

// checkSelects checks FenwickSelect for the rank of every element, and for others.
func checkSelects(t *testing.T, values []int) {
	t.Helper()
	f, k := fenwickOf(sumsModel(values)...), 0
	for i, value := range values {
		for range value {
			got, ok := impl.FenwickSelect(f, k)
			checkNumbers(t, "FenwickSelect", []int{got}, ok, i)
			k++
		}
	}
	for _, invalid := range []int{-1, k, k + 1, -k - 1, impl.MaxList*impl.MaxMultiplicity + 1, 1 << 32, -1 << 32, math.MinInt, math.MaxInt} {
		checkNoSelect(t, f, invalid)
	}
	if t.Failed() {
		t.Fatal("the values are", values)
	}
}

func TestFenwickSelectForEveryRank(t *testing.T) {
	for length := range 7 {
		for values := range listsOver([]int{0, 1, 3}, length) {
			checkSelects(t, values)
		}
	}
	for n := range impl.MaxList + 1 {
		for _, values := range [][]int{steppedList(n, 0, 0), steppedList(n, 1, 0), steppedList(n, 0, 1), steppedList(n, n, -1), rareValues(n)} {
			checkSelects(t, values)
		}
		// One value alone is not 0.
		for i := range n {
			values := make([]int, n)
			values[i] = 2
			checkSelects(t, values)
		}
	}
	checkSelects(t, steppedList(impl.MaxList, impl.MaxMultiplicity, 0))
	checkSelects(t, spreadValues(impl.MaxList-1))
}

func TestBuildMergeTreeOfNamedLists(t *testing.T) {
	for _, c := range []struct {
		list   []int
		levels [][]int
	}{
		{nil, [][]int{{}}}, {[]int{}, [][]int{{}}}, {[]int{4}, [][]int{{4}}}, {[]int{2, 1}, [][]int{{2, 1}, {1, 2}}}, {[]int{1, 2}, [][]int{{1, 2}, {1, 2}}}, {[]int{7, 7}, [][]int{{7, 7}, {7, 7}}},
		{[]int{3, 2, 1}, [][]int{{3, 2, 1}, {2, 3, 1}, {1, 2, 3}}}, {[]int{4, 3, 2, 1}, [][]int{{4, 3, 2, 1}, {3, 4, 1, 2}, {1, 2, 3, 4}}},
		{[]int{5, 4, 3, 2, 1}, [][]int{{5, 4, 3, 2, 1}, {4, 5, 2, 3, 1}, {2, 3, 4, 5, 1}, {1, 2, 3, 4, 5}}},
		{[]int{2, 1, 2, 1, 1, 0}, [][]int{{2, 1, 2, 1, 1, 0}, {1, 2, 1, 2, 0, 1}, {1, 1, 2, 2, 0, 1}, {0, 1, 1, 1, 2, 2}}},
		{[]int{-1, 9, 0, 5, 5, -3, 7}, [][]int{{-1, 9, 0, 5, 5, -3, 7}, {-1, 9, 0, 5, -3, 5, 7}, {-1, 0, 5, 9, -3, 5, 7}, {-3, -1, 0, 5, 5, 7, 9}}},
		{[]int{8, 7, 6, 5, 4, 3, 2, 1}, [][]int{{8, 7, 6, 5, 4, 3, 2, 1}, {7, 8, 5, 6, 3, 4, 1, 2}, {5, 6, 7, 8, 1, 2, 3, 4}, {1, 2, 3, 4, 5, 6, 7, 8}}},
		{[]int{impl.MaxKey, -impl.MaxKey}, [][]int{{impl.MaxKey, -impl.MaxKey}, {-impl.MaxKey, impl.MaxKey}}},
	} {
		tree, ok := impl.BuildMergeTree(c.list)
		checkTree(t, tree, ok, c.levels)
	}
	for _, c := range []struct{ n, levels int }{{0, 1}, {1, 1}, {2, 2}, {3, 3}, {4, 3}, {5, 4}, {8, 4}, {9, 5}, {16, 5}, {17, 6}, {32, 6}, {33, 7}, {63, 7}, {64, 7}} {
		tree, ok := impl.BuildMergeTree(mixedList(c.n))
		checkNumbers(t, "BuildMergeTree", []int{len(tree.Levels)}, ok, c.levels)
	}
}

func TestBuildMergeTreeSortsBlocks(t *testing.T) {
	for _, list := range treeSamples() {
		if !impl.IsValidMergeTree(treeOf(t, list)) || !impl.IsValidMergeTree(impl.MergeTree{Levels: treeModel(list)}) {
			t.Fatal("IsValidMergeTree refused the tree of", list)
		}
	}
}

func TestMergeTreeOfInvalidLists(t *testing.T) {
	for _, list := range invalidLists() {
		tree, ok := impl.BuildMergeTree(list)
		if ok || len(tree.Levels) != 0 {
			t.Error("BuildMergeTree returned", len(tree.Levels), "levels and", ok)
		}
		checkNoTree(t, treeModel(list)...)
		checkNoTree(t, list)
	}
	for n := 1; n <= impl.MaxList; n++ {
		list := mixedList(n)
		list[n-1] = impl.MaxKey + 1
		if _, ok := impl.BuildMergeTree(list); ok {
			t.Error("BuildMergeTree of", list, "returned true")
		}
		checkNoTree(t, treeModel(list)...)
	}
}

func TestIsValidMergeTreeOfNamedLevels(t *testing.T) {
	for _, levels := range [][][]int{{nil}, {{}}, {{4}}, {{2, 1}, {1, 2}}, {{3, 1, 2}, {1, 3, 2}, {1, 2, 3}}, {{1, 3, 2}, {1, 3, 2}, {1, 2, 3}}} {
		if !impl.IsValidMergeTree(impl.MergeTree{Levels: levels}) {
			t.Error("IsValidMergeTree refused", levels)
		}
	}
	for _, levels := range [][][]int{
		// None, too few or too many levels.
		nil, {}, {{}, {}}, {nil, nil}, {{4}, {4}}, {{4}, {}}, {{}, {4}}, {{2, 1}}, {{1, 2}}, {{2, 1}, {1, 2}, {1, 2}}, {{3, 1, 2}, {1, 3, 2}}, {{3, 1, 2}, {1, 2, 3}}, {{1, 2, 3, 4}, {1, 2, 3, 4}}, {{3, 1, 2}, {1, 3, 2}, {1, 2, 3}, {1, 2, 3}}, make([][]int, 1<<20),
		// A level of another length.
		{{2, 1}, {1}}, {{2, 1}, {1, 2, 2}}, {{2}, {1, 2}}, {{2, 1}, nil}, {nil, {1, 2}}, {{3, 1, 2}, {1, 3}, {1, 2, 3}}, {{3, 1, 2}, {1, 3, 2}, {1, 2, 3, 4}}, {{3, 1, 2}, {1, 3, 2}, make([]int, 1<<20)},
		// A block that is not ascending.
		{{2, 1}, {2, 1}}, {{3, 1, 2}, {3, 1, 2}, {1, 2, 3}}, {{3, 1, 2}, {1, 3, 2}, {1, 3, 2}}, {{3, 1, 2}, {1, 3, 2}, {3, 2, 1}},
		// A block of other elements, also of those of its neighbour.
		{{2, 1}, {1, 3}}, {{2, 1}, {2, 2}}, {{2, 2}, {1, 2}}, {{3, 1, 2}, {1, 2, 3}, {1, 2, 3}}, {{4, 3, 2, 1}, {1, 2, 3, 4}, {1, 2, 3, 4}}, {{4, 1, 3, 2}, {2, 4, 1, 3}, {1, 2, 3, 4}},
		// A list with an element out of range.
		{{impl.MaxKey + 1}}, {{1, -impl.MaxKey - 1}, {-impl.MaxKey - 1, 1}}, {{math.MaxInt, math.MinInt}, {math.MinInt, math.MaxInt}},
	} {
		checkNoTree(t, levels...)
	}
}

// checkChangedTree checks a tree after a change, which may have made it the tree of another list.
func checkChangedTree(t *testing.T, levels [][]int) {
	t.Helper()
	if valid := impl.IsValidMergeTree(impl.MergeTree{Levels: levels}); valid != isTreeModel(levels) {
		t.Fatal("IsValidMergeTree of", levels, "returned", valid)
	}
}

func TestIsValidMergeTreeOfOneChange(t *testing.T) {
	for _, n := range []int{1, 2, 3, 4, 5, 7, 8, 9, 31, 32, 33, impl.MaxList - 1, impl.MaxList} {
		levels := treeModel(mixedList(n))
		for d := range levels {
			for i := range n {
				for _, by := range []int{1, -1, 2 * impl.MaxKey} {
					changed := cloneLists(levels)
					changed[d][i] += by
					checkChangedTree(t, changed)
				}
				for k := range i {
					changed := cloneLists(levels)
					changed[d][i], changed[d][k] = changed[d][k], changed[d][i]
					checkChangedTree(t, changed)
				}
			}
		}
	}
}

func TestIsValidMergeTreeOfOtherSizes(t *testing.T) {
	for n := 2; n <= impl.MaxList; n++ {
		levels := treeModel(mixedList(n))
		last := len(levels) - 1
		for d := range levels {
			checkNoTree(t, levels[:d]...)
			checkNoTree(t, slices.Delete(cloneLists(levels), d, d+1)...)
			checkNoTree(t, slices.Insert(cloneLists(levels), d, levels[d])...)
			for _, level := range [][]int{nil, levels[d][:n-1], levels[d][1:], append(slices.Clone(levels[d]), impl.MaxKey)} {
				changed := cloneLists(levels)
				changed[d] = level
				checkNoTree(t, changed...)
			}
		}
		checkNoTree(t, append(cloneLists(levels), levels[last])...)
		checkNoTree(t, append(cloneLists(levels), nil)...)
	}
}

func TestCountBelowOfNamedRanges(t *testing.T) {
	n := impl.MaxList
	seven := []int{4, 1, 6, 3, 6, 0, 2}
	for _, c := range []struct {
		list                         []int
		from, to, key, below, blocks int
	}{
		{nil, 0, 0, 5, 0, 0}, {[]int{4}, 0, 0, 5, 0, 0}, {[]int{4}, 1, 1, 5, 0, 0}, {[]int{4}, 0, 1, 4, 0, 1}, {[]int{4}, 0, 1, 5, 1, 1},
		{[]int{2, 1}, 0, 2, 2, 1, 1}, {[]int{2, 1}, 0, 1, 2, 0, 1}, {[]int{2, 1}, 1, 2, 2, 1, 1}, {[]int{2, 1}, 1, 1, 2, 0, 0}, {[]int{2, 1}, 2, 2, 2, 0, 0},
		{[]int{3, 1, 2}, 0, 3, 3, 2, 1}, {[]int{3, 1, 2}, 1, 3, 9, 2, 2}, {[]int{3, 1, 2}, 2, 3, 9, 1, 1},
		// The last block of a level may have fewer elements.
		{seven, 0, 7, 4, 4, 1}, {seven, 4, 7, 4, 2, 1}, {seven, 6, 7, 3, 1, 1}, {seven, 2, 7, 6, 3, 2}, {seven, 1, 7, 6, 4, 3}, {seven, 3, 7, 6, 3, 2}, {seven, 5, 7, 6, 2, 2},
		{seven, 0, 6, 4, 3, 2}, {seven, 0, 5, 7, 5, 2}, {seven, 0, 4, 4, 2, 1}, {seven, 0, 3, 4, 1, 2}, {seven, 1, 6, 4, 3, 3}, {seven, 1, 5, 6, 2, 3}, {seven, 3, 6, 4, 2, 2}, {seven, 3, 5, 7, 2, 2}, {seven, 4, 6, 6, 1, 1}, {seven, 1, 4, 6, 2, 2},
		// Equal elements are not less, and a key may be smaller or greater than all elements.
		{[]int{7, 7, 7, 7, 7}, 0, 5, 7, 0, 1}, {[]int{7, 7, 7, 7, 7}, 0, 5, 8, 5, 1}, {[]int{7, 7, 7, 7, 7}, 1, 5, 6, 0, 3}, {seven, 0, 7, math.MinInt, 0, 1}, {seven, 0, 7, math.MaxInt, 7, 1}, {[]int{impl.MaxKey, -impl.MaxKey}, 0, 2, impl.MaxKey + 1, 2, 1}, {[]int{impl.MaxKey, -impl.MaxKey}, 0, 2, -impl.MaxKey, 0, 1},
		{steppedList(n, 0, 1), 0, n, 40, 40, 1}, {steppedList(n, 0, 1), 1, n, 40, 39, 6}, {steppedList(n, 0, 1), 0, n - 1, 40, 40, 6}, {steppedList(n, 0, 1), 1, n - 1, 40, 39, 10}, {steppedList(n, 0, 1), n / 2, n, 40, 8, 1}, {steppedList(n, 0, 1), n, n, 40, 0, 0}, {steppedList(33, 0, 1), 0, 33, 40, 33, 1}, {steppedList(33, 0, 1), 1, 33, 2, 1, 6}, {steppedList(33, 0, 1), 31, 33, 40, 2, 2},
	} {
		below, blocks, ok := impl.CountBelow(treeOf(t, c.list), c.from, c.to, c.key)
		checkNumbers(t, "CountBelow", []int{below, blocks}, ok, c.below, c.blocks)
		if t.Failed() {
			t.Fatal("the list is", c.list, "the range is", c.from, c.to, "and the key", c.key)
		}
	}
}

// checkCounts checks CountBelow for every range of the list.
func checkCounts(t *testing.T, list []int, keys ...int) {
	t.Helper()
	tree, n := treeOf(t, list), len(list)
	for to := range n + 1 {
		for from := range to + 1 {
			blocks := 0
			if from < to {
				blocks = blocksModel(n, from, to, 0, impl.MaxList)
			}
			for _, key := range keys {
				below, got, ok := impl.CountBelow(tree, from, to, key)
				checkNumbers(t, "CountBelow", []int{below, got}, ok, belowModel(list[from:to], key), blocks)
			}
			if t.Failed() {
				t.Fatal("the list is", list, "and the range is", from, to)
			}
		}
	}
}

func TestCountBelowOfEveryRange(t *testing.T) {
	for length := range 6 {
		for list := range listsOver([]int{5, -5, 0}, length) {
			checkCounts(t, list, -6, -5, 0, 1, 5, 6)
		}
	}
	for n := range impl.MaxList + 1 {
		checkCounts(t, mixedList(n), 3)
	}
	for _, n := range []int{7, 16, 31, 33, impl.MaxList} {
		checkCounts(t, mixedList(n), -21, -20, 0, 22, 23, math.MinInt, math.MaxInt)
		checkCounts(t, steppedList(n, n, -1), 0, n/2, n, n+1)
		checkCounts(t, steppedList(n, 7, 0), 7, 8)
	}
}

func TestRangeKthOfNamedRanges(t *testing.T) {
	n := impl.MaxList
	seven := []int{4, 1, 6, 3, 6, 0, 2}
	for _, c := range []struct {
		list           []int
		from, to, k, x int
	}{
		{[]int{4}, 0, 1, 0, 4}, {[]int{2, 1}, 0, 2, 0, 1}, {[]int{2, 1}, 0, 2, 1, 2}, {[]int{2, 1}, 0, 1, 0, 2}, {[]int{2, 1}, 1, 2, 0, 1}, {[]int{7, 7}, 0, 2, 0, 7}, {[]int{7, 7}, 0, 2, 1, 7},
		{[]int{3, 1, 2}, 1, 3, 0, 1}, {[]int{3, 1, 2}, 0, 2, 1, 3}, {[]int{3, 1, 2}, 0, 3, 1, 2}, {[]int{3, 1, 2}, 2, 3, 0, 2},
		{seven, 0, 7, 0, 0}, {seven, 0, 7, 3, 3}, {seven, 0, 7, 5, 6}, {seven, 0, 7, 6, 6}, {seven, 1, 6, 2, 3}, {seven, 2, 5, 0, 3}, {seven, 2, 5, 1, 6}, {seven, 2, 5, 2, 6}, {seven, 4, 7, 1, 2}, {seven, 0, 5, 2, 4},
		{[]int{impl.MaxKey, -impl.MaxKey}, 0, 2, 1, impl.MaxKey}, {[]int{impl.MaxKey, -impl.MaxKey}, 0, 2, 0, -impl.MaxKey}, {[]int{impl.MaxKey, -impl.MaxKey}, 0, 1, 0, impl.MaxKey}, {[]int{0, 0, 0, 0, 9}, 3, 5, 1, 9},
		{steppedList(n, n, -1), 0, n, 0, 1}, {steppedList(n, n, -1), 0, n, n - 1, n}, {steppedList(n, n, -1), 1, n - 1, 0, 2}, {steppedList(n, n, -1), n - 1, n, 0, 1},
	} {
		x, ok := impl.RangeKth(treeOf(t, c.list), c.from, c.to, c.k)
		checkNumbers(t, "RangeKth", []int{x}, ok, c.x)
		if t.Failed() {
			t.Fatal("the list is", c.list, "the range is", c.from, c.to, "and the rank", c.k)
		}
	}
}

// checkRanks checks RangeKth for every rank of every range of the list, and for the ranks beside them.
func checkRanks(t *testing.T, list []int) {
	t.Helper()
	tree := treeOf(t, list)
	for to := range len(list) + 1 {
		for from := range to + 1 {
			for k, want := range sortedOf(list[from:to]) {
				x, ok := impl.RangeKth(tree, from, to, k)
				checkNumbers(t, "RangeKth", []int{x}, ok, want)
			}
			checkNoKth(t, tree, from, to, -1)
			checkNoKth(t, tree, from, to, to-from)
			if t.Failed() {
				t.Fatal("the list is", list, "and the range is", from, to)
			}
		}
	}
}

func TestRangeKthForEveryRank(t *testing.T) {
	for length := range 6 {
		for list := range listsOver([]int{5, -5, 0}, length) {
			checkRanks(t, list)
		}
	}
	for n := range 24 {
		checkRanks(t, mixedList(n))
		checkRanks(t, steppedList(n, n, -1))
		checkRanks(t, steppedList(n, 7, 0))
	}
	for _, n := range []int{31, 33, impl.MaxList - 1, impl.MaxList} {
		checkRanks(t, mixedList(n))
	}
}

func TestTreeFunctionsOfInvalidRanges(t *testing.T) {
	for n := range impl.MaxList + 1 {
		tree := treeOf(t, mixedList(n))
		for _, r := range [][2]int{
			{1, 0}, {n, n - 1}, {n + 1, n}, {n + 1, 0}, {-1, 0}, {-1, n}, {-1, -1}, {-2, -1}, {0, -1}, {0, n + 1}, {n, n + 1}, {n + 1, n + 1}, {n / 2, n + 1}, {-n - 1, n}, {0, impl.MaxList + 1},
			{math.MinInt, 0}, {math.MinInt, math.MaxInt}, {math.MinInt, math.MinInt}, {0, math.MaxInt}, {math.MaxInt, math.MaxInt}, {math.MaxInt, math.MinInt}, {math.MaxInt, 0}, {0, 1 << 32}, {1 << 32, 1 << 32}, {-1 << 32, 0},
		} {
			checkNoCount(t, tree, r[0], r[1])
			for _, k := range []int{0, 1, -1, n, math.MinInt, math.MaxInt} {
				checkNoKth(t, tree, r[0], r[1], k)
			}
		}
		for _, k := range []int{-1, n, n + 1, -n - 1, impl.MaxList, 1 << 32, -1 << 32, math.MinInt, math.MaxInt} {
			checkNoKth(t, tree, 0, n, k)
			checkNoKth(t, tree, n, n, k)
		}
		checkNoKth(t, tree, 0, 0, 0)
		checkNoKth(t, tree, n, n, 0)
	}
	// A list of which the next elements are there, but do not belong to it.
	tree := impl.MergeTree{Levels: levelsWithSpare([][]int{{3, 1}, {1, 3}})}
	checkNoCount(t, tree, 0, 3)
	checkNoKth(t, tree, 0, 3, 2)
}

// fenwickFunctions are the functions of a list of values or of sums. Results that are numbers are
// made into a list.
func fenwickFunctions() []func(list []int) []int {
	functions := []func(list []int) []int{
		func(values []int) []int { f, _ := impl.BuildFenwick(values); return f.Sums },
		func(sums []int) []int { impl.IsValidFenwick(fenwickOf(sums...)); return nil },
		func(sums []int) []int { values, _ := impl.FenwickValues(fenwickOf(sums...)); return values },
	}
	for _, number := range []int{-1, 0, 1, 2, 5, impl.MaxList - 1, impl.MaxList} {
		functions = append(functions,
			func(sums []int) []int { f, _, _ := impl.FenwickAdd(fenwickOf(sums...), number, 3); return f.Sums },
			func(sums []int) []int { f, _, _ := impl.FenwickAdd(fenwickOf(sums...), number, 0); return f.Sums },
			func(sums []int) []int {
				sum, count, _ := impl.FenwickPrefix(fenwickOf(sums...), number)
				return []int{sum, count}
			},
			func(sums []int) []int { i, _ := impl.FenwickSelect(fenwickOf(sums...), number); return []int{i} },
		)
	}
	return functions
}

// sumSamples are sums that are valid and sums that are not.
func sumSamples() [][]int {
	lists := append(invalidLists(), nil, []int{2, 1}, []int{-1}, []int{1001}, []int{1, 3, 0, 2}, []int{0, 1 << 62, 1 << 62, math.MinInt})
	for _, values := range fenwickSamples() {
		lists = append(lists, values, sumsModel(values))
	}
	return lists
}

func TestFenwickFunctionsLeaveTheirArguments(t *testing.T) {
	checkLeavesLists(t, fenwickFunctions(), sumSamples())
}

// Elements beyond the length count nowhere, and every call returns new memory.
func TestFenwickFunctionsReadAndKeepNothingElse(t *testing.T) {
	checkKeepsNothing(t, fenwickFunctions(), sumSamples())
}

// levelFunctions return a level each of the MergeTree of a list, if it has so many.
func levelFunctions() []func(list []int) []int {
	var functions []func(list []int) []int
	for d := range 8 {
		functions = append(functions, func(list []int) []int {
			tree, _ := impl.BuildMergeTree(list)
			if d < len(tree.Levels) {
				return tree.Levels[d]
			}
			return nil
		})
	}
	return functions
}

func TestBuildMergeTreeLeavesItsArgument(t *testing.T) {
	lists := slices.Concat(treeSamples(), invalidLists())
	checkLeavesLists(t, levelFunctions(), lists)
	checkKeepsNothing(t, levelFunctions(), lists)
}

func TestLevelsShareNoMemory(t *testing.T) {
	for _, list := range treeSamples() {
		checkSeparate(t, "level", treeOf(t, list).Levels)
	}
}

// levelsWithSpare returns copies of the levels with elements beyond their lengths, and with a level
// beyond the last one.
func levelsWithSpare(levels [][]int) [][]int {
	var whole [][]int
	for _, level := range levels {
		whole = append(whole, withSpare(level))
	}
	return append(whole, []int{beyondMark})[:len(levels)]
}

func areUntouchedLevels(levels, original [][]int) bool {
	whole := levels[:len(original)+1]
	for d, level := range original {
		if !isUntouched(whole[d], level) {
			return false
		}
	}
	return slices.Equal(whole[len(original)], []int{beyondMark})
}

func TestMergeTreeFunctionsLeaveTheirArguments(t *testing.T) {
	trees := [][][]int{nil, {nil}, {{}, {}}, {{2, 1}}, {{2, 1}, {2, 1}}, {{2, 1}, {1, 2}, {1, 2}}, {{3, 1, 2}, {1, 3, 2}, {3, 2, 1}}, {{impl.MaxKey + 1, 2}, {2, impl.MaxKey + 1}}, {make([]int, impl.MaxList+1)}}
	for n := range impl.MaxList + 1 {
		trees = append(trees, treeModel(mixedList(n)), treeModel(steppedList(n, n, -1)))
	}
	for _, original := range trees {
		levels := levelsWithSpare(original)
		tree := impl.MergeTree{Levels: levels}
		if valid := impl.IsValidMergeTree(tree); valid != isTreeModel(original) {
			t.Error("IsValidMergeTree of", original, "beside spare memory returned", valid)
		}
		for _, r := range [][2]int{{0, 0}, {0, 1}, {0, 2}, {1, 3}, {1, 9}, {3, 50}, {0, impl.MaxList}, {0, impl.MaxList + 1}, {2, 1}, {-1, 2}} {
			impl.CountBelow(tree, r[0], r[1], 2)
			impl.RangeKth(tree, r[0], r[1], 1)
		}
		if !areUntouchedLevels(levels, original) {
			t.Fatal("a function changed the tree", original)
		}
	}
}
