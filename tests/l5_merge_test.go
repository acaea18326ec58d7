package tests

import (
	"math"
	"slices"
	"testing"

	"loop.example/g00907/impl"
)

// mergeComparisons counts the comparisons of a merge of two ascending lists: one for every record
// that is taken before one list has run out.
func mergeComparisons(a, b []impl.Record) int {
	if len(a) == 0 || len(b) == 0 {
		return 0
	}
	exhausted, other, limit := a, b, a[len(a)-1].Key-1
	if b[len(b)-1].Key < a[len(a)-1].Key {
		exhausted, other, limit = b, a, b[len(b)-1].Key
	}
	sum := len(exhausted)
	for _, r := range other {
		if r.Key <= limit {
			sum++
		}
	}
	return sum
}

type recordSort func(list []impl.Record) ([]impl.Record, int, bool)

// checkRecordSort checks that the sort arranges the list with that many comparisons.
func checkRecordSort(t *testing.T, sort recordSort, list []impl.Record, want int) {
	t.Helper()
	sorted, comparisons, ok := sort(list)
	if !ok || !slices.Equal(sorted, arrangedByIndex(list)) || comparisons != want {
		t.Fatal("the sort of", list, "returned", sorted, comparisons, ok, "not", want, "comparisons")
	}
}

// keysAndCost are the keys of a record list and the number of comparisons that sort it.
type keysAndCost struct {
	keys        []int
	comparisons int
}

func mergeSortComparisons(list []impl.Record) int {
	if len(list) < 2 {
		return 0
	}
	left, right := list[:len(list)/2], list[len(list)/2:]
	return mergeSortComparisons(left) + mergeSortComparisons(right) +
		mergeComparisons(arrangedByIndex(left), arrangedByIndex(right))
}

// sampleRecords are records with the keys of the sample lists.
func sampleRecords() [][]impl.Record {
	lists := [][]impl.Record{}
	for _, keys := range sampleLists() {
		lists = append(lists, recordsOf(keys...))
	}
	return append(lists, zigzags()...)
}

// zigzags are lists in which runs are as short as they can be, and lists of several longer runs.
func zigzags() [][]impl.Record {
	lists := [][]impl.Record{}
	for _, period := range []int{2, 3, 5, 8, 13, 21} {
		for _, length := range []int{impl.MaxList, impl.MaxList - 1, 33, 10} {
			up, down, mixed := make([]int, length), make([]int, length), make([]int, length)
			for i := range length {
				up[i], down[i], mixed[i] = i%period, -(i % period), (i%period)*(1-i/period%2*2)
			}
			lists = append(lists, recordsOf(up...), recordsOf(down...), recordsOf(mixed...))
		}
	}
	// Runs of very different lengths.
	for _, lengths := range [][]int{{30, 20, 10, 4}, {4, 10, 20, 30}, {20, 2, 20, 2, 20}, {2, 20, 2, 20, 2}, {12, 8, 5, 3, 2, 12, 8, 5, 3, 2}} {
		keys := []int{}
		for i, length := range lengths {
			keys = append(keys, steppedList(length, i, 3)...)
		}
		lists = append(lists, recordsOf(keys...))
	}
	return lists
}

// ascendingRecords are the ascending lists of records of at most the length over the keys, with
// tags from tag downwards.
func ascendingRecords(keys []int, most int, tag int) [][]impl.Record {
	lists := [][]impl.Record{}
	for length := range most + 1 {
		for list := range listsOver(keys, length) {
			if slices.IsSorted(list) {
				records := recordsOf(list...)
				for i := range records {
					records[i].Tag = tag - i
				}
				lists = append(lists, records)
			}
		}
	}
	return lists
}

func checkMerge(t *testing.T, a, b []impl.Record) {
	t.Helper()
	merged, comparisons, ok := impl.MergeSorted(a, b)
	// The stable arrangement of the records of a followed by those of b.
	want := arrangedByIndex(slices.Concat(a, b))
	if !ok || !slices.Equal(merged, want) || comparisons != mergeComparisons(a, b) {
		t.Fatal("merging", a, "and", b, "returned", merged, comparisons, ok)
	}
}

func TestMergeSortedOfNamedLists(t *testing.T) {
	full := impl.MaxList
	for _, c := range []struct {
		a, b        []int
		comparisons int
	}{
		{nil, nil, 0}, {nil, []int{1, 2, 3}, 0}, {[]int{1, 2, 3}, nil, 0}, {[]int{5}, nil, 0}, {nil, []int{5}, 0},
		{[]int{1}, []int{2}, 1}, {[]int{2}, []int{1}, 1}, {[]int{2}, []int{2}, 1},
		{[]int{1, 3}, []int{2}, 2}, {[]int{2}, []int{1, 3}, 2}, {[]int{1, 2}, []int{3, 4}, 2}, {[]int{3, 4}, []int{1, 2}, 2},
		{[]int{1, 3, 5}, []int{2, 4, 6}, 5}, {[]int{2, 4, 6}, []int{1, 3, 5}, 5},
		{[]int{1, 2, 9}, []int{9, 9}, 3}, {[]int{9, 9}, []int{1, 2, 9}, 4}, {[]int{7, 7, 7}, []int{7, 7}, 3}, {[]int{7, 7}, []int{7, 7, 7}, 2},
		{[]int{-impl.MaxKey, impl.MaxKey}, []int{-impl.MaxKey, impl.MaxKey}, 3},
		{steppedList(full, 0, 1), nil, 0}, {nil, steppedList(full, 0, 1), 0},
		{steppedList(full/2, 0, 2), steppedList(full/2, 1, 2), full - 1}, {steppedList(full/2, 1, 2), steppedList(full/2, 0, 2), full - 1},
		{steppedList(full/2, 0, 1), steppedList(full/2, full/2, 1), full / 2}, {steppedList(full/2, full/2, 1), steppedList(full/2, 0, 1), full / 2},
		{steppedList(full-1, 0, 1), []int{full}, full - 1}, {[]int{full}, steppedList(full-1, 0, 1), full - 1},
		{[]int{-1}, steppedList(full-1, 0, 1), 1}, {steppedList(full-1, 0, 1), []int{-1}, 1},
		{steppedList(full-1, 4, 0), []int{4}, full - 1}, {[]int{4}, steppedList(full-1, 4, 0), 1},
	} {
		a, b := recordsOf(c.a...), recordsOf(c.b...)
		for i := range b {
			b[i].Tag = 499 - i
		}
		checkMerge(t, a, b)
		if _, comparisons, _ := impl.MergeSorted(a, b); comparisons != c.comparisons {
			t.Error("merging the keys", c.a, "and", c.b, "takes", comparisons, "comparisons, not", c.comparisons)
		}
	}
}

// Equal keys of one list keep their order, and those of a precede those of b whatever the tags.
func TestMergeSortedIsStable(t *testing.T) {
	high := ascendingRecords([]int{-3, 0, 8}, 5, 999)
	low := ascendingRecords([]int{-3, 0, 8}, 5, 499)
	for _, a := range high {
		for _, b := range low {
			checkMerge(t, a, b)
			checkMerge(t, b, a)
		}
		checkMerge(t, a, a)
	}
	merged, comparisons, ok := impl.MergeSorted(
		[]impl.Record{{Key: 5, Tag: 7}, {Key: 5, Tag: 3}}, []impl.Record{{Key: 5, Tag: 4}, {Key: 5, Tag: 1}})
	if !ok || comparisons != 2 || !slices.Equal(merged, []impl.Record{{Key: 5, Tag: 7}, {Key: 5, Tag: 3}, {Key: 5, Tag: 4}, {Key: 5, Tag: 1}}) {
		t.Error("the merge of equal keys is", merged, comparisons, ok)
	}
}

func TestMergeSortedLengths(t *testing.T) {
	for _, step := range []int{0, 1} {
		for m := range impl.MaxList + 1 {
			for n := range impl.MaxList + 1 {
				a, b := recordsOf(steppedList(m, 10, step)...), recordsOf(steppedList(n, 25, step)...)
				if m+n <= impl.MaxList {
					checkMerge(t, a, b)
				} else {
					checkNoMerge(t, a, b)
				}
			}
		}
	}
}

func checkNoMerge(t *testing.T, a, b []impl.Record) {
	t.Helper()
	merged, comparisons, ok := impl.MergeSorted(a, b)
	checkNoRecords(t, "MergeSorted", merged, ok)
	checkZeros(t, "MergeSorted", comparisons)
}

func TestMergeSortedInvalid(t *testing.T) {
	invalid := invalidRecords()
	for _, keys := range [][]int{
		{2, 1}, {1, 2, 1}, {2, 1, 2}, {1, 1, 0}, {0, -1, -1}, {impl.MaxKey, -impl.MaxKey}, steppedList(impl.MaxList, 63, -1),
		append(steppedList(impl.MaxList-1, 0, 0), -1), append([]int{1}, steppedList(impl.MaxList-1, 0, 0)...),
	} {
		invalid = append(invalid, recordsOf(keys...))
	}
	valid := [][]impl.Record{nil, {{Key: 1}}, recordsOf(1, 2, 3), recordsOf(steppedList(impl.MaxList, 0, 1)...)}
	for i, bad := range invalid {
		for _, good := range append(valid, invalid[len(invalid)-1-i]) {
			checkNoMerge(t, bad, good)
			checkNoMerge(t, good, bad)
		}
	}
	// Ascending by Key, and invalid for another reason.
	for _, bad := range []impl.Record{{Key: impl.MaxKey + 1}, {Key: impl.MaxKey, Tag: 1000}, {Key: impl.MaxKey, Tag: -1}} {
		checkNoMerge(t, []impl.Record{{Key: 1}, bad}, []impl.Record{{Key: 2}})
		checkNoMerge(t, []impl.Record{{Key: 2}}, []impl.Record{{Key: 1}, bad})
	}
}

func TestMergeSortOfNamedLists(t *testing.T) {
	n := impl.MaxList
	for _, c := range []keysAndCost{
		{nil, 0}, {[]int{5}, 0}, {[]int{1, 2}, 1}, {[]int{2, 1}, 1}, {[]int{2, 2}, 1}, {[]int{3, 1, 2}, 3}, {[]int{1, 2, 3}, 2},
		{[]int{3, 2, 1}, 3}, {[]int{2, 1, 3}, 3}, {[]int{1, 2, 3, 4}, 4}, {[]int{4, 3, 2, 1}, 4}, {[]int{1, 3, 2, 4}, 5},
		// The first part of five records has two of them: 1 + (1 + 1) + 2 comparisons, not 2 + 1 + 3.
		{[]int{1, 2, 3, 4, 5}, 5}, {[]int{1, 2, 4, 5, 3}, 6}, {[]int{4, 5, 1, 2, 3}, 6}, {[]int{1, 4, 2, 3, 5}, 7},
		{steppedList(n, 0, 1), 192}, {steppedList(n, n, -1), 192}, {steppedList(n, 7, 0), 192},
		{steppedList(n-1, 0, 1), 186}, {steppedList(n, impl.MaxKey, -3000), 192},
	} {
		checkRecordSort(t, impl.MergeSort, recordsOf(c.keys...), c.comparisons)
	}
}

func TestMergeSortIsStableAndCountsExactly(t *testing.T) {
	for _, list := range sampleRecords() {
		checkRecordSort(t, impl.MergeSort, list, mergeSortComparisons(list))
	}
}

func TestNaturalRunsOfNamedLists(t *testing.T) {
	n := impl.MaxList
	for _, c := range []struct {
		keys   []int
		counts []int
	}{
		{nil, nil}, {[]int{5}, []int{1}}, {[]int{1, 2}, []int{2}}, {[]int{2, 1}, []int{2}}, {[]int{2, 2}, []int{2}},
		{[]int{3, 2, 1, 1, 5}, []int{3, 2}}, {[]int{1, 1, 1}, []int{3}}, {[]int{1, 2, 2, 3}, []int{4}}, {[]int{3, 2, 1}, []int{3}},
		// An equal key ends a descending run, and one less an ascending run.
		{[]int{2, 1, 1}, []int{2, 1}}, {[]int{2, 2, 1}, []int{2, 1}}, {[]int{3, 2, 2, 1}, []int{2, 2}}, {[]int{3, 3, 2, 1}, []int{2, 2}},
		{[]int{3, 2, 1, 2, 3}, []int{3, 2}}, {[]int{1, 2, 3, 2, 1}, []int{3, 2}}, {[]int{1, 3, 2, 4, 3}, []int{2, 2, 1}},
		{[]int{3, 2, 1, 3, 2, 1}, []int{3, 3}}, {[]int{1, 2, 1, 2, 1, 2}, []int{2, 2, 2}}, {[]int{2, 1, 2, 1, 2}, []int{2, 2, 1}},
		{[]int{-impl.MaxKey, impl.MaxKey}, []int{2}}, {[]int{impl.MaxKey, -impl.MaxKey, impl.MaxKey}, []int{2, 1}},
		{steppedList(n, 0, 1), []int{n}}, {steppedList(n, n, -1), []int{n}}, {steppedList(n, 4, 0), []int{n}},
		{append(steppedList(n-1, 0, 1), 0), []int{n - 1, 1}}, {append(steppedList(n-1, n, -1), n), []int{n - 1, 1}},
		{append(steppedList(n-1, n, -1), 2), []int{n - 1, 1}}, {append([]int{0, 0}, steppedList(n-2, -1, -1)...), []int{2, n - 2}},
		{append([]int{1, 0}, steppedList(n-2, 0, 1)...), []int{2, n - 2}},
	} {
		runs, ok := impl.NaturalRuns(recordsOf(c.keys...))
		want := []impl.Run{}
		from := 0
		for _, count := range c.counts {
			want = append(want, impl.Run{From: from, Count: count})
			from += count
		}
		if !ok || !slices.Equal(runs, want) {
			t.Error("the runs of the keys", c.keys, "are", runs, ok)
		}
	}
}

// isRunOf reports whether the records are of one run, which the first two of them decide.
func isRunOf(records []impl.Record) bool {
	descends := len(records) > 1 && records[0].Key > records[1].Key
	for i := range max(len(records), 1) - 1 {
		if descends != (records[i].Key > records[i+1].Key) {
			return false
		}
	}
	return true
}

// Every run follows the one before it, and none can be longer: together they are all of the list.
func TestNaturalRunsAreMaximal(t *testing.T) {
	for _, list := range sampleRecords() {
		runs, ok := impl.NaturalRuns(list)
		covered := 0
		for i, run := range runs {
			end := run.From + run.Count
			if run.From != covered || run.Count < 1 || end > len(list) || !isRunOf(list[run.From:end]) {
				t.Fatal("run", i, "of", list, "is", run)
			}
			if end < len(list) && isRunOf(list[run.From:end+1]) {
				t.Fatal("run", i, "of", list, "ends before", list[end])
			}
			covered = end
		}
		if !ok || covered != len(list) {
			t.Fatal("the runs of", list, "are", runs, ok)
		}
	}
}

// stackOutcome is what a run stack has done in the end.
type stackOutcome[E any] struct {
	merges []int
	most   int
	rest   []E
}

// runOnStack does to the runs what the document says of a run stack, and in its words.
func runOnStack[E any](runs []E, size func(E) int, join func(lower, upper E) E) stackOutcome[E] {
	var o stackOutcome[E]
	merge := func(lower int) {
		o.rest[lower] = join(o.rest[lower], o.rest[lower+1])
		o.rest = append(o.rest[:lower+1], o.rest[lower+2:]...)
		o.merges = append(o.merges, lower)
	}
	depth := func(fromTop int) int { return size(o.rest[len(o.rest)-1-fromTop]) }
	x, y, z, w := 0, 1, 2, 3
	for _, run := range runs {
		o.rest = append(o.rest, run)
		o.most = max(o.most, len(o.rest))
		for n := len(o.rest); n >= 2; n = len(o.rest) {
			if n >= 3 && depth(z) <= depth(x)+depth(y) || n >= 4 && depth(w) <= depth(z)+depth(y) {
				if depth(z) >= depth(x) {
					merge(n - 2)
				} else {
					merge(n - 3)
				}
			} else if depth(y) <= depth(x) {
				merge(n - 2)
			} else {
				break
			}
		}
	}
	for n := len(o.rest); n >= 2; n = len(o.rest) {
		if n >= 3 && depth(z) < depth(x) {
			merge(n - 3)
		} else {
			merge(n - 2)
		}
	}
	return o
}

func checkRunMerges(t *testing.T, counts []int) {
	t.Helper()
	want := runOnStack(counts, func(n int) int { return n }, func(a, b int) int { return a + b })
	merges, most, ok := impl.RunMerges(counts)
	if !ok || most != want.most || !slices.Equal(merges, want.merges) {
		t.Fatal("the merges of", counts, "are", merges, most, ok, "not", want.merges, want.most)
	}
	if len(counts) > 0 && (len(merges) != len(counts)-1 || len(want.rest) != 1 || most < 1 || most > len(counts)) {
		t.Fatal("the merges of", counts, "leave", len(counts)-len(merges), "runs, of", most, "at most")
	}
}

func TestRunMergesOfNamedLengths(t *testing.T) {
	// Every length exceeds the sum of the next two, as deep as MaxKey permits.
	deep := []int{1, 2}
	for n := 4; n <= impl.MaxKey; n = deep[len(deep)-1] + deep[len(deep)-2] + 1 {
		deep = append(deep, n)
	}
	slices.Reverse(deep)
	if len(deep) != 23 {
		t.Error("there are", len(deep), "lengths")
	}
	for _, c := range []struct {
		counts, merges []int
		most           int
	}{
		{nil, nil, 0}, {[]int{}, nil, 0}, {[]int{1}, nil, 1}, {[]int{impl.MaxKey}, nil, 1},
		// Y <= X, with two entries and with three.
		{[]int{1, 1}, []int{0}, 2}, {[]int{1, 2}, []int{0}, 2}, {[]int{2, 1}, []int{0}, 2}, {[]int{1, 4, 2}, []int{0, 0}, 2},
		{[]int{2, 3, 1}, []int{0, 0}, 2}, {[]int{10, 2, 3, 1}, []int{1, 1, 0}, 3}, {[]int{10, 3, 3, 1}, []int{1, 1, 0}, 3},
		{[]int{impl.MaxKey, impl.MaxKey}, []int{0}, 2},
		// Z <= X + Y, with Z >= X, also by equality, and with Z < X.
		{[]int{5, 2, 4}, []int{1, 0}, 3}, {[]int{3, 2, 1, 1}, []int{1, 0, 0}, 3}, {[]int{4, 2, 1, 1}, []int{2, 1, 0}, 4},
		{[]int{10, 4, 2, 3}, []int{2, 1, 0}, 4}, {[]int{3, 2, 3}, []int{1, 0}, 3}, {[]int{3, 2, 4}, []int{0, 0}, 3}, {[]int{3, 2, 4, 3}, []int{0, 1, 0}, 3},
		// W <= Z + Y, by less and by equality, after a merge of Z with Y.
		{[]int{120, 80, 25, 20, 30}, []int{2, 2, 1, 0}, 5}, {[]int{125, 80, 25, 20, 30}, []int{2, 2, 1, 0}, 5},
		{[]int{126, 80, 25, 20, 30}, []int{2, 2, 1, 0}, 5}, {[]int{126, 80, 25, 20, 30, 1}, []int{2, 3, 2, 1, 0}, 5},
		{[]int{125, 80, 25, 20, 30, 1}, []int{2, 2, 1, 0, 0}, 5},
		// After the last push no rule is left but to merge from the top.
		{[]int{4, 2, 1}, []int{1, 0}, 3}, {[]int{7, 4, 2, 1}, []int{2, 1, 0}, 4},
		{slices.Repeat([]int{1}, 8), []int{0, 1, 0, 1, 2, 1, 0}, 4},
		{deep, steppedList(22, 21, -1), 23}, {steppedList(5, 1, 1), []int{0, 0, 1, 0}, 3},
	} {
		merges, most, ok := impl.RunMerges(c.counts)
		if !ok || most != c.most || !slices.Equal(merges, c.merges) {
			t.Error("the merges of", c.counts, "are", merges, most, ok, "not", c.merges, c.most)
		}
		checkRunMerges(t, c.counts)
	}
}

func TestRunMergesOfAllShortLengths(t *testing.T) {
	for length := range 8 {
		for counts := range listsOver([]int{1, 2, 3, 5, 9}, length) {
			checkRunMerges(t, counts)
		}
	}
	for length := range 6 {
		for counts := range listsOver([]int{1, 2, 3, 4, 5, 6, 7, 8, 9}, length) {
			checkRunMerges(t, counts)
		}
	}
}

// manyLengths are lists of the number of lengths, each list with another spread of them.
func manyLengths(number int) [][]int {
	lists := [][]int{}
	for _, modulus := range []int{1, 2, 3, 7, 20, 101, 2503, impl.MaxKey} {
		for step := 1; step < 200; step += 6 {
			counts := make([]int, number)
			for i := range counts {
				counts[i] = (i*i*step+i*7919+step)%modulus + 1
			}
			lists = append(lists, counts)
		}
	}
	return lists
}

func TestRunMergesOfManyLengths(t *testing.T) {
	for _, number := range []int{5, 9, 17, 32, impl.MaxRuns - 1, impl.MaxRuns} {
		for _, counts := range manyLengths(number) {
			checkRunMerges(t, counts)
			// An ascending half makes for early merges, and a descending one for a high stack.
			slices.Sort(counts[:number/2])
			checkRunMerges(t, counts)
			slices.Reverse(counts)
			checkRunMerges(t, counts)
		}
	}
	for _, counts := range [][]int{
		slices.Repeat([]int{1}, impl.MaxRuns), slices.Repeat([]int{impl.MaxKey}, impl.MaxRuns),
		steppedList(impl.MaxRuns, 1, 1), steppedList(impl.MaxRuns, impl.MaxKey, -1), slices.Repeat([]int{impl.MaxKey, 1}, impl.MaxRuns/2),
	} {
		checkRunMerges(t, counts)
	}
}

func TestRunMergesInvalid(t *testing.T) {
	invalid := [][]int{slices.Repeat([]int{1}, impl.MaxRuns+1), slices.Repeat([]int{1}, 1<<20), steppedList(impl.MaxRuns+1, 100, -1), make([]int, 1<<20)}
	for _, bad := range []int{0, -1, impl.MaxKey + 1, -impl.MaxKey, math.MinInt, math.MaxInt, 1 << 32} {
		invalid = append(invalid, []int{bad}, []int{bad, 1}, []int{1, bad}, []int{3, bad, 2}, append(steppedList(impl.MaxRuns-1, 50, -1), bad))
	}
	for _, counts := range invalid {
		merges, most, ok := impl.RunMerges(counts)
		checkNone(t, "RunMerges", merges, ok)
		checkZeros(t, "RunMerges", most)
	}
	if impl.MaxRuns != 40 {
		t.Error("MaxRuns is not that of the document")
	}
}

// adaptiveComparisons puts the runs of list, the descending ones reversed, on a stack that merges
// them as the document says, and adds up the comparisons.
func adaptiveComparisons(list []impl.Record) int {
	parts := [][]impl.Record{}
	for start, end := 0, 0; start < len(list); start = end {
		for end = start + 1; end < len(list) && isRunOf(list[start:end+1]); {
			end++
		}
		parts = append(parts, arrangedByIndex(list[start:end]))
	}
	sum := 0
	runOnStack(parts, func(part []impl.Record) int { return len(part) }, func(a, b []impl.Record) []impl.Record {
		sum += mergeComparisons(a, b)
		return arrangedByIndex(slices.Concat(a, b))
	})
	return sum
}

func TestAdaptiveSortOfNamedLists(t *testing.T) {
	n := impl.MaxList
	for _, c := range []keysAndCost{
		{nil, 0}, {[]int{5}, 0}, {[]int{1, 2}, 0}, {[]int{2, 1}, 0}, {[]int{1, 2, 2, 9}, 0}, {[]int{3, 2, 1}, 0},
		{[]int{3, 2, 1, 1, 5}, 4}, {[]int{2, 1, 1}, 2}, {[]int{2, 2, 1}, 1}, {[]int{3, 2, 1, 3, 2, 1}, 5},
		{[]int{1, 4, 3, 6, 5, 2}, 8},
		{steppedList(n, 0, 1), 0}, {steppedList(n, n, -1), 0}, {steppedList(n, 4, 0), 0},
		{append(steppedList(n-1, 0, 1), -1), 1}, {append(steppedList(n-1, n, -1), n), n - 1},
		{slices.Repeat(steppedList(n/2, 0, 1), 2), n - 1}, {append(steppedList(n/2, n, 1), steppedList(n/2, 0, 1)...), n / 2},
		// 32 runs of one 0 and one 1 each, merged in five rounds of 48 comparisons.
		{slices.Repeat([]int{1, 0}, n/2), 240},
	} {
		checkRecordSort(t, impl.AdaptiveSort, recordsOf(c.keys...), c.comparisons)
	}
}

func TestAdaptiveSortIsStableAndCountsExactly(t *testing.T) {
	for _, list := range sampleRecords() {
		checkRecordSort(t, impl.AdaptiveSort, list, adaptiveComparisons(list))
	}
}

// A list costs nothing if and only if it is one run, or none.
func TestAdaptiveSortIsFreeForOneRun(t *testing.T) {
	for _, list := range sampleRecords() {
		runs, _ := impl.NaturalRuns(list)
		if _, comparisons, ok := impl.AdaptiveSort(list); !ok || (comparisons == 0) != (len(runs) <= 1) {
			t.Fatal(list, "has", len(runs), "runs and takes", comparisons, "comparisons", ok)
		}
	}
}

func TestRecordSortsInvalid(t *testing.T) {
	for _, list := range invalidRecords() {
		sorted, comparisons, ok := impl.MergeSort(list)
		checkNoRecords(t, "MergeSort", sorted, ok)
		checkZeros(t, "MergeSort", comparisons)
		sorted, comparisons, ok = impl.AdaptiveSort(list)
		checkNoRecords(t, "AdaptiveSort", sorted, ok)
		checkZeros(t, "AdaptiveSort", comparisons)
		runs, ok := impl.NaturalRuns(list)
		checkNone(t, "NaturalRuns", make([]int, len(runs)), ok)
	}
}

// gallopComparisons counts the comparisons of a search from hint in a list of n elements, the first
// below of which are less than x.
func gallopComparisons(n, below, hint int) int {
	comparisons, lo, hi := 1, 0, n
	if hint < below {
		lo = hint + 1
		for at, step := hint+1, 2; at < n; at, step = at+step, step*2 {
			comparisons++
			if at >= below {
				hi = at
				break
			}
			lo = at + 1
		}
	} else {
		hi = hint
		for at, step := hint-1, 2; at >= 0; at, step = at-step, step*2 {
			comparisons++
			if at < below {
				lo = at + 1
				break
			}
			hi = at
		}
	}
	return comparisons + searchSteps(hi-lo, below-lo)
}

func checkGallop(t *testing.T, list []int, x, hint int) {
	t.Helper()
	below := 0
	for _, e := range list {
		if e < x {
			below++
		}
	}
	count, comparisons, ok := impl.GallopSearch(list, x, hint)
	if want := gallopComparisons(len(list), below, hint); !ok || count != below || comparisons != want {
		t.Fatal("the search for", x, "from", hint, "in", list, "returned", count, comparisons, ok, "not", below, want)
	}
}

func TestGallopSearchOfNamedLists(t *testing.T) {
	n := impl.MaxList
	odd, all, equal := []int{1, 3, 5, 7}, steppedList(n, 0, 1), steppedList(n, 5, 0)
	least, greatest := -impl.MaxKey, impl.MaxKey
	for _, c := range []struct {
		list                        []int
		x, hint, count, comparisons int
	}{
		{odd, 7, 0, 3, 4}, {odd, 1, 0, 0, 1}, {odd, 0, 3, 0, 3}, {odd, 8, 3, 4, 1}, {odd, 4, 1, 2, 2}, {odd, 8, 0, 4, 3},
		{odd, 0, 0, 0, 1}, {odd, 6, 3, 3, 2}, {odd, 4, 3, 2, 4}, {odd, 7, 3, 3, 2}, {odd, 4, 2, 2, 2}, {odd, 6, 1, 3, 3},
		{[]int{5}, 5, 0, 0, 1}, {[]int{5}, 4, 0, 0, 1}, {[]int{5}, 6, 0, 1, 1},
		{[]int{least, greatest}, least, 0, 0, 1}, {[]int{least, greatest}, greatest, 0, 1, 2}, {[]int{least, greatest}, greatest, 1, 1, 2},
		{[]int{greatest}, greatest, 0, 0, 1}, {[]int{least}, greatest, 0, 1, 1}, {[]int{greatest}, least, 0, 0, 1},
		{all, 0, 0, 0, 1}, {all, -1, 0, 0, 1}, {all, n, n - 1, n, 1}, {all, n, 0, n, 7}, {all, n - 1, 0, n - 1, 12}, {all, 1, 0, 1, 2},
		{all, 0, n - 1, 0, 7}, {all, least, n - 1, 0, 7}, {all, 1, n - 1, 1, 12}, {all, n - 1, n - 1, n - 1, 2}, {all, greatest, n - 1, n, 1},
		{equal, 5, 0, 0, 1}, {equal, 5, n - 1, 0, 7}, {equal, 6, 0, n, 7}, {equal, 6, n - 1, n, 1}, {equal, 4, n - 1, 0, 7},
	} {
		count, comparisons, ok := impl.GallopSearch(c.list, c.x, c.hint)
		if !ok || count != c.count || comparisons != c.comparisons {
			t.Error("the search for", c.x, "from", c.hint, "in", c.list, "returned", count, comparisons, ok)
		}
		checkGallop(t, c.list, c.x, c.hint)
	}
}

func TestGallopSearchFromEveryHint(t *testing.T) {
	for n := 1; n <= impl.MaxList; n++ {
		list := steppedList(n, -n, 2)
		for hint := range n {
			for x := -n - 1; x <= n; x++ {
				checkGallop(t, list, x, hint)
			}
		}
	}
	for length := 1; length <= 8; length++ {
		for list := range listsOver([]int{-2, 0, 7}, length) {
			if !slices.IsSorted(list) {
				continue
			}
			for hint := range list {
				for _, x := range []int{-impl.MaxKey, -3, -2, -1, 0, 3, 7, 8, impl.MaxKey} {
					checkGallop(t, list, x, hint)
				}
			}
		}
	}
}

func checkNoGallop(t *testing.T, list []int, x, hint int) {
	t.Helper()
	count, comparisons, ok := impl.GallopSearch(list, x, hint)
	checkNone(t, "GallopSearch", nil, ok)
	checkZeros(t, "GallopSearch", count, comparisons)
}

func TestGallopSearchInvalid(t *testing.T) {
	n := impl.MaxList
	lists := append(invalidLists(), nil, []int{}, []int{2, 1}, []int{1, 2, 1}, []int{2, 1, 2}, []int{1, 1, 0}, []int{0, 1, 2, 3, 2},
		steppedList(n, n, -1), append(steppedList(n-1, 0, 0), -1), steppedList(n+1, 0, 1), []int{0, 1, impl.MaxKey + 1}, []int{-impl.MaxKey - 1, 0, 1})
	for _, list := range lists {
		for _, hint := range []int{0, 1, len(list) - 1, -1} {
			for _, x := range []int{0, 1, impl.MaxKey, -impl.MaxKey, math.MaxInt} {
				checkNoGallop(t, list, x, hint)
			}
		}
	}
	for _, list := range [][]int{{1}, {0, 1, 2}, steppedList(n, 0, 1), {-impl.MaxKey, impl.MaxKey}} {
		for _, hint := range []int{-1, len(list), len(list) + 1, -len(list), math.MinInt, math.MaxInt, 1 << 32} {
			checkNoGallop(t, list, 0, hint)
			checkNoGallop(t, withSpare(list), 1, hint)
		}
		for _, x := range []int{impl.MaxKey + 1, -impl.MaxKey - 1, math.MinInt, math.MaxInt, 1 << 32} {
			checkNoGallop(t, list, x, 0)
			checkNoGallop(t, list, x, len(list)-1)
		}
	}
}

// recordFunctions are the functions of the chapter that take one record list.
func recordFunctions() []func(list []impl.Record) []impl.Record {
	return []func(list []impl.Record) []impl.Record{
		func(list []impl.Record) []impl.Record { sorted, _, _ := impl.MergeSort(list); return sorted },
		func(list []impl.Record) []impl.Record { sorted, _, _ := impl.AdaptiveSort(list); return sorted },
		func(list []impl.Record) []impl.Record { merged, _, _ := impl.MergeSorted(list, nil); return merged },
		func(list []impl.Record) []impl.Record { merged, _, _ := impl.MergeSorted(nil, list); return merged },
		func(list []impl.Record) []impl.Record { impl.NaturalRuns(list); return nil },
	}
}

func TestRecordFunctionsLeaveTheirArguments(t *testing.T) {
	for _, original := range append(sampleRecords(), invalidRecords()...) {
		for i, function := range recordFunctions() {
			list := recordsWithSpare(original)
			overwriteRecords(function(list))
			if !areUntouched(list, original) {
				t.Fatal("function", i, "changed its argument of", len(list), "records, or shares its memory")
			}
		}
	}
}

func TestMergeSortedLeavesItsArguments(t *testing.T) {
	lists := append(ascendingRecords([]int{1, 2, 3}, 4, 999), invalidRecords()...)
	lists = append(lists, recordsOf(2, 1), recordsOf(steppedList(impl.MaxList/2, 0, 2)...), recordsOf(steppedList(impl.MaxList, 0, 2)...))
	for _, originalA := range lists {
		for _, originalB := range lists {
			a, b := recordsWithSpare(originalA), recordsWithSpare(originalB)
			merged, _, _ := impl.MergeSorted(a, b)
			overwriteRecords(merged)
			if !areUntouched(a, originalA) || !areUntouched(b, originalB) {
				t.Fatal("MergeSorted changed its arguments of", len(a), "and", len(b), "records, or shares their memory")
			}
		}
	}
	// One slice as both lists, and both lists in one slice.
	all := recordsOf(1, 2, 2, 3)
	before := slices.Clone(all)
	checkMerge(t, all, all)
	checkMerge(t, all[:2], all[2:])
	checkMerge(t, all[2:], all[:2])
	if !slices.Equal(all, before) {
		t.Error("MergeSorted changed its arguments to", all)
	}
}

func TestRunMergesAndGallopSearchLeaveTheirArguments(t *testing.T) {
	for _, original := range [][]int{nil, {}, {4}, {1, 2, 3}, {3, 2, 4}, {2, 1}, {0}, steppedList(impl.MaxRuns, 40, -1), steppedList(impl.MaxRuns, 1, 1), make([]int, 1<<10)} {
		list := withSpare(original)
		merges, _, _ := impl.RunMerges(list)
		overwrite(merges)
		if !isUntouched(list, original) {
			t.Error("RunMerges changed its", len(list), "lengths, or shares their memory")
		}
		impl.GallopSearch(list, 2, 0)
		impl.GallopSearch(list, 2, len(list)-1)
		if !isUntouched(list, original) {
			t.Error("GallopSearch changed its list of", len(list), "elements")
		}
	}
}

// Records and elements beyond the length count nowhere, and every call returns new memory.
func TestMergingReadsAndKeepsNothingElse(t *testing.T) {
	list := recordsOf(3, 5, 1, 5, 4)
	for i, function := range recordFunctions() {
		for _, argument := range [][]impl.Record{list, recordsOf(1, 2, 2), recordsOf(4)} {
			first := slices.Clone(function(recordsWithSpare(argument)))
			overwriteRecords(function(argument))
			if again := function(argument); !slices.Equal(again, first) {
				t.Error("function", i, "returned", again, "after", first)
			}
		}
	}
	for range 2 {
		runs, ok := impl.NaturalRuns(recordsWithSpare(list))
		if !ok || !slices.Equal(runs, []impl.Run{{From: 0, Count: 2}, {From: 2, Count: 2}, {From: 4, Count: 1}}) {
			t.Error("the runs are", runs, ok)
		}
		overwriteWith(impl.Run{From: 7, Count: 7}, runs)
		merges, most, ok := impl.RunMerges(withSpare([]int{5, 2, 4}))
		if !ok || most != 3 || !slices.Equal(merges, []int{1, 0}) {
			t.Error("the merges are", merges, most, ok)
		}
		overwrite(merges)
		checkGallop(t, withSpare([]int{1, 3, 5, 7}), 8, 0)
	}
}
