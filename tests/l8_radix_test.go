package tests

import (
	"cmp"
	"math"
	"slices"
	"testing"

	"loop.example/g00907/impl"
)

// allBases are the valid bases, and allPlaces the valid places.
func allBases() []int { return steppedList(255, 2, 1) }

func allPlaces() []int { return steppedList(18, 0, 1) }

func invalidBases() []int {
	return []int{1, 0, -1, 257, -2, -10, 258, 512, math.MinInt, math.MaxInt, 1 << 32, 1<<32 + 10}
}

func invalidPlaces() []int {
	return []int{-1, 18, -2, 19, 64, 256, math.MinInt, math.MaxInt, 1 << 32, 1<<32 + 1}
}

// basePlace is a base and a place.
type basePlace struct{ base, place int }

// someBasePlaces are all bases with a few places, and a few bases with all places.
func someBasePlaces() []basePlace {
	pairs := []basePlace{}
	for _, base := range allBases() {
		for _, place := range []int{0, 1, 2, 17} {
			pairs = append(pairs, basePlace{base, place})
		}
	}
	for _, base := range []int{2, 3, 7, 10, 16, 255, 256} {
		for _, place := range allPlaces() {
			pairs = append(pairs, basePlace{base, place})
		}
	}
	return pairs
}

// invalidBasePlaces have an invalid base, an invalid place, or both.
func invalidBasePlaces() []basePlace {
	pairs := []basePlace{}
	for _, base := range invalidBases() {
		for _, place := range append(allPlaces(), invalidPlaces()...) {
			pairs = append(pairs, basePlace{base, place})
		}
	}
	for _, place := range invalidPlaces() {
		for _, base := range []int{2, 3, 10, 255, 256} {
			pairs = append(pairs, basePlace{base, place})
		}
	}
	return pairs
}

// digitModel divides by a power of the base, unless the power exceeds all shifted keys.
func digitModel(key, base, place int) int {
	power := 1
	for range place {
		power *= base
		if power > 2*impl.MaxKey {
			return 0
		}
	}
	return (key + impl.MaxKey) / power % base
}

// passesModel tries how many digits the greatest shifted key fits in.
func passesModel(list []impl.Record, base int) int {
	passes, power := 0, 1
	for _, r := range list {
		for passes == 0 || r.Key+impl.MaxKey >= power {
			power *= base
			passes++
		}
	}
	return passes
}

func passModel(list []impl.Record, base, place int) []impl.Record {
	sorted := slices.Clone(list)
	slices.SortStableFunc(sorted, func(a, b impl.Record) int {
		return cmp.Compare(digitModel(a.Key, base, place), digitModel(b.Key, base, place))
	})
	return sorted
}

// flagModel keeps the elements that no exchange has put into their bucket yet in one queue for each
// bucket. The front of a queue goes to the bucket of its digit; if that is another one, the front of
// its queue takes the place in the first queue.
func flagModel(list []int, base, place int) ([]int, int) {
	sizes, queues, placed := make([]int, base), make([][]int, base), make([][]int, base)
	for _, e := range list {
		sizes[digitModel(e, base, place)]++
	}
	rest := slices.Clone(list)
	for d, size := range sizes {
		queues[d], rest = rest[:size], rest[size:]
	}
	exchanges := 0
	for b := range queues {
		for len(queues[b]) > 0 {
			e := queues[b][0]
			d := digitModel(e, base, place)
			placed[d] = append(placed[d], e)
			if d != b {
				queues[b][0] = queues[d][0]
				exchanges++
			}
			queues[d] = queues[d][1:]
		}
	}
	return slices.Concat(placed...), exchanges
}

// radixSamples are valid lists: those of all lengths up to MaxList, with keys near each other and
// over the whole range, with and without equal keys.
func radixSamples() [][]int {
	lists := append(validLists(), nil, []int{-1}, []int{45}, []int{1, 0, 1, 0}, []int{3, 1, 2})
	for length := range 4 {
		lists = slices.AppendSeq(lists, listsOver([]int{-impl.MaxKey, 0, impl.MaxKey}, length))
	}
	n := impl.MaxList
	return append(lists,
		steppedList(n, -impl.MaxKey, 3174), steppedList(n, impl.MaxKey, -3174), steppedList(n, -impl.MaxKey, 1), steppedList(n, impl.MaxKey, -1),
		steppedList(n, -32, 1), steppedList(n, 32, -1), steppedList(n, -8000, 256), steppedList(n, 8000, -255), steppedList(n, 4, 0),
		steppedList(33, -99000, -17), slices.Repeat([]int{impl.MaxKey, -impl.MaxKey}, n/2), slices.Repeat([]int{2, 0, 1}, n/3),
		steppedPermutation(n, 27, 60), steppedPermutation(n, 1, 1), steppedPermutation(n, 5, 3)[:40])
}

// radixRecords are records with the keys of the samples.
func radixRecords() [][]impl.Record {
	lists := [][]impl.Record{}
	for _, keys := range radixSamples() {
		lists = append(lists, recordsOf(keys...))
	}
	return lists
}

// taggedRecords returns records of pairs of a key and a tag.
func taggedRecords(pairs ...[2]int) []impl.Record {
	list := []impl.Record{}
	for _, pair := range pairs {
		list = append(list, impl.Record{Key: pair[0], Tag: pair[1]})
	}
	return list
}

// checkRecords checks that a call has returned the records and true.
func checkRecords(t *testing.T, what string, list []impl.Record, ok bool, want []impl.Record) {
	t.Helper()
	if !ok || !slices.Equal(list, want) {
		t.Fatal(what, "returned", list, ok, "instead of", want)
	}
}

func TestRadixLimits(t *testing.T) {
	if impl.MaxBase != 256 || impl.MaxRange != 1000 {
		t.Error("the limits are not those of the document")
	}
}

func TestCountingSortExample(t *testing.T) {
	sorted, ok := impl.CountingSort(taggedRecords([2]int{2, 1}, [2]int{0, 2}, [2]int{2, 3}), 0, 2)
	checkRecords(t, "CountingSort", sorted, ok, taggedRecords([2]int{0, 2}, [2]int{2, 1}, [2]int{2, 3}))
}

func TestCountingSortOfNamedRanges(t *testing.T) {
	least, greatest, width := -impl.MaxKey, impl.MaxKey, impl.MaxRange
	for _, c := range []struct {
		keys      []int
		low, high int
		ok        bool
	}{
		// Low equal to high.
		{nil, 0, 0, true}, {[]int{7}, 7, 7, true}, {[]int{7, 7, 7}, 7, 7, true}, {[]int{8}, 7, 7, false}, {[]int{6}, 7, 7, false},
		{[]int{0}, 0, 0, true}, {[]int{least, least}, least, least, true}, {[]int{greatest, greatest}, greatest, greatest, true},
		// The widest range, and one more.
		{[]int{width, 0, 500, width, 0}, 0, width, true}, {[]int{width, 0}, 0, width + 1, false}, {[]int{1, 0}, 0, width + 1, false}, {nil, 0, width + 1, false},
		{[]int{width - 3, -3}, -3, width - 3, true}, {[]int{width - 3, -3}, -3, width - 2, false}, {nil, -3, width - 3, true}, {nil, -3, width - 2, false},
		{[]int{least + width, least}, least, least + width, true}, {[]int{least + width, least}, least, least + width + 1, false},
		{[]int{greatest, greatest - width}, greatest - width, greatest, true}, {[]int{greatest, greatest - width}, greatest - width, greatest + 1, false},
		// Only low is restricted to the keys.
		{[]int{greatest, greatest}, greatest, greatest + 1, true}, {[]int{greatest}, greatest, greatest + width, true}, {[]int{greatest}, greatest, greatest + width + 1, false},
		{nil, greatest, greatest + width, true}, {nil, greatest, greatest + width + 1, false},
		{[]int{greatest, greatest - 1}, greatest - 1, greatest + width - 1, true}, {[]int{greatest + 1}, greatest, greatest + width, false},
		{[]int{least}, least - 1, least, false}, {nil, least - 1, least, false}, {nil, least - 1, least - 1, false}, {[]int{least}, least - 1, least + width - 1, false},
		{nil, greatest + 1, greatest + 1, false}, {nil, greatest + 1, greatest + 2, false},
		// High below low.
		{nil, 1, 0, false}, {nil, 0, -1, false}, {[]int{1}, 1, 0, false}, {[]int{0}, 1, 0, false}, {nil, greatest, least, false}, {nil, width, 0, false},
		// A key just outside.
		{[]int{3, 5, 4}, 3, 5, true}, {[]int{3, 5, 4}, 2, 6, true}, {[]int{3, 5, 4}, 4, 5, false}, {[]int{3, 5, 4}, 3, 4, false},
		{[]int{3, 5, 2}, 3, 5, false}, {[]int{2, 3, 5}, 3, 5, false}, {[]int{3, 6, 5}, 3, 5, false}, {[]int{3, 5, 6}, 3, 5, false},
		{[]int{width + 1}, 0, width, false}, {[]int{-1}, 0, width, false}, {[]int{greatest}, least, least + width, false}, {[]int{least}, greatest, greatest, false},
		// Limits that do not fit in fewer bits, or whose difference does not fit in an int.
		{nil, 0, math.MaxInt, false}, {nil, -1, math.MaxInt, false}, {nil, math.MinInt, 0, false}, {nil, math.MinInt, math.MinInt, false}, {nil, math.MinInt, math.MaxInt, false},
		{nil, math.MaxInt, math.MaxInt, false}, {nil, math.MaxInt, math.MinInt, false}, {nil, math.MaxInt - 3, math.MinInt + 3, false}, {[]int{5}, math.MinInt, 10, false},
		{[]int{5}, 0, 1<<32 + 10, false}, {nil, 1 << 32, 1 << 32, false}, {[]int{5}, -1 << 32, 10, false}, {nil, 0, math.MinInt, false}, {nil, greatest, math.MaxInt, false},
	} {
		list := recordsOf(c.keys...)
		sorted, ok := impl.CountingSort(list, c.low, c.high)
		if !c.ok {
			checkNoRecords(t, "CountingSort", sorted, ok)
		} else if !ok || !slices.Equal(sorted, arrangedByIndex(list)) {
			t.Error("CountingSort returned", sorted, ok)
		}
		if t.Failed() {
			t.Fatal("the keys are", c.keys, "and the range is", c.low, c.high)
		}
	}
}

// Every range around the keys of a list sorts it or is refused, as the document says.
func TestCountingSortIsTheStableSort(t *testing.T) {
	accepted, refused := 0, 0
	for _, keys := range sampleLists() {
		if len(keys) == 0 {
			continue
		}
		list := recordsOf(keys...)
		want, _ := impl.StableSort(list)
		least, greatest := slices.Min(keys), slices.Max(keys)
		for _, low := range []int{least, least - 1, least + 1, greatest - impl.MaxRange, greatest - impl.MaxRange - 1, -impl.MaxKey} {
			for _, high := range []int{greatest, greatest + 1, greatest - 1, low + impl.MaxRange, low + impl.MaxRange + 1, low, low - 1} {
				sorted, ok := impl.CountingSort(list, low, high)
				if -impl.MaxKey <= low && low <= least && greatest <= high && high-low <= impl.MaxRange {
					checkRecords(t, "CountingSort", sorted, ok, want)
					accepted++
				} else {
					checkNoRecords(t, "CountingSort of keys or a range out of range", sorted, ok)
					refused++
				}
			}
		}
	}
	if accepted == 0 || refused == 0 {
		t.Error(accepted, "ranges were accepted and", refused, "refused")
	}
}

func TestCountingSortOfTheWidestRange(t *testing.T) {
	for _, low := range []int{-impl.MaxKey, -500, 0, 1, impl.MaxKey - impl.MaxRange} {
		for key := low; key <= low+impl.MaxRange; key++ {
			list := recordsOf(key, low+impl.MaxRange, low, key, low, low+impl.MaxRange)
			sorted, ok := impl.CountingSort(list, low, low+impl.MaxRange)
			checkRecords(t, "CountingSort", sorted, ok, arrangedByIndex(list))
		}
	}
}

func TestDigitOfNamedKeys(t *testing.T) {
	for _, c := range []struct{ key, base, place, digit int }{
		{45, 10, 1, 4}, {45, 10, 5, 1}, {45, 10, 0, 5}, {45, 10, 2, 0}, {45, 10, 4, 0}, {45, 10, 6, 0}, {45, 10, 17, 0},
		{0, 10, 5, 1}, {0, 10, 0, 0}, {-1, 10, 0, 9}, {-1, 10, 4, 9}, {-1, 10, 5, 0}, {-45, 10, 0, 5}, {-45, 10, 1, 5}, {-45, 10, 2, 9},
		{impl.MaxKey, 10, 5, 2}, {impl.MaxKey, 10, 4, 0}, {-impl.MaxKey, 10, 0, 0}, {-impl.MaxKey, 10, 5, 0}, {1 - impl.MaxKey, 10, 0, 1},
		{impl.MaxKey, 2, 17, 1}, {impl.MaxKey, 2, 16, 1}, {impl.MaxKey, 2, 15, 0}, {impl.MaxKey, 2, 6, 1}, {impl.MaxKey, 2, 5, 0}, {impl.MaxKey, 2, 0, 0},
		{31072, 2, 17, 1}, {31071, 2, 17, 0}, {31071, 2, 16, 1}, {31072, 2, 16, 0}, {1, 2, 0, 1}, {-1, 2, 0, 1}, {-impl.MaxKey, 2, 17, 0},
		{impl.MaxKey, 256, 0, 64}, {impl.MaxKey, 256, 1, 13}, {impl.MaxKey, 256, 2, 3}, {impl.MaxKey, 256, 3, 0}, {impl.MaxKey, 256, 8, 0}, {impl.MaxKey, 256, 17, 0},
		{255 - impl.MaxKey, 256, 0, 255}, {256 - impl.MaxKey, 256, 0, 0}, {256 - impl.MaxKey, 256, 1, 1}, {65535 - impl.MaxKey, 256, 1, 255},
		{254 - impl.MaxKey, 255, 0, 254}, {255 - impl.MaxKey, 255, 0, 0}, {255 - impl.MaxKey, 255, 1, 1}, {impl.MaxKey, 255, 2, 3}, {impl.MaxKey, 255, 17, 0},
		{45, 7, 0, 1}, {45, 7, 1, 5}, {45, 7, 2, 4}, {45, 7, 3, 4}, {45, 7, 4, 6}, {45, 7, 5, 5}, {45, 7, 6, 0},
		{0, 3, 0, 1}, {1, 3, 0, 2}, {2, 3, 0, 0}, {impl.MaxKey, 3, 11, 1}, {impl.MaxKey, 3, 12, 0}, {impl.MaxKey, 16, 4, 3}, {impl.MaxKey, 16, 16, 0},
	} {
		if digit, ok := impl.DigitOf(c.key, c.base, c.place); !ok || digit != c.digit {
			t.Error("the digit of", c.key, "in base", c.base, "at place", c.place, "is", digit, ok, "instead of", c.digit)
		}
	}
}

// checkDigits checks that the digits of a key in a base are those of the only number with its value.
func checkDigits(t *testing.T, key, base int) {
	t.Helper()
	value := 0
	for place := 17; place >= 0; place-- {
		digit, ok := impl.DigitOf(key, base, place)
		if !ok || digit < 0 || digit >= base {
			t.Fatal("the digit of", key, "in base", base, "at place", place, "is", digit, ok)
		}
		value = value*base + digit
	}
	if value != key+impl.MaxKey {
		t.Fatal("the digits of", key, "in base", base, "are those of", value)
	}
}

func TestDigitsAreThoseOfTheShiftedKey(t *testing.T) {
	for _, base := range allBases() {
		for key := -impl.MaxKey; key <= impl.MaxKey; key += 193 {
			checkDigits(t, key, base)
		}
		for distance := range 300 {
			checkDigits(t, -impl.MaxKey+distance, base)
			checkDigits(t, impl.MaxKey-distance, base)
		}
	}
	for _, base := range []int{2, 10, 256} {
		for key := -impl.MaxKey; key <= impl.MaxKey; key++ {
			checkDigits(t, key, base)
		}
	}
}

func TestDigitOfInvalid(t *testing.T) {
	check := func(key int, p basePlace) {
		digit, ok := impl.DigitOf(key, p.base, p.place)
		checkNone(t, "DigitOf", nil, ok)
		checkZeros(t, "DigitOf", digit)
		if t.Failed() {
			t.Fatal("the key is", key, "and the base and the place are", p)
		}
	}
	for _, p := range invalidBasePlaces() {
		for _, key := range []int{0, 45, -1, impl.MaxKey, -impl.MaxKey, impl.MaxKey + 1} {
			check(key, p)
		}
	}
	for _, key := range []int{impl.MaxKey + 1, -impl.MaxKey - 1, math.MinInt, math.MaxInt, math.MaxInt - impl.MaxKey, 1 << 32, -1 << 32, 1<<32 + 45} {
		for _, p := range someBasePlaces() {
			check(key, p)
		}
	}
}

func TestDigitCountsOfNamedLists(t *testing.T) {
	for _, c := range []struct {
		keys        []int
		base, place int
		counts      []int
	}{
		{[]int{3, 4, 4}, 2, 0, []int{2, 1}}, {nil, 2, 0, []int{0, 0}}, {nil, 3, 17, []int{0, 0, 0}}, {[]int{0}, 3, 0, []int{0, 1, 0}},
		{[]int{-1, 0, 1, 11, 29}, 10, 0, []int{1, 2, 0, 0, 0, 0, 0, 0, 0, 2}}, {[]int{-1, 0, 1, 11, 29}, 10, 5, []int{1, 4, 0, 0, 0, 0, 0, 0, 0, 0}},
		{[]int{impl.MaxKey, -impl.MaxKey, 0}, 10, 5, []int{1, 1, 1, 0, 0, 0, 0, 0, 0, 0}}, {[]int{impl.MaxKey, -impl.MaxKey, 0}, 10, 6, []int{3, 0, 0, 0, 0, 0, 0, 0, 0, 0}},
		{[]int{impl.MaxKey, -impl.MaxKey}, 2, 17, []int{1, 1}}, {make([]int, impl.MaxList), 3, 0, []int{0, impl.MaxList, 0}}, {make([]int, impl.MaxList), 3, 17, []int{impl.MaxList, 0, 0}},
		// 0, 1, 2 end with 1, 2, 0 in base 3.
		{[]int{0, 1, 2, 2}, 3, 0, []int{2, 1, 1}},
	} {
		counts, ok := impl.DigitCounts(recordsOf(c.keys...), c.base, c.place)
		if !ok || !slices.Equal(counts, c.counts) {
			t.Error("the digits of", c.keys, "in base", c.base, "at place", c.place, "are", counts, ok, "times there")
		}
	}
}

func TestDigitCountsCountEveryDigit(t *testing.T) {
	for _, p := range someBasePlaces() {
		for _, list := range radixRecords() {
			want := make([]int, p.base)
			for _, r := range list {
				want[digitModel(r.Key, p.base, p.place)]++
			}
			if counts, ok := impl.DigitCounts(list, p.base, p.place); !ok || !slices.Equal(counts, want) {
				t.Fatal("the digits of", list, "for", p, "are", counts, ok, "times there, not", want)
			}
		}
	}
}

func TestRadixPassOfNamedLists(t *testing.T) {
	for _, c := range []struct {
		base, place int
		list, want  []impl.Record
	}{
		{2, 0, nil, nil}, {2, 0, taggedRecords([2]int{5, 9}), taggedRecords([2]int{5, 9})},
		{2, 0, taggedRecords([2]int{3, 0}, [2]int{4, 1}, [2]int{5, 2}), taggedRecords([2]int{4, 1}, [2]int{3, 0}, [2]int{5, 2})},
		// The digits of the other places do not count.
		{10, 0, taggedRecords([2]int{92, 0}, [2]int{31, 1}, [2]int{12, 2}, [2]int{11, 3}), taggedRecords([2]int{31, 1}, [2]int{11, 3}, [2]int{92, 0}, [2]int{12, 2})},
		{10, 1, taggedRecords([2]int{92, 0}, [2]int{31, 1}, [2]int{12, 2}, [2]int{11, 3}), taggedRecords([2]int{12, 2}, [2]int{11, 3}, [2]int{31, 1}, [2]int{92, 0})},
		{10, 2, taggedRecords([2]int{92, 0}, [2]int{31, 1}), taggedRecords([2]int{92, 0}, [2]int{31, 1})},
		{10, 17, taggedRecords([2]int{92, 5}, [2]int{-31, 1}, [2]int{92, 0}), taggedRecords([2]int{92, 5}, [2]int{-31, 1}, [2]int{92, 0})},
		{10, 0, taggedRecords([2]int{-1, 0}, [2]int{-9, 1}, [2]int{9, 2}), taggedRecords([2]int{-9, 1}, [2]int{-1, 0}, [2]int{9, 2})},
		{3, 0, taggedRecords([2]int{0, 0}, [2]int{1, 1}, [2]int{2, 2}), taggedRecords([2]int{2, 2}, [2]int{0, 0}, [2]int{1, 1})},
		// 1 and 0 in base 256 end with 161 and 160, and so do the keys 256 above.
		{256, 0, taggedRecords([2]int{1, 4}, [2]int{256, 3}, [2]int{0, 2}, [2]int{257, 1}), taggedRecords([2]int{256, 3}, [2]int{0, 2}, [2]int{1, 4}, [2]int{257, 1})},
		{2, 17, taggedRecords([2]int{impl.MaxKey, 0}, [2]int{-impl.MaxKey, 1}, [2]int{31072, 2}, [2]int{31071, 3}), taggedRecords([2]int{-impl.MaxKey, 1}, [2]int{31071, 3}, [2]int{impl.MaxKey, 0}, [2]int{31072, 2})},
	} {
		sorted, ok := impl.RadixPass(c.list, c.base, c.place)
		checkRecords(t, "RadixPass", sorted, ok, c.want)
	}
}

func TestRadixPassSortsStablyByTheDigit(t *testing.T) {
	for _, p := range someBasePlaces() {
		for _, list := range radixRecords() {
			sorted, ok := impl.RadixPass(list, p.base, p.place)
			checkRecords(t, "RadixPass", sorted, ok, passModel(list, p.base, p.place))
		}
	}
}

func TestPassesNeededOfNamedLists(t *testing.T) {
	least, greatest := -impl.MaxKey, impl.MaxKey
	for _, c := range []struct {
		keys         []int
		base, passes int
	}{
		{[]int{0}, 10, 6}, {nil, 10, 0}, {nil, 2, 0}, {nil, 256, 0}, {[]int{least}, 10, 1}, {[]int{least}, 2, 1}, {[]int{least, least}, 256, 1},
		{[]int{-1}, 10, 5}, {[]int{greatest}, 10, 6}, {[]int{greatest}, 2, 18}, {[]int{31072}, 2, 18}, {[]int{31071}, 2, 17}, {[]int{greatest}, 256, 3}, {[]int{greatest}, 3, 12},
		{[]int{greatest}, 255, 3}, {[]int{greatest}, 7, 7}, {[]int{greatest}, 16, 5}, {[]int{least + 1}, 2, 1}, {[]int{least + 2}, 2, 2}, {[]int{least + 255}, 256, 1}, {[]int{least + 256}, 256, 2},
		// The greatest key counts, wherever it is, and not the one with the greatest amount.
		{[]int{0, least, least + 1}, 10, 6}, {[]int{least, 0, least}, 10, 6}, {[]int{least, least, 0}, 10, 6}, {[]int{least, least + 9}, 10, 1}, {[]int{least + 9, least}, 10, 1}, {[]int{least, -99990}, 10, 2},
		{append(make([]int, impl.MaxList-1), greatest), 2, 18}, {make([]int, impl.MaxList), 2, 17}, {slices.Repeat([]int{least}, impl.MaxList), 2, 1},
	} {
		if passes, ok := impl.PassesNeeded(recordsOf(c.keys...), c.base); !ok || passes != c.passes {
			t.Error("the keys", c.keys, "need", passes, ok, "passes in base", c.base, "instead of", c.passes)
		}
	}
}

// One pass more is needed from each power of the base on.
func TestPassesNeededAroundThePowers(t *testing.T) {
	check := func(base, shifted, want int) {
		for _, keys := range [][]int{{shifted - impl.MaxKey}, {-impl.MaxKey, shifted - impl.MaxKey, -impl.MaxKey}} {
			if passes, ok := impl.PassesNeeded(recordsOf(keys...), base); !ok || passes != want {
				t.Fatal("the keys", keys, "need", passes, ok, "passes in base", base, "instead of", want)
			}
		}
	}
	for _, base := range allBases() {
		check(base, 0, 1)
		passes := 1
		for power := base; power <= 2*impl.MaxKey; power *= base {
			check(base, power-1, passes)
			passes++
			check(base, power, passes)
		}
		check(base, 2*impl.MaxKey, passes)
		if passes, ok := impl.PassesNeeded(nil, base); !ok || passes != 0 {
			t.Fatal("no keys need", passes, ok, "passes in base", base)
		}
	}
}

func TestRadixSortOfNamedLists(t *testing.T) {
	example := taggedRecords([2]int{2, 1}, [2]int{0, 2}, [2]int{2, 3})
	for _, c := range []struct {
		list, want   []impl.Record
		base, passes int
	}{
		{nil, nil, 2, 0}, {nil, nil, 256, 0}, {taggedRecords([2]int{5, 9}), taggedRecords([2]int{5, 9}), 10, 6},
		{taggedRecords([2]int{-impl.MaxKey, 9}), taggedRecords([2]int{-impl.MaxKey, 9}), 10, 1},
		{example, taggedRecords([2]int{0, 2}, [2]int{2, 1}, [2]int{2, 3}), 10, 6}, {example, taggedRecords([2]int{0, 2}, [2]int{2, 1}, [2]int{2, 3}), 256, 3},
		{
			taggedRecords([2]int{impl.MaxKey, 0}, [2]int{-1, 1}, [2]int{-impl.MaxKey, 2}, [2]int{0, 3}, [2]int{impl.MaxKey, 4}, [2]int{-impl.MaxKey, 5}),
			taggedRecords([2]int{-impl.MaxKey, 2}, [2]int{-impl.MaxKey, 5}, [2]int{-1, 1}, [2]int{0, 3}, [2]int{impl.MaxKey, 0}, [2]int{impl.MaxKey, 4}), 2, 18,
		},
	} {
		sorted, passes, ok := impl.RadixSort(c.list, c.base)
		checkRecords(t, "RadixSort", sorted, ok, c.want)
		if passes != c.passes {
			t.Error("RadixSort took", passes, "passes in base", c.base, "instead of", c.passes)
		}
	}
}

func TestRadixSortIsTheStableSortInEveryBase(t *testing.T) {
	for _, list := range radixRecords() {
		want, ok := impl.StableSort(list)
		checkRecords(t, "StableSort", want, ok, arrangedByIndex(list))
		for _, base := range allBases() {
			sorted, passes, ok := impl.RadixSort(list, base)
			checkRecords(t, "RadixSort", sorted, ok, want)
			needed, ok := impl.PassesNeeded(list, base)
			if !ok || passes != needed || passes != passesModel(list, base) {
				t.Fatal("RadixSort of", list, "in base", base, "took", passes, "passes, and PassesNeeded returned", needed, ok)
			}
		}
	}
}

func TestRadixSortOfManyLists(t *testing.T) {
	for i, list := range sampleRecords() {
		want := arrangedByIndex(list)
		for _, base := range []int{2, 3, 10, 2 + i%255, 256} {
			sorted, passes, ok := impl.RadixSort(list, base)
			checkRecords(t, "RadixSort", sorted, ok, want)
			if passes != passesModel(list, base) {
				t.Fatal("RadixSort of", list, "in base", base, "took", passes, "passes")
			}
		}
	}
}

// The passes from the least to the most significant digit sort stably, also one by one, and further
// passes change nothing.
func TestRadixPassesSortStably(t *testing.T) {
	for _, list := range radixRecords() {
		want := arrangedByIndex(list)
		for _, base := range []int{2, 3, 7, 10, 100, 255, 256} {
			sorted, passes := list, passesModel(list, base)
			for _, place := range allPlaces() {
				next, ok := impl.RadixPass(sorted, base, place)
				checkRecords(t, "RadixPass", next, ok, passModel(sorted, base, place))
				if sorted = next; place >= passes-1 {
					checkRecords(t, "the last RadixPass", sorted, ok, want)
				}
			}
		}
	}
}

// checkFlag checks that FlagPass returns the list and the number of exchanges, and that a second
// pass changes nothing.
func checkFlag(t *testing.T, list []int, p basePlace, want []int, wantExchanges int) {
	t.Helper()
	grouped, exchanges, ok := impl.FlagPass(list, p.base, p.place)
	if !ok || !slices.Equal(grouped, want) || exchanges != wantExchanges {
		t.Fatal("FlagPass of", list, "for", p, "returned", grouped, exchanges, ok, "instead of", want, wantExchanges)
	}
	again, exchanges, ok := impl.FlagPass(grouped, p.base, p.place)
	if !ok || !slices.Equal(again, grouped) || exchanges != 0 {
		t.Fatal("a second FlagPass of", list, "for", p, "returned", again, exchanges, ok)
	}
}

func TestFlagPassOfNamedLists(t *testing.T) {
	n := impl.MaxList
	for _, c := range []struct {
		list      []int
		p         basePlace
		want      []int
		exchanges int
	}{
		{[]int{1, 0, 1, 0}, basePlace{2, 0}, []int{0, 0, 1, 1}, 2},
		{nil, basePlace{2, 0}, nil, 0}, {[]int{5}, basePlace{2, 0}, []int{5}, 0}, {[]int{5}, basePlace{256, 17}, []int{5}, 0},
		{[]int{0, 1}, basePlace{2, 0}, []int{0, 1}, 0}, {[]int{1, 0}, basePlace{2, 0}, []int{0, 1}, 1}, {[]int{1, 1, 0}, basePlace{2, 0}, []int{0, 1, 1}, 2},
		// The order within a bucket is that of the exchanges.
		{[]int{3, 1, 2}, basePlace{2, 0}, []int{2, 3, 1}, 2}, {[]int{1, 2, 3}, basePlace{2, 0}, []int{2, 1, 3}, 1}, {[]int{2, 4, 0}, basePlace{2, 0}, []int{2, 4, 0}, 0},
		{[]int{3, 5, 4, 2}, basePlace{2, 0}, []int{4, 2, 3, 5}, 2}, {[]int{3, 4, 5, 2}, basePlace{2, 0}, []int{2, 4, 3, 5}, 2},
		{[]int{31, 12, 23, 11, 2}, basePlace{10, 0}, []int{31, 11, 12, 2, 23}, 3},
		{[]int{31, 12, 23, 11, 2}, basePlace{10, 1}, []int{2, 12, 11, 23, 31}, 2},
		{[]int{31, 12, 23, 11, 2}, basePlace{10, 2}, []int{31, 12, 23, 11, 2}, 0},
		{[]int{2, 1, 0}, basePlace{3, 0}, []int{2, 0, 1}, 1}, {[]int{0, 1, 2}, basePlace{3, 0}, []int{2, 0, 1}, 2},
		{[]int{-1, 0}, basePlace{10, 0}, []int{0, -1}, 1}, {[]int{0, -1}, basePlace{10, 4}, []int{0, -1}, 0}, {[]int{0, -1}, basePlace{10, 5}, []int{-1, 0}, 1},
		{[]int{impl.MaxKey, -impl.MaxKey}, basePlace{256, 0}, []int{-impl.MaxKey, impl.MaxKey}, 1}, {[]int{impl.MaxKey, -impl.MaxKey}, basePlace{256, 17}, []int{impl.MaxKey, -impl.MaxKey}, 0},
		{[]int{impl.MaxKey, -impl.MaxKey}, basePlace{2, 17}, []int{-impl.MaxKey, impl.MaxKey}, 1}, {[]int{impl.MaxKey, -impl.MaxKey}, basePlace{2, 0}, []int{impl.MaxKey, -impl.MaxKey}, 0},
		{steppedList(n, n-1, -1), basePlace{256, 0}, steppedList(n, 0, 1), n / 2}, {steppedPermutation(n, 1, 1), basePlace{256, 0}, steppedList(n, 0, 1), n - 1},
		{steppedList(n, 0, 1), basePlace{256, 0}, steppedList(n, 0, 1), 0}, {steppedList(n, 9, 0), basePlace{3, 0}, steppedList(n, 9, 0), 0},
		{steppedList(n, impl.MaxKey, -1), basePlace{10, 17}, steppedList(n, impl.MaxKey, -1), 0},
	} {
		checkFlag(t, c.list, c.p, c.want, c.exchanges)
	}
}

func TestFlagPassGroupsByTheDigit(t *testing.T) {
	for _, p := range someBasePlaces() {
		for _, list := range radixSamples() {
			want, exchanges := flagModel(list, p.base, p.place)
			checkFlag(t, list, p, want, exchanges)
			byDigit := func(a, b int) int {
				return cmp.Compare(digitModel(a, p.base, p.place), digitModel(b, p.base, p.place))
			}
			grouped, _, _ := impl.FlagPass(list, p.base, p.place)
			if !slices.IsSortedFunc(grouped, byDigit) || !slices.Equal(sortedOf(grouped), sortedOf(list)) {
				t.Fatal("FlagPass of", list, "for", p, "returned", grouped)
			}
		}
	}
}

func TestFlagPassOfManyLists(t *testing.T) {
	for length := range 8 {
		for _, values := range [][]int{{0, 1, 2}, {12, 1, 21}, {-impl.MaxKey, 0, impl.MaxKey}} {
			for list := range listsOver(values, length) {
				for _, p := range []basePlace{{2, 0}, {2, 1}, {3, 0}, {10, 0}, {10, 1}, {256, 0}, {256, 1}} {
					want, exchanges := flagModel(list, p.base, p.place)
					checkFlag(t, list, p, want, exchanges)
				}
			}
		}
	}
}

// Where every bucket has one element, each cycle of n elements takes n-1 exchanges.
func TestFlagPassOfPermutations(t *testing.T) {
	lists := longPermutations()
	for n := range 8 {
		lists = slices.AppendSeq(lists, permutationsOf(n))
	}
	for _, list := range lists {
		cycles, _ := impl.PermutationCycles(list)
		checkFlag(t, list, basePlace{256, 0}, steppedList(len(list), 0, 1), len(list)-len(cycles))
	}
}

// checkPositions checks that SortedPositions returns the number of records before each one.
func checkPositions(t *testing.T, list []impl.Record) {
	t.Helper()
	want := make([]int, len(list))
	for i, a := range list {
		for k, b := range list {
			if b.Key < a.Key || b.Key == a.Key && k < i {
				want[i]++
			}
		}
	}
	positions, ok := impl.SortedPositions(list)
	if !ok || !slices.Equal(positions, want) {
		t.Fatal("the positions of", list, "are", positions, ok, "instead of", want)
	}
	sorted, ok := impl.StableSort(list)
	for i, position := range positions {
		if !ok || sorted[position] != list[i] {
			t.Fatal("the record at", i, "of", list, "is not at", position, "of", sorted)
		}
	}
}

func TestSortedPositions(t *testing.T) {
	if positions, ok := impl.SortedPositions(recordsOf(5, 3, 5)); !ok || !slices.Equal(positions, []int{1, 0, 2}) {
		t.Error("the example:", positions, ok)
	}
	// The permutation that sorts these keys is not its own inverse.
	if positions, ok := impl.SortedPositions(recordsOf(9, 1, 5, 5, 1)); !ok || !slices.Equal(positions, []int{4, 0, 2, 3, 1}) {
		t.Error("the positions are", positions, ok)
	}
	for _, list := range append(sampleRecords(), radixRecords()...) {
		checkPositions(t, list)
	}
}

// checkNoRadix checks that the functions of records, a base and a place refuse them.
func checkNoRadix(t *testing.T, list []impl.Record, p basePlace) {
	t.Helper()
	counts, ok := impl.DigitCounts(list, p.base, p.place)
	checkNone(t, "DigitCounts", counts, ok)
	sorted, ok := impl.RadixPass(list, p.base, p.place)
	checkNoRecords(t, "RadixPass", sorted, ok)
}

// checkNoFlag checks that FlagPass refuses the list or the base and the place.
func checkNoFlag(t *testing.T, list []int, p basePlace) {
	t.Helper()
	grouped, exchanges, ok := impl.FlagPass(list, p.base, p.place)
	checkNone(t, "FlagPass", grouped, ok)
	checkZeros(t, "FlagPass", exchanges)
}

// checkNoSort checks that the functions of records and a base refuse them.
func checkNoSort(t *testing.T, list []impl.Record, base int) {
	t.Helper()
	needed, ok := impl.PassesNeeded(list, base)
	checkNone(t, "PassesNeeded", nil, ok)
	sorted, passes, ok := impl.RadixSort(list, base)
	checkNoRecords(t, "RadixSort", sorted, ok)
	checkZeros(t, "PassesNeeded or RadixSort", needed, passes)
}

func TestRadixFunctionsOfInvalidBasesAndPlaces(t *testing.T) {
	for _, keys := range [][]int{nil, {0}, {45, -1, 45}, {-impl.MaxKey}, steppedList(impl.MaxList, 30, -1)} {
		for _, p := range invalidBasePlaces() {
			checkNoRadix(t, recordsOf(keys...), p)
			checkNoFlag(t, keys, p)
			if t.Failed() {
				t.Fatal("the keys are", keys, "and the base and the place are", p)
			}
		}
		for _, base := range invalidBases() {
			checkNoSort(t, recordsOf(keys...), base)
			if t.Failed() {
				t.Fatal("the keys are", keys, "and the base is", base)
			}
		}
	}
}

func TestRadixFunctionsOfInvalidLists(t *testing.T) {
	for i, list := range invalidRecords() {
		for _, base := range []int{2, 3, 10, 255, 256, 1, 257} {
			checkNoSort(t, list, base)
			for _, place := range []int{0, 1, 17, 18, -1} {
				checkNoRadix(t, list, basePlace{base, place})
			}
		}
		for _, low := range []int{0, 1, -impl.MaxKey, -impl.MaxKey - 1, impl.MaxKey, impl.MaxKey + 1, math.MinInt} {
			for _, width := range []int{0, 1, impl.MaxRange} {
				sorted, ok := impl.CountingSort(list, low, low+width)
				checkNoRecords(t, "CountingSort", sorted, ok)
			}
		}
		positions, ok := impl.SortedPositions(list)
		checkNone(t, "SortedPositions", positions, ok)
		if t.Failed() {
			t.Fatal("the invalid list has the index", i)
		}
	}
	for i, list := range invalidLists() {
		for _, p := range []basePlace{{2, 0}, {3, 1}, {10, 17}, {256, 0}, {256, 17}, {1, 0}, {2, 18}} {
			if checkNoFlag(t, list, p); t.Failed() {
				t.Fatal("the invalid list has the index", i, "and the base and the place are", p)
			}
		}
	}
}

// radixRecordFunctions are the functions of the chapter that take records, with valid further
// arguments and with others. Results that are no records are made into their keys.
func radixRecordFunctions() []func(list []impl.Record) []impl.Record {
	functions := []func(list []impl.Record) []impl.Record{
		func(list []impl.Record) []impl.Record {
			positions, _ := impl.SortedPositions(list)
			defer overwrite(positions)
			return recordsOf(positions...)
		},
		func(list []impl.Record) []impl.Record { sorted, _ := impl.CountingSort(list, 0, 2); return sorted },
		func(list []impl.Record) []impl.Record { sorted, _ := impl.CountingSort(list, -500, 500); return sorted },
		func(list []impl.Record) []impl.Record { sorted, _ := impl.CountingSort(list, 1, 0); return sorted },
	}
	for _, base := range []int{1, 2, 3, 10, 256, 257} {
		functions = append(functions,
			func(list []impl.Record) []impl.Record { sorted, _, _ := impl.RadixSort(list, base); return sorted },
			func(list []impl.Record) []impl.Record {
				passes, _ := impl.PassesNeeded(list, base)
				return recordsOf(passes)
			},
		)
		for _, place := range []int{0, 2, 17, 18} {
			functions = append(functions,
				func(list []impl.Record) []impl.Record { sorted, _ := impl.RadixPass(list, base, place); return sorted },
				func(list []impl.Record) []impl.Record {
					counts, _ := impl.DigitCounts(list, base, place)
					defer overwrite(counts)
					return recordsOf(counts...)
				},
			)
		}
	}
	return functions
}

func TestRadixFunctionsLeaveTheirArguments(t *testing.T) {
	for _, original := range slices.Concat(radixRecords(), invalidRecords()) {
		for i, function := range radixRecordFunctions() {
			list := recordsWithSpare(original)
			overwriteRecords(function(list))
			if !areUntouched(list, original) {
				t.Fatal("function", i, "changed its argument of", len(list), "records, or shares its memory")
			}
		}
	}
	for _, original := range slices.Concat(radixSamples(), invalidLists()) {
		for _, p := range []basePlace{{2, 0}, {3, 1}, {10, 0}, {256, 0}, {256, 17}, {1, 0}, {2, 18}} {
			list := withSpare(original)
			grouped, _, _ := impl.FlagPass(list, p.base, p.place)
			overwrite(grouped)
			if !isUntouched(list, original) {
				t.Fatal("FlagPass changed its argument of", len(list), "elements, or shares its memory")
			}
		}
	}
}

// Records and elements beyond the length count nowhere, and every call returns new memory.
func TestRadixFunctionsReadAndKeepNothingElse(t *testing.T) {
	for _, list := range radixRecords() {
		for i, function := range radixRecordFunctions() {
			first := slices.Clone(function(recordsWithSpare(list)))
			overwriteRecords(function(list))
			if again := function(list); !slices.Equal(again, first) {
				t.Fatal("function", i, "returned", again, "after", first)
			}
		}
	}
	for _, list := range radixSamples() {
		for _, p := range []basePlace{{2, 0}, {3, 1}, {10, 0}, {256, 0}, {256, 17}} {
			want, exchanges := flagModel(list, p.base, p.place)
			for range 2 {
				grouped, got, ok := impl.FlagPass(withSpare(list), p.base, p.place)
				if !ok || !slices.Equal(grouped, want) || got != exchanges {
					t.Fatal("FlagPass of", list, "beside spare memory returned", grouped, got, ok)
				}
				overwrite(grouped)
			}
		}
	}
}
