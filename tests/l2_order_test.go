package tests

import (
	"cmp"
	"math"
	"slices"
	"strconv"
	"strings"
	"testing"

	"loop.example/g00907/impl"
)

func TestIsValidList(t *testing.T) {
	full := slices.Repeat([]int{impl.MaxKey}, impl.MaxList)
	for _, list := range [][]int{
		nil, {}, {0}, {impl.MaxKey}, {-impl.MaxKey}, {3, 3, -1}, full, make([]int, impl.MaxList),
		[]int{1, 2, impl.MaxKey + 1}[:2],
	} {
		if !impl.IsValidList(list) {
			t.Error("refused", list)
		}
	}
	for _, list := range [][]int{
		{impl.MaxKey + 1}, {-impl.MaxKey - 1}, {math.MaxInt}, {math.MinInt}, {math.MinInt + 1}, {1 << 32},
		{impl.MaxKey + 1, 0, 0}, {0, -impl.MaxKey - 1, 0}, {0, 0, impl.MaxKey + 1},
		append(slices.Clone(full), 0), make([]int, 1<<20),
	} {
		if impl.IsValidList(list) {
			t.Errorf("accepted a list of %d elements from %d", len(list), list[0])
		}
	}
	if len(full) != 64 || impl.MaxKey != 100000 || impl.MaxFields != 6 {
		t.Error("the limits are not those of the document")
	}
}

// invalidRecords are record lists that break one condition each.
func invalidRecords() [][]impl.Record {
	ok := impl.Record{Key: 1, Tag: 1}
	return [][]impl.Record{
		{{Key: impl.MaxKey + 1}}, {{Key: -impl.MaxKey - 1}}, {{Key: math.MinInt}}, {{Key: math.MaxInt}},
		{{Tag: 1000}}, {{Tag: -1}}, {{Tag: math.MinInt}}, {{Tag: math.MaxInt}},
		{{Tag: 1000}, ok, ok}, {ok, {Key: impl.MaxKey + 1}, ok}, {ok, ok, {Tag: -1}},
		make([]impl.Record, impl.MaxList+1), make([]impl.Record, 1<<20),
	}
}

func TestIsValidRecords(t *testing.T) {
	for _, list := range [][]impl.Record{
		nil, {}, {{}}, {{Tag: 999}}, {{Key: impl.MaxKey}}, {{Key: -impl.MaxKey, Tag: 999}},
		{{Key: 5, Tag: 1}, {Key: 5, Tag: 1}}, make([]impl.Record, impl.MaxList),
		slices.Repeat([]impl.Record{{Key: -impl.MaxKey, Tag: 999}}, impl.MaxList),
		[]impl.Record{{Key: 1}, {Tag: 1000}}[:1],
	} {
		if !impl.IsValidRecords(list) {
			t.Error("refused", list)
		}
	}
	for i, list := range invalidRecords() {
		if impl.IsValidRecords(list) {
			t.Error("accepted invalid list", i)
		}
	}
}

// arrangedByIndex sorts positions by key and then by index, so that no two of them tie.
func arrangedByIndex(list []impl.Record) []impl.Record {
	positions := make([]int, len(list))
	for i := range positions {
		positions[i] = i
	}
	slices.SortFunc(positions, func(i, k int) int {
		return cmp.Or(cmp.Compare(list[i].Key, list[k].Key), cmp.Compare(i, k))
	})
	sorted := make([]impl.Record, len(list))
	for i, p := range positions {
		sorted[i] = list[p]
	}
	return sorted
}

// checkStableSort checks one call of StableSort, and that it leaves its argument alone.
func checkStableSort(t *testing.T, list []impl.Record) {
	t.Helper()
	before := slices.Clone(list)
	got, ok := impl.StableSort(list)
	if !ok || !slices.Equal(got, arrangedByIndex(before)) {
		t.Errorf("StableSort(%v) = %v, %v", before, got, ok)
	}
	if !slices.Equal(list, before) {
		t.Errorf("StableSort changed %v to %v", before, list)
	}
}

func TestStableSortShortLists(t *testing.T) {
	got, ok := impl.StableSort([]impl.Record{{Key: 2}, {Key: 1, Tag: 1}, {Key: 2, Tag: 2}})
	if !ok || !slices.Equal(got, []impl.Record{{Key: 1, Tag: 1}, {Key: 2}, {Key: 2, Tag: 2}}) {
		t.Error("the example:", got, ok)
	}
	keys := []int{-impl.MaxKey, 0, 7}
	for length := range 7 {
		codes := 1
		for range length {
			codes *= len(keys)
		}
		for code := range codes {
			rising, falling := make([]impl.Record, length), make([]impl.Record, length)
			for i := range length {
				rising[i] = impl.Record{Key: keys[code%len(keys)], Tag: i}
				// Falling tags tell a stable sort from one by Key and Tag.
				falling[i] = impl.Record{Key: keys[code%len(keys)], Tag: 999 - i}
				code /= len(keys)
			}
			checkStableSort(t, rising)
			checkStableSort(t, falling)
		}
	}
}

func TestStableSortLimits(t *testing.T) {
	for _, modulus := range []int{1, 2, 5, 13, 64, 199999} {
		list := make([]impl.Record, impl.MaxList)
		for i := range list {
			list[i] = impl.Record{Key: (i*7919)%modulus - modulus/2, Tag: 999 - i}
		}
		checkStableSort(t, list)
	}
	checkStableSort(t, []impl.Record{{Key: impl.MaxKey, Tag: 999}, {Key: -impl.MaxKey}, {Key: impl.MaxKey}})
	for i, list := range invalidRecords() {
		if got, ok := impl.StableSort(list); ok || len(got) != 0 {
			t.Error("invalid list", i, len(got), ok)
		}
	}
	for _, list := range [][]impl.Record{nil, {}} {
		if got, ok := impl.StableSort(list); !ok || len(got) != 0 {
			t.Error("no records:", got, ok)
		}
	}
}

func TestStableSortMemory(t *testing.T) {
	all := []impl.Record{{Key: 3}, {Key: 1}, {Key: 2}, {Key: 0, Tag: 4000}}
	before := slices.Clone(all)
	got, ok := impl.StableSort(all[:3])
	if !ok || len(got) != 3 || got[0].Key != 1 {
		t.Error("a part of a slice:", got, ok)
	}
	for i := range got[:cap(got)] {
		got[:cap(got)][i] = impl.Record{Key: 77}
	}
	if !slices.Equal(all, before) {
		t.Error("the result shares memory with the argument:", all)
	}
	sorted := []impl.Record{{Key: 1}, {Key: 2}}
	got, _ = impl.StableSort(sorted)
	got[0].Key = 9
	if sorted[0].Key != 1 {
		t.Error("the result of a sorted list shares its memory")
	}
}

func rowOf(fields ...string) impl.Row { return impl.Row{Fields: fields} }

// invalidRows are rows that break one condition each.
func invalidRows() []impl.Row {
	long := strings.Repeat("a", 41)
	rows := []impl.Row{
		{}, {Fields: []string{}}, {Fields: make([]string, 3)[:0]},
		{Fields: make([]string, impl.MaxFields+1)}, {Fields: make([]string, 1<<20)},
		rowOf(long), rowOf("a", long), rowOf(long, "a", "b"), rowOf(strings.Repeat("a", 1<<20)),
		rowOf("é"), rowOf("a", "b", "c", "d", "e", "\n"),
	}
	for _, bad := range []string{"\x00", "\x1f", "\x7f", "\x80", "\xff"} {
		rows = append(rows, rowOf(bad), rowOf("ab"+bad), rowOf(bad+"ab"), rowOf("a"+bad+"b"), rowOf("a", bad),
			rowOf(strings.Repeat("a", 39)+bad))
	}
	return rows
}

func TestIsValidRow(t *testing.T) {
	printable := ""
	for c := 32; c <= 126; c++ {
		printable += string(rune(c))
	}
	long := strings.Repeat("~", 40)
	for _, r := range []impl.Row{
		rowOf(""), rowOf(" "), rowOf("~"), rowOf("a", ""), rowOf("", "", "", "", "", ""),
		rowOf(long), rowOf(long, long, long, long, long, long),
		rowOf(printable[:40], printable[40:80], printable[80:]),
	} {
		if !impl.IsValidRow(r) {
			t.Errorf("refused %q", r.Fields)
		}
	}
	for i, r := range invalidRows() {
		if impl.IsValidRow(r) {
			t.Errorf("accepted invalid row %d", i)
		}
	}
	for c := range 256 {
		if got := impl.IsValidRow(rowOf("a", string([]byte{byte(c)}))); got != (c >= 32 && c <= 126) {
			t.Errorf("byte %d: %v", c, got)
		}
	}
	fields := []string{"a", "b", "\n"}
	if !impl.IsValidRow(impl.Row{Fields: fields[:2]}) {
		t.Error("a field beyond the length counts")
	}
}

// allSpecs returns the KeySpecs of the given fields with every choice of the options.
func allSpecs(fields ...int) []impl.KeySpec {
	var specs []impl.KeySpec
	for _, f := range fields {
		for options := range 8 {
			specs = append(specs, impl.KeySpec{
				Field: f, Numeric: options&1 != 0, Descending: options&2 != 0, FoldCase: options&4 != 0,
			})
		}
	}
	return specs
}

func invalidSpecs() [][]impl.KeySpec {
	return [][]impl.KeySpec{
		nil, {}, make([]impl.KeySpec, 5), make([]impl.KeySpec, 1<<16), make([]impl.KeySpec, 0, 4),
		{{Field: -1}}, {{Field: impl.MaxFields}}, {{Field: math.MaxInt}}, {{Field: math.MinInt}},
		{{}, {}, {}, {Field: 6}}, {{Field: -1}, {}}, {{}, {Field: 6}, {}},
	}
}

// sameCompare checks one comparison of a and b in both directions.
func sameCompare(t *testing.T, specs []impl.KeySpec, a, b impl.Row, want int) {
	t.Helper()
	if n, ok := impl.CompareRows(specs, a, b); !ok || n != want {
		t.Errorf("CompareRows(%v, %q, %q) = %d, %v", specs, a.Fields, b.Fields, n, ok)
	}
	if n, ok := impl.CompareRows(specs, b, a); !ok || n != -want {
		t.Errorf("CompareRows(%v, %q, %q) = %d, %v", specs, b.Fields, a.Fields, n, ok)
	}
}

func TestCompareRowsOneKey(t *testing.T) {
	for _, c := range []struct {
		key  impl.KeySpec
		a, b string
		want int
	}{
		{impl.KeySpec{}, "a", "b", -1}, {impl.KeySpec{}, "a", "ab", -1}, {impl.KeySpec{}, "", "a", -1},
		{impl.KeySpec{}, "a", "a", 0}, {impl.KeySpec{}, "B", "a", -1}, {impl.KeySpec{}, "9", "10", 1},
		{impl.KeySpec{}, "01", "1", -1}, {impl.KeySpec{}, "~", " ", 1}, {impl.KeySpec{}, "-1", "-2", -1},

		{impl.KeySpec{Numeric: true}, "9", "10", -1}, {impl.KeySpec{Numeric: true}, "9", "x", 1},
		{impl.KeySpec{Numeric: true}, "-5", "3", -1}, {impl.KeySpec{Numeric: true}, "-5", "-10", 1},
		{impl.KeySpec{Numeric: true}, "-999999", "999999", -1}, {impl.KeySpec{Numeric: true}, "7", "7", 0},
		{impl.KeySpec{Numeric: true}, "x", "-999999", -1}, {impl.KeySpec{Numeric: true}, "~", "0", -1},
		{impl.KeySpec{Numeric: true}, "", "-999999", -1}, {impl.KeySpec{Numeric: true}, "", "x", -1},
		{impl.KeySpec{Numeric: true}, "x", "y", -1}, {impl.KeySpec{Numeric: true}, "x", "x", 0},

		// Notations that ParseInt refuses are not numbers: they precede all numbers.
		{impl.KeySpec{Numeric: true}, "09", "9", -1}, {impl.KeySpec{Numeric: true}, "09", "-999999", -1},
		{impl.KeySpec{Numeric: true}, "09", "010", 1}, {impl.KeySpec{Numeric: true}, "007", "7", -1},
		{impl.KeySpec{Numeric: true}, "00", "0", -1}, {impl.KeySpec{Numeric: true}, "-0", "0", -1},
		{impl.KeySpec{Numeric: true}, "+1", "1", -1}, {impl.KeySpec{Numeric: true}, "+1", "0", -1},
		{impl.KeySpec{Numeric: true}, "1000000", "-1", -1}, {impl.KeySpec{Numeric: true}, "1000000", "2000000", -1},
		{impl.KeySpec{Numeric: true}, "1000001", "20", -1}, {impl.KeySpec{Numeric: true}, " 1", "1", -1},
		{impl.KeySpec{Numeric: true}, "1.5", "1", -1}, {impl.KeySpec{Numeric: true}, "09", "09", 0},

		{impl.KeySpec{FoldCase: true}, "Ab", "aB", 0}, {impl.KeySpec{FoldCase: true}, "B", "a", 1},
		{impl.KeySpec{FoldCase: true}, "a", "Z", -1}, {impl.KeySpec{FoldCase: true}, "A", "ab", -1},
		{impl.KeySpec{FoldCase: true}, "Z", "z", 0}, {impl.KeySpec{FoldCase: true}, "@", "`", -1},
		{impl.KeySpec{FoldCase: true}, "[", "{", -1}, {impl.KeySpec{FoldCase: true}, "^", "~", -1},
		// Lower case, not upper case: the bytes between Z and a precede the letters.
		{impl.KeySpec{FoldCase: true}, "_", "A", -1}, {impl.KeySpec{FoldCase: true}, "[", "Z", -1},
		{impl.KeySpec{FoldCase: true}, "A", "{", -1},

		{impl.KeySpec{Numeric: true, FoldCase: true}, "X", "x", 0}, {impl.KeySpec{Numeric: true, FoldCase: true}, "X", "1", -1},
		{impl.KeySpec{Numeric: true, FoldCase: true}, "b", "A", 1}, {impl.KeySpec{Numeric: true, FoldCase: true}, "9", "10", -1},
		{impl.KeySpec{Numeric: true}, "b", "A", 1}, {impl.KeySpec{Numeric: true}, "B", "a", -1},

		{impl.KeySpec{Descending: true}, "a", "b", 1}, {impl.KeySpec{Descending: true}, "a", "a", 0},
		{impl.KeySpec{Descending: true}, "", "a", 1}, {impl.KeySpec{Descending: true, Numeric: true}, "9", "10", 1},
		{impl.KeySpec{Descending: true, Numeric: true}, "x", "10", 1}, {impl.KeySpec{Descending: true, Numeric: true}, "x", "y", 1},
		{impl.KeySpec{Descending: true, FoldCase: true}, "a", "B", 1}, {impl.KeySpec{Descending: true, FoldCase: true}, "a", "A", 0},
		{impl.KeySpec{Descending: true, FoldCase: true, Numeric: true}, "09", "9", 1},
	} {
		sameCompare(t, []impl.KeySpec{c.key}, rowOf(c.a), rowOf(c.b), c.want)
	}
}

func TestCompareRowsMissingFields(t *testing.T) {
	one, empty, x, zero := rowOf("a"), rowOf("a", ""), rowOf("a", "x"), rowOf("a", "0")
	for _, key := range allSpecs(1) {
		negated := 1
		if key.Descending {
			negated = -1
		}
		specs := []impl.KeySpec{key}
		sameCompare(t, specs, one, empty, 0)
		sameCompare(t, specs, one, x, -negated)
		sameCompare(t, specs, one, zero, -negated)
		sameCompare(t, specs, rowOf("b"), one, 0)
	}
	for field := 1; field < impl.MaxFields; field++ {
		sameCompare(t, []impl.KeySpec{{Field: field}}, rowOf("b"), rowOf("a", "1", "2", "3", "4", "5"), -1)
	}
	fields := []string{"a", "hidden"}
	sameCompare(t, []impl.KeySpec{{Field: 1}}, impl.Row{Fields: fields[:1]}, rowOf("b"), 0)
}

func TestCompareRowsSeveralKeys(t *testing.T) {
	a, b := rowOf("x", "2", "q"), rowOf("x", "10", "p")
	for _, c := range []struct {
		specs []impl.KeySpec
		want  int
	}{
		{[]impl.KeySpec{{}}, 0},
		{[]impl.KeySpec{{}, {Field: 1}}, 1},
		{[]impl.KeySpec{{}, {Field: 1, Numeric: true}}, -1},
		{[]impl.KeySpec{{}, {Field: 1, Numeric: true, Descending: true}}, 1},
		{[]impl.KeySpec{{}, {Field: 3}, {Field: 5}, {Field: 2}}, 1},
		{[]impl.KeySpec{{Field: 2}, {Field: 1, Numeric: true}}, 1},
		{[]impl.KeySpec{{Field: 1, Numeric: true}, {Field: 2}}, -1},
		{[]impl.KeySpec{{Field: 4}, {Field: 4}, {Field: 4}, {Field: 2, Descending: true}}, -1},
		{[]impl.KeySpec{{}, {Descending: true}}, 0},
	} {
		sameCompare(t, c.specs, a, b, c.want)
	}
}

func TestCompareRowsInvalid(t *testing.T) {
	good, a, b := []impl.KeySpec{{}}, rowOf("a"), rowOf("b")
	for i, specs := range invalidSpecs() {
		if n, ok := impl.CompareRows(specs, a, b); ok || n != 0 {
			t.Error("invalid key specification", i, n, ok)
		}
	}
	for i, bad := range invalidRows() {
		if n, ok := impl.CompareRows(good, bad, b); ok || n != 0 {
			t.Error("invalid first row", i, n, ok)
		}
		if n, ok := impl.CompareRows(good, b, bad); ok || n != 0 {
			t.Error("invalid second row", i, n, ok)
		}
		if n, ok := impl.CompareRows([]impl.KeySpec{{}, {Field: 6}}, bad, bad); ok || n != 0 {
			t.Error("all invalid", i, n, ok)
		}
	}
	if n, ok := impl.CompareRows([]impl.KeySpec{{Field: 5}, {Field: 5}, {Field: 0}, {Field: 5}}, a, b); !ok || n != -1 {
		t.Error("four keys up to field 5:", n, ok)
	}
}

// referenceCompare compares the values of one key by their ranks: texts are 0, numbers are 1.
func referenceCompare(specs []impl.KeySpec, a, b impl.Row) int {
	for _, k := range specs {
		value := func(r impl.Row) (int, int, string) {
			text := ""
			if k.Field < len(r.Fields) {
				text = r.Fields[k.Field]
			}
			if k.FoldCase {
				folded := []byte(text)
				for i, c := range folded {
					if 'A' <= c && c <= 'Z' {
						folded[i] = c + 32
					}
				}
				text = string(folded)
			}
			n, err := strconv.Atoi(text)
			if k.Numeric && err == nil && strconv.Itoa(n) == text && n >= -999999 && n <= 999999 {
				return 1, n, ""
			}
			return 0, 0, text
		}
		ra, na, ta := value(a)
		rb, nb, tb := value(b)
		c := cmp.Or(cmp.Compare(ra, rb), cmp.Compare(na, nb), cmp.Compare(ta, tb))
		if k.Descending {
			c = -c
		}
		if c != 0 {
			return c
		}
	}
	return 0
}

// sampleRows has rows with ties, missing fields and numbers of every notation.
func sampleRows() []impl.Row {
	values := []string{"", "0", "00", "9", "09", "10", "-1", "-0", "a", "A", "b", "_", "1000000", "999999", "Zz", "zZ"}
	var rows []impl.Row
	for i, v := range values {
		rows = append(rows, rowOf(v), rowOf("k", v), rowOf(v, values[(i*5+1)%len(values)]), rowOf(values[(i*3)%len(values)], v, "c"))
	}
	return rows
}

func TestCompareRowsIsTheReference(t *testing.T) {
	rows := sampleRows()
	before := cloneRows(rows)
	for _, first := range allSpecs(0, 1) {
		for _, second := range allSpecs(1, 2) {
			specs := []impl.KeySpec{first, second}
			for _, a := range rows {
				for _, b := range rows {
					n, ok := impl.CompareRows(specs, a, b)
					if !ok || n != referenceCompare(specs, a, b) {
						t.Fatalf("CompareRows(%v, %q, %q) = %d, %v", specs, a.Fields, b.Fields, n, ok)
					}
				}
			}
			if !sameRows(rows, before) || specs[0] != first || specs[1] != second {
				t.Fatal("CompareRows under", specs, "changed an argument")
			}
		}
	}
}

func TestRowComparisonIsAWeakOrder(t *testing.T) {
	rows := sampleRows()
	for _, key := range allSpecs(0, 1) {
		specs := []impl.KeySpec{key, {Field: 2}}
		for start := 0; start+12 <= len(rows); start += 4 {
			less := make([][]bool, 12)
			for i := range less {
				less[i] = make([]bool, 12)
				for k := range less[i] {
					n, ok := impl.CompareRows(specs, rows[start+i], rows[start+k])
					less[i][k] = ok && n < 0
				}
			}
			if witness, ok := impl.OrderDefect(less); !ok || len(witness) != 0 {
				t.Fatal("rows from", start, "under", specs, witness, ok)
			}
		}
	}
}

func cloneRows(rows []impl.Row) []impl.Row {
	cloned := slices.Clone(rows)
	for i, r := range cloned {
		cloned[i].Fields = slices.Clone(r.Fields)
	}
	return cloned
}

func sameRows(a, b []impl.Row) bool {
	return slices.EqualFunc(a, b, func(x, y impl.Row) bool { return slices.Equal(x.Fields, y.Fields) })
}

func TestSortRows(t *testing.T) {
	all := sampleRows()
	for _, first := range allSpecs(0, 1) {
		for _, second := range allSpecs(1, 2) {
			specs := []impl.KeySpec{first, second}
			rows := cloneRows(all)
			want := cloneRows(all)
			slices.SortStableFunc(want, func(a, b impl.Row) int { return referenceCompare(specs, a, b) })
			got, ok := impl.SortRows(specs, rows)
			if !ok || !sameRows(got, want) {
				t.Fatal("SortRows under", specs, "returns", got, ok)
			}
			if !sameRows(rows, all) || specs[0] != first || specs[1] != second {
				t.Fatal("SortRows under", specs, "changed an argument")
			}
		}
	}
}

func TestSortRowsIsStable(t *testing.T) {
	rows := make([]impl.Row, impl.MaxList)
	for i := range rows {
		rows[i] = rowOf(strconv.Itoa(i%3), "id "+strconv.Itoa(99-i))
	}
	for _, descending := range []bool{false, true} {
		got, ok := impl.SortRows([]impl.KeySpec{{Descending: descending}}, rows)
		if !ok || len(got) != impl.MaxList {
			t.Fatal("exactly MaxList rows:", len(got), ok)
		}
		for i := 1; i < len(got); i++ {
			tie := got[i-1].Fields[0] == got[i].Fields[0]
			if tie && got[i-1].Fields[1] < got[i].Fields[1] || !tie && (got[i-1].Fields[0] > got[i].Fields[0]) != descending {
				t.Error("rows", got[i-1], got[i], "under Descending", descending)
			}
		}
	}
	equal := []impl.Row{rowOf("a", "x"), rowOf("a", "x"), rowOf("a"), rowOf("a", "")}
	if got, ok := impl.SortRows([]impl.KeySpec{{}}, equal); !ok || !sameRows(got, equal) {
		t.Error("equal rows:", got, ok)
	}
	if got, ok := impl.SortRows([]impl.KeySpec{{Field: 1}}, equal); !ok || !sameRows(got, []impl.Row{equal[2], equal[3], equal[0], equal[1]}) {
		t.Error("a missing and an empty field tie:", got, ok)
	}
}

func TestSortRowsInvalid(t *testing.T) {
	rows := []impl.Row{rowOf("b"), rowOf("a")}
	for i, specs := range invalidSpecs() {
		for _, list := range [][]impl.Row{nil, rows} {
			if got, ok := impl.SortRows(specs, list); ok || len(got) != 0 {
				t.Error("invalid key specification", i, len(got), ok)
			}
		}
	}
	good := []impl.KeySpec{{}}
	for i, bad := range invalidRows() {
		for _, list := range [][]impl.Row{{bad}, {bad, rows[0]}, {rows[0], bad}, {rows[0], bad, rows[1]}} {
			if got, ok := impl.SortRows(good, list); ok || len(got) != 0 {
				t.Error("invalid row", i, len(got), ok)
			}
		}
	}
	for _, n := range []int{impl.MaxList + 1, 1 << 16} {
		if got, ok := impl.SortRows(good, slices.Repeat(rows[:1], n)); ok || len(got) != 0 {
			t.Error(n, "rows:", len(got), ok)
		}
	}
	for _, list := range [][]impl.Row{nil, {}, make([]impl.Row, 3)[:0]} {
		if got, ok := impl.SortRows(good, list); !ok || len(got) != 0 {
			t.Error("no rows:", got, ok)
		}
	}
}

func TestSortRowsMemory(t *testing.T) {
	shared := []string{"a", "b", "beyond"}
	rows := []impl.Row{{Fields: shared[:2]}, {Fields: shared[:2]}, {Fields: shared[:1]}, rowOf("c")}
	before := cloneRows(rows)
	got, ok := impl.SortRows([]impl.KeySpec{{}}, rows[:3])
	if !ok || !sameRows(got, before[:3]) {
		t.Fatal("rows that share memory:", got, ok)
	}
	for i := range got {
		fields := got[i].Fields[:cap(got[i].Fields)]
		for k := range fields {
			if fields[k] == "changed" {
				t.Error("two rows of the result share memory")
			}
			fields[k] = "changed"
		}
	}
	clear(got[:cap(got)])
	if !sameRows(rows, before) || !slices.Equal(shared, []string{"a", "b", "beyond"}) {
		t.Error("the result shares memory with the argument:", rows, shared)
	}
}

func TestFormatSpecs(t *testing.T) {
	for want, specs := range map[string][]impl.KeySpec{
		"0":           {{}},
		"5":           {{Field: 5}},
		"1n":          {{Field: 1, Numeric: true}},
		"1d":          {{Field: 1, Descending: true}},
		"1f":          {{Field: 1, FoldCase: true}},
		"3nd":         {{Field: 3, Numeric: true, Descending: true}},
		"3nf":         {{Field: 3, Numeric: true, FoldCase: true}},
		"3df":         {{Field: 3, Descending: true, FoldCase: true}},
		"4ndf":        {{Field: 4, Numeric: true, Descending: true, FoldCase: true}},
		"0n,2df":      {{Numeric: true}, {Field: 2, Descending: true, FoldCase: true}},
		"0,0,0,0":     {{}, {}, {}, {}},
		"5n,4d,3f,2n": {{Field: 5, Numeric: true}, {Field: 4, Descending: true}, {Field: 3, FoldCase: true}, {Field: 2, Numeric: true}},
	} {
		before := slices.Clone(specs)
		if got, ok := impl.FormatSpecs(specs); !ok || got != want {
			t.Errorf("FormatSpecs(%v) = %q, %v", specs, got, ok)
		}
		if got, ok := impl.ParseSpecs(want); !ok || !slices.Equal(got, specs) {
			t.Errorf("ParseSpecs(%q) = %v, %v", want, got, ok)
		}
		if !slices.Equal(specs, before) {
			t.Error("FormatSpecs changed its argument to", specs)
		}
	}
	for i, specs := range invalidSpecs() {
		if got, ok := impl.FormatSpecs(specs); ok || got != "" {
			t.Errorf("invalid key specification %d: %q, %v", i, got, ok)
		}
	}
}

func TestSpecsRoundTrip(t *testing.T) {
	all := allSpecs(0, 1, 2, 3, 4, 5)
	for i, first := range all {
		for k, second := range all {
			for _, specs := range [][]impl.KeySpec{
				{first}, {first, second}, {first, second, first}, {second, first, all[(i+k)%len(all)], all[(7*i+k)%len(all)]},
			} {
				s, ok := impl.FormatSpecs(specs)
				if !ok {
					t.Fatal("no notation of", specs)
				}
				if got, ok := impl.ParseSpecs(s); !ok || !slices.Equal(got, specs) {
					t.Fatalf("ParseSpecs(%q) = %v, %v", s, got, ok)
				}
			}
		}
	}
}

func TestParseSpecsInvalid(t *testing.T) {
	for _, s := range []string{
		"", ",", "0,", ",0", "0,,1", "n", "d", "f", "ndf", "0,n", "6", "7", "9", "10", "00", "01", "-1", "-0", "+1", "0,6",
		"0nn", "0dd", "0ff", "0dn", "0fn", "0fd", "0ndfn", "0ndff", "0nndf", "0fdn", "n0", "0n1", "0N", "0x", "0 ", " 0", "0, 1",
		"0;1", "0,1,2,3,4", "0,0,0,0,0", "0,0,0,0,", "999999", "4294967296", "18446744073709551616", "0\n", "0\x00", "\xff",
		strings.Repeat("0", 5000), strings.Repeat("0,", 2000) + "0", strings.Repeat(",", 1<<20),
	} {
		if got, ok := impl.ParseSpecs(s); ok || len(got) != 0 {
			t.Errorf("ParseSpecs(%.20q) = %v, %v", s, got, ok)
		}
	}
}

// TestParseSpecsAcceptsOnlyNotations compares ParseSpecs on all short strings with the list of the
// notations of the key specifications.
func TestParseSpecsAcceptsOnlyNotations(t *testing.T) {
	letters := []string{"", "n", "d", "nd", "f", "nf", "df", "ndf"}
	var keys []string
	for field := range 6 {
		for _, l := range letters {
			keys = append(keys, strconv.Itoa(field)+l)
		}
	}
	notations := map[string]bool{}
	for _, a := range keys {
		notations[a] = true
		for _, b := range keys {
			notations[a+","+b] = true
			for _, c := range []string{"0", "5", "6"} {
				notations[a+","+b+","+c] = c != "6"
			}
		}
	}
	for _, s := range wordsOver("056ndf,-", 5) {
		if got, ok := impl.ParseSpecs(s); ok != notations[s] || !ok && len(got) != 0 {
			t.Errorf("ParseSpecs(%q) = %v, %v", s, got, ok)
		}
	}
}

func TestParseSpecsResultsAreNew(t *testing.T) {
	first, _ := impl.ParseSpecs("1,2")
	first[0].Field = 5
	if second, ok := impl.ParseSpecs("1,2"); !ok || second[0].Field != 1 {
		t.Error("a second call returns", second, ok)
	}
}

// relationOf decodes the n*n low bits of code as a relation.
func relationOf(n, code int) [][]bool {
	less := make([][]bool, n)
	for i := range less {
		less[i] = make([]bool, n)
		for k := range less[i] {
			less[i][k] = code&1 != 0
			code >>= 1
		}
	}
	return less
}

// referenceDefect lists the violations of each axiom and returns the least one of the first
// axiom that is violated.
func referenceDefect(less [][]bool) []int {
	n := len(less)
	tied := func(i, k int) bool { return !less[i][k] && !less[k][i] }
	violations := make([][][]int, 4)
	for m := range n {
		for k := range n {
			for i := range n {
				if less[i][i] {
					violations[0] = append(violations[0], []int{i})
				}
				if less[i][k] && less[k][i] {
					violations[1] = append(violations[1], []int{i, k})
				}
				if less[i][k] && less[k][m] && !less[i][m] {
					violations[2] = append(violations[2], []int{i, k, m})
				}
				if tied(i, k) && tied(k, m) && !tied(i, m) {
					violations[3] = append(violations[3], []int{i, k, m})
				}
			}
		}
	}
	for _, list := range violations {
		if len(list) > 0 {
			return slices.MinFunc(list, slices.Compare[[]int])
		}
	}
	return nil
}

// checkRelation checks both functions on one relation that is valid in size.
func checkRelation(t *testing.T, less [][]bool) {
	t.Helper()
	before := cloneLists(less)
	want := referenceDefect(less)
	if witness, ok := impl.OrderDefect(less); !ok || !slices.Equal(witness, want) {
		t.Fatal("OrderDefect of", less, "returns", witness, ok, "instead of", want)
	}
	classes, ok := impl.OrderClasses(less)
	if !sameLists(less, before) {
		t.Fatal("the relation", before, "became", less)
	}
	if len(want) > 0 {
		if ok || len(classes) != 0 {
			t.Fatal("OrderClasses of", less, "returns", classes, ok)
		}
		return
	}
	if !ok || !areClasses(less, classes) {
		t.Fatal("OrderClasses of", less, "returns", classes, ok)
	}
}

// areClasses reports whether classes contains every element once and is ordered by less, which
// together determine it.
func areClasses(less [][]bool, classes [][]int) bool {
	place := map[int]int{}
	for c, class := range classes {
		if len(class) == 0 || !slices.IsSorted(class) {
			return false
		}
		for _, e := range class {
			if _, twice := place[e]; twice || e < 0 || e >= len(less) {
				return false
			}
			place[e] = c
		}
	}
	for i := range less {
		for k := range less {
			if less[i][k] != (place[i] < place[k]) {
				return false
			}
		}
	}
	return len(place) == len(less)
}

func TestOrderDefectSmallRelations(t *testing.T) {
	for n := 1; n <= 4; n++ {
		for code := range 1 << (n * n) {
			checkRelation(t, relationOf(n, code))
		}
	}
}

// rankedRelation is the weak order in which i precedes k if ranks[i] < ranks[k].
func rankedRelation(ranks []int) [][]bool {
	less := make([][]bool, len(ranks))
	for i := range less {
		less[i] = make([]bool, len(ranks))
		for k := range less[i] {
			less[i][k] = ranks[i] < ranks[k]
		}
	}
	return less
}

// TestOrderDefectOneChange changes one or two entries of large weak orders.
func TestOrderDefectOneChange(t *testing.T) {
	for _, ranks := range [][]int{
		{5}, {1, 1}, {2, 1, 0, 2, 1, 0}, {0, 1, 2, 3, 4, 5, 6, 7, 8, 9, 10, 11}, {11, 10, 9, 8, 7, 6, 5, 4, 3, 2, 1, 0},
		{0, 0, 0, 0, 0, 0, 0, 0, 0, 0, 0, 0}, {1, 0, 1, 0, 2, 2, 2, 0, 1, 0, 3, 3},
	} {
		less := rankedRelation(ranks)
		checkRelation(t, less)
		n := len(ranks)
		for p := range n * n {
			less[p/n][p%n] = !less[p/n][p%n]
			checkRelation(t, less)
			for q := 0; q < p; q += 7 {
				less[q/n][q%n] = !less[q/n][q%n]
				checkRelation(t, less)
				less[q/n][q%n] = !less[q/n][q%n]
			}
			less[p/n][p%n] = !less[p/n][p%n]
		}
	}
}

func TestOrderDefectWitnesses(t *testing.T) {
	y, n := true, false
	for _, c := range []struct {
		name string
		less [][]bool
		want []int
	}{
		{"one element", [][]bool{{n}}, nil},
		{"one reflexive element", [][]bool{{y}}, []int{0}},
		{"two reflexive elements", [][]bool{{n, n, n}, {n, y, n}, {n, n, y}}, []int{1}},
		{"reflexive before symmetric", [][]bool{{n, y, n}, {y, n, n}, {n, n, y}}, []int{2}},
		{"symmetric", [][]bool{{n, n, n}, {n, n, y}, {n, y, n}}, []int{1, 2}},
		{"two symmetric pairs", [][]bool{{n, n, y}, {n, n, y}, {y, y, n}}, []int{0, 2}},
		{"symmetric before intransitive", [][]bool{{n, y, n, n}, {n, n, y, n}, {n, n, n, y}, {n, n, y, n}}, []int{2, 3}},
		{"a cycle", [][]bool{{n, y, n}, {n, n, y}, {y, n, n}}, []int{0, 1, 2}},
		{"intransitive from 1", [][]bool{{n, n, n, n}, {n, n, y, n}, {n, n, n, y}, {n, n, n, n}}, []int{1, 2, 3}},
		{"intransitive backwards", [][]bool{{n, n, n}, {y, n, n}, {n, y, n}}, []int{2, 1, 0}},
		{"intransitive before incomparable", [][]bool{{n, y, n, n}, {n, n, n, y}, {n, n, n, n}, {n, n, n, n}}, []int{0, 1, 3}},
		{"incomparable", [][]bool{{n, n, y}, {n, n, n}, {n, n, n}}, []int{0, 1, 2}},
		{"incomparable through 2", [][]bool{{n, y, n}, {n, n, n}, {n, n, n}}, []int{0, 2, 1}},
		{"incomparable, last precedes", [][]bool{{n, n, n}, {n, n, n}, {y, n, n}}, []int{0, 1, 2}},
	} {
		if witness, ok := impl.OrderDefect(c.less); !ok || !slices.Equal(witness, c.want) {
			t.Error(c.name, witness, ok)
		}
	}
}

func TestOrderFunctionsSizes(t *testing.T) {
	for _, n := range []int{1, 12} {
		less := relationOf(n, 0)
		witness, ok := impl.OrderDefect(less)
		classes, fine := impl.OrderClasses(less)
		if !ok || len(witness) != 0 || !fine || len(classes) != 1 || len(classes[0]) != n {
			t.Error(n, "elements:", witness, ok, classes, fine)
		}
	}
	short, long, missing := relationOf(3, 0), relationOf(3, 0), relationOf(3, 0)
	short[2], long[1], missing[0] = short[2][:2], append(long[1], false), nil
	for i, less := range [][][]bool{
		nil, {}, relationOf(13, 0), relationOf(100, 0), make([][]bool, 12), make([][]bool, 1), make([][]bool, 1<<20),
		{{false, false}}, {{false}, {false}}, {{}}, {{true}, {}}, short, long, missing,
		{{true, false}, {false, false, false}}, {{true, false, false}, {false, false, false}},
	} {
		if witness, ok := impl.OrderDefect(less); ok || len(witness) != 0 {
			t.Error("invalid relation", i, witness, ok)
		}
		if classes, ok := impl.OrderClasses(less); ok || len(classes) != 0 {
			t.Error("classes of invalid relation", i, classes, ok)
		}
	}
	beyond := relationOf(4, 1<<16-1)[:2]
	beyond[0], beyond[1] = beyond[0][:2], beyond[1][:2]
	beyond[0][0], beyond[1][0], beyond[1][1] = false, false, false
	if witness, ok := impl.OrderDefect(beyond); !ok || len(witness) != 0 {
		t.Error("entries beyond the length count:", witness, ok)
	}
}

func TestOrderClasses(t *testing.T) {
	for _, c := range []struct {
		ranks []int
		want  [][]int
	}{
		{[]int{0}, [][]int{{0}}},
		{[]int{4, 4}, [][]int{{0, 1}}},
		{[]int{1, 0}, [][]int{{1}, {0}}},
		{[]int{2, 1, 2, 0, 1, 2}, [][]int{{3}, {1, 4}, {0, 2, 5}}},
		{[]int{3, 2, 1, 0, 0, 1, 2, 3, 3, 2, 1, 0}, [][]int{{3, 4, 11}, {2, 5, 10}, {1, 6, 9}, {0, 7, 8}}},
		{[]int{11, 10, 9, 8, 7, 6, 5, 4, 3, 2, 1, 0}, [][]int{{11}, {10}, {9}, {8}, {7}, {6}, {5}, {4}, {3}, {2}, {1}, {0}}},
	} {
		got, ok := impl.OrderClasses(rankedRelation(c.ranks))
		if !ok || !sameLists(got, c.want) {
			t.Error("ranks", c.ranks, "yield", got, ok)
		}
	}
}

// TestOrderClassesMemory writes to one class at a time.
func TestOrderClassesMemory(t *testing.T) {
	got, ok := impl.OrderClasses(rankedRelation([]int{0, 0, 0, 1, 1, 2}))
	if !ok || len(got) != 3 {
		t.Fatal(got, ok)
	}
	checkSeparate(t, "class", got)
}
