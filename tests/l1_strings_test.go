package tests

import (
	"bytes"
	"math"
	"math/big"
	"slices"
	"strconv"
	"strings"
	"testing"

	"loop.example/g00907/impl"
)

// wordsOver returns all strings of at most length bytes of alphabet, the empty string first.
func wordsOver(alphabet string, length int) []string {
	words := []string{""}
	last := words
	for range length {
		var next []string
		for _, w := range last {
			for i := range len(alphabet) {
				next = append(next, w+alphabet[i:i+1])
			}
		}
		words = append(words, next...)
		last = next
	}
	return words
}

// oddStrings are inputs that are too long, not UTF-8, or otherwise unlike ordinary text.
func oddStrings() []string {
	return []string{
		"", "\x00", "\xff", "\xc3", "é", "#", "##", " ", "\n", "a\x00b", "-", "+",
		strings.Repeat("a", impl.MaxString),
		strings.Repeat("a", impl.MaxString+1),
		strings.Repeat("#", impl.MaxString),
		strings.Repeat("9", impl.MaxString+1),
		strings.Repeat("\xff", 1<<20),
	}
}

func TestFormatIntOrdinary(t *testing.T) {
	for n, want := range map[int]string{
		0: "0", 7: "7", -1: "-1", -12: "-12", 10: "10", 100000: "100000", -90210: "-90210",
	} {
		if s, ok := impl.FormatInt(n); !ok || s != want {
			t.Errorf("FormatInt(%d) = %q, %v", n, s, ok)
		}
	}
}

func TestFormatIntLimits(t *testing.T) {
	for n, want := range map[int]string{impl.MaxDecimal: "999999", -impl.MaxDecimal: "-999999"} {
		if s, ok := impl.FormatInt(n); !ok || s != want {
			t.Errorf("FormatInt(%d) = %q, %v", n, s, ok)
		}
	}
	for _, n := range []int{
		impl.MaxDecimal + 1, -impl.MaxDecimal - 1, math.MaxInt, math.MinInt,
		math.MinInt + 1, 1 << 32, 1<<32 + 5, -(1 << 32),
	} {
		if s, ok := impl.FormatInt(n); ok || s != "" {
			t.Errorf("FormatInt(%d) = %q, %v", n, s, ok)
		}
	}
}

func TestDecimalRoundTrip(t *testing.T) {
	for n := -impl.MaxDecimal; n <= impl.MaxDecimal; n++ {
		s, ok := impl.FormatInt(n)
		if !ok {
			t.Fatalf("FormatInt(%d) fails", n)
		}
		if m, ok := impl.ParseInt(s); !ok || m != n {
			t.Fatalf("ParseInt(%q) = %d, %v", s, m, ok)
		}
	}
}

func TestParseIntOrdinaryAndLimits(t *testing.T) {
	for s, want := range map[string]int{
		"0": 0, "5": 5, "-5": -5, "10": 10, "-100": -100, "123456": 123456,
		"999999": 999999, "-999999": -999999,
	} {
		if n, ok := impl.ParseInt(s); !ok || n != want {
			t.Errorf("ParseInt(%q) = %d, %v", s, n, ok)
		}
	}
}

func TestParseIntInvalid(t *testing.T) {
	for _, s := range []string{
		"", "-", "+", "--1", "-+1", "+1", "+0", "-0", "00", "-00", "01", "-01", "007", "000000",
		"1000000", "-1000000", "0999999", "9223372036854775807", "-9223372036854775808",
		"18446744073709551617", "4294967297", " 1", "1 ", "1\n", "\t1", "1 2", "1_0", "0x1", "0b1",
		"1e3", "1.0", "1.", "1-", "1x", "x", "a1", "1\x00", "\xff", "\xef\xbc\x91",
		strings.Repeat("0", 5000), strings.Repeat("1", 1<<20),
	} {
		if n, ok := impl.ParseInt(s); ok || n != 0 {
			t.Errorf("ParseInt(%.20q) = %d, %v", s, n, ok)
		}
	}
}

// TestParseIntAcceptsOnlyNotations compares ParseInt on all short strings with the list of the
// notations of the integers.
func TestParseIntAcceptsOnlyNotations(t *testing.T) {
	numbers := map[string]int{}
	for n := -999; n <= 9999; n++ {
		numbers[strconv.FormatInt(int64(n), 10)] = n
	}
	for _, s := range wordsOver("-+019 _.", 4) {
		want, valid := numbers[s]
		if n, ok := impl.ParseInt(s); ok != valid || n != want {
			t.Errorf("ParseInt(%q) = %d, %v", s, n, ok)
		}
	}
}

func TestSplitString(t *testing.T) {
	for _, c := range []struct {
		s, sep string
		want   []string
	}{
		{"a,,b", ",", []string{"a", "", "b"}},
		{"", ",", []string{""}},
		{",", ",", []string{"", ""}},
		{",,", ",", []string{"", "", ""}},
		{",a", ",", []string{"", "a"}},
		{"a,", ",", []string{"a", ""}},
		{"abc", ",", []string{"abc"}},
		{"one two", " ", []string{"one", "two"}},
		{"a,b;c", ";", []string{"a,b", "c"}},
		{"a\x00b", "\x00", []string{"a", "b"}},
		{"\xfe\xff\xfe", "\xff", []string{"\xfe", "\xfe"}},
		{"é", "\xc3", []string{"", "\xa9"}},
		{"é", "\xa9", []string{"\xc3", ""}},
		{"\xff\xfd", "\xfd", []string{"\xff", ""}},
	} {
		got, ok := impl.SplitString(c.s, c.sep)
		if !ok || !slices.Equal(got, c.want) {
			t.Errorf("SplitString(%q, %q) = %q, %v", c.s, c.sep, got, ok)
		}
	}
}

func TestSplitStringLimits(t *testing.T) {
	if got, ok := impl.SplitString(strings.Repeat("a", impl.MaxString), ","); !ok || len(got) != 1 || len(got[0]) != impl.MaxString {
		t.Error("exactly MaxString bytes:", len(got), ok)
	}
	if got, ok := impl.SplitString(strings.Repeat(",", impl.MaxString), ","); !ok || len(got) != impl.MaxString+1 {
		t.Error("MaxString separators:", len(got), ok)
	}
	for _, s := range []string{strings.Repeat("a", impl.MaxString+1), strings.Repeat(",", impl.MaxString+1)} {
		if got, ok := impl.SplitString(s, ","); ok || len(got) != 0 {
			t.Error("one byte too many:", len(got), ok)
		}
	}
}

func TestSplitStringInvalidSeparator(t *testing.T) {
	for _, sep := range []string{"", ",,", ", ", "é", "\xff\xff", strings.Repeat(",", 5000)} {
		for _, s := range []string{"", "a", "a,,b", sep} {
			if got, ok := impl.SplitString(s, sep); ok || len(got) != 0 {
				t.Errorf("SplitString(%.20q, %.20q) = %d elements, %v", s, sep, len(got), ok)
			}
		}
	}
}

func TestSplitStringResultsAreNew(t *testing.T) {
	first, _ := impl.SplitString("a,b", ",")
	first[0] = "changed"
	if second, ok := impl.SplitString("a,b", ","); !ok || !slices.Equal(second, []string{"a", "b"}) {
		t.Errorf("a second call returns %q, %v", second, ok)
	}
}

func TestJoinStrings(t *testing.T) {
	for _, c := range []struct {
		parts []string
		sep   string
		want  string
	}{
		{[]string{"a", "", "b"}, ";", "a;;b"},
		{[]string{""}, ";", ""},
		{[]string{"", ""}, ";", ";"},
		{[]string{"a"}, ";", "a"},
		{[]string{"a,b", "c"}, ";", "a,b;c"},
		{[]string{"\xfe", "\xfd"}, "\xff", "\xfe\xff\xfd"},
		{[]string{"a", "b"}, "\x00", "a\x00b"},
	} {
		if got, ok := impl.JoinStrings(c.parts, c.sep); !ok || got != c.want {
			t.Errorf("JoinStrings(%q, %q) = %q, %v", c.parts, c.sep, got, ok)
		}
	}
}

func TestJoinStringsSeparatorInElement(t *testing.T) {
	for _, c := range []struct {
		parts []string
		sep   string
	}{
		{[]string{"a;b"}, ";"},
		{[]string{";"}, ";"},
		{[]string{";a", "b"}, ";"},
		{[]string{"a", "b;"}, ";"},
		{[]string{"a", "b", "c", "d;e", "f"}, ";"},
		{[]string{"", ";", ""}, ";"},
		{[]string{"é"}, "\xc3"},
		{[]string{"x", "é"}, "\xa9"},
		{[]string{"a\x00"}, "\x00"},
		{[]string{strings.Repeat("a", impl.MaxString-1) + ";"}, ";"},
	} {
		if got, ok := impl.JoinStrings(c.parts, c.sep); ok || got != "" {
			t.Errorf("JoinStrings(%.40q, %q) = %.40q, %v", c.parts, c.sep, got, ok)
		}
	}
}

func TestJoinStringsInvalid(t *testing.T) {
	for _, parts := range [][]string{nil, {}, make([]string, 0, 5), []string{"x"}[:0]} {
		if got, ok := impl.JoinStrings(parts, ","); ok || got != "" {
			t.Errorf("no elements: %q, %v", got, ok)
		}
	}
	for _, sep := range []string{"", ",,", "é", strings.Repeat(",", 5000)} {
		for _, parts := range [][]string{nil, {""}, {"a"}, {"a", "b"}} {
			if got, ok := impl.JoinStrings(parts, sep); ok || got != "" {
				t.Errorf("JoinStrings(%q, %.20q) = %q, %v", parts, sep, got, ok)
			}
		}
	}
}

func TestJoinStringsLimits(t *testing.T) {
	half := strings.Repeat("a", impl.MaxString/2)
	for _, parts := range [][]string{
		{half + half},
		{half, half[1:]},
		{"", half + half[1:]},
		{half + half[1:], ""},
		make([]string, impl.MaxString+1),
	} {
		if got, ok := impl.JoinStrings(parts, ","); !ok || len(got) != impl.MaxString || got != strings.Join(parts, ",") {
			t.Errorf("%d elements, exactly MaxString bytes: %d bytes, %v", len(parts), len(got), ok)
		}
	}
	for _, parts := range [][]string{
		{half + half + "a"},
		{half, half},
		{"", half + half},
		{half + half, ""},
		make([]string, impl.MaxString+2),
		make([]string, 1<<20),
		slices.Repeat([]string{strings.Repeat("a", 1<<20)}, 1<<10),
	} {
		if got, ok := impl.JoinStrings(parts, ","); ok || got != "" {
			t.Errorf("%d elements, too many bytes: %d bytes, %v", len(parts), len(got), ok)
		}
	}
}

func TestJoinStringsLeavesItsArgument(t *testing.T) {
	all := []string{"a", "b", "c;d", "e"}
	parts := all[:2]
	if got, ok := impl.JoinStrings(parts, ";"); !ok || got != "a;b" {
		t.Errorf("elements beyond the length count: %q, %v", got, ok)
	}
	impl.JoinStrings(all, ";")
	if !slices.Equal(all, []string{"a", "b", "c;d", "e"}) {
		t.Errorf("the argument became %q", all)
	}
}

func TestSplittingRoundTrip(t *testing.T) {
	words := append(wordsOver("a,;\xff", 5), oddStrings()...)
	for _, s := range words {
		for _, sep := range []string{",", ";", "\xff", "#"} {
			parts, ok := impl.SplitString(s, sep)
			if ok != (len(s) <= impl.MaxString) {
				t.Fatalf("SplitString(%.20q, %q) returns %v", s, sep, ok)
			}
			if !ok {
				continue
			}
			if len(parts) != strings.Count(s, sep)+1 {
				t.Fatalf("SplitString(%.20q, %q) has %d elements", s, sep, len(parts))
			}
			if joined, ok := impl.JoinStrings(parts, sep); !ok || joined != s {
				t.Fatalf("joining the elements of %.20q at %q yields %.20q, %v", s, sep, joined, ok)
			}
		}
	}
}

func TestJoiningRoundTrip(t *testing.T) {
	words := wordsOver("a,", 2)
	for _, a := range words {
		for _, b := range words {
			for _, c := range words {
				parts := []string{a, b, c}
				joined, ok := impl.JoinStrings(parts, ",")
				if ok == strings.Contains(a+b+c, ",") {
					t.Fatalf("JoinStrings(%q) returns %v", parts, ok)
				}
				if !ok {
					continue
				}
				if again, ok := impl.SplitString(joined, ","); !ok || !slices.Equal(again, parts) {
					t.Fatalf("splitting %q yields %q, %v", joined, again, ok)
				}
			}
		}
	}
}

func TestLessString(t *testing.T) {
	for _, c := range []struct {
		a, b string
		want bool
	}{
		{"a", "ab", true}, {"ab", "a", false}, {"", "a", true}, {"a", "", false}, {"", "", false},
		{"", "\x00", true}, {"a", "a\x00", true}, {"a", "a", false}, {"b", "ab", false},
		{"ab", "b", true}, {"abc", "abd", true}, {"B", "a", true}, {"10", "9", true},
		{"z", "\xff", true}, {"\x7f", "\x80", true}, {"\xff", "\x00", false},
		{"\xef\xbf\xbd", "\xff", true}, {"\xff", "\xfe", false}, {"z", "é", true},
	} {
		if got := impl.LessString(c.a, c.b); got != c.want {
			t.Errorf("LessString(%q, %q) = %v", c.a, c.b, got)
		}
	}
}

func TestLessStringComparesBytes(t *testing.T) {
	words := append(wordsOver("\x00aB\xff", 3), oddStrings()...)
	for _, a := range words {
		for _, b := range words {
			want := bytes.Compare([]byte(a), []byte(b)) < 0
			if impl.LessString(a, b) != want {
				t.Fatalf("LessString(%.20q, %.20q) is not %v", a, b, want)
			}
		}
	}
}

// polynomialSum evaluates the checksum as a polynomial in 41 with exact integers, reducing once.
func polynomialSum(s string) int {
	sum := big.NewInt(7)
	for i := range len(s) {
		sum.Mul(sum, big.NewInt(41))
		sum.Add(sum, big.NewInt(int64(s[i])+1))
	}
	return int(sum.Mod(sum, big.NewInt(999979)).Int64())
}

func TestChecksum(t *testing.T) {
	for s, want := range map[string]int{"": 7, "a": 385, "ab": 15884, "\x00": 288, "\xff": 543, "#": 323} {
		if n, ok := impl.Checksum(s); !ok || n != want {
			t.Errorf("Checksum(%q) = %d, %v", s, n, ok)
		}
	}
	for _, s := range append(wordsOver("az#\xff", 5), strings.Repeat("\xff", impl.MaxString), strings.Repeat("sort", 500)) {
		if n, ok := impl.Checksum(s); !ok || n != polynomialSum(s) {
			t.Errorf("Checksum(%.20q) = %d, %v", s, n, ok)
		}
	}
}

func TestChecksumLimits(t *testing.T) {
	s := strings.Repeat("x", impl.MaxString)
	if n, ok := impl.Checksum(s); !ok || n != polynomialSum(s) {
		t.Error("exactly MaxString bytes:", n, ok)
	}
	for _, s := range []string{s + "x", strings.Repeat("x", 1<<20)} {
		if n, ok := impl.Checksum(s); ok || n != 0 {
			t.Error(len(s), "bytes:", n, ok)
		}
	}
}

func TestAppendChecksum(t *testing.T) {
	for s, want := range map[string]string{"": "#7", "a": "a#385", "ab": "ab#15884", "-1": "-1#" + strconv.Itoa(polynomialSum("-1"))} {
		if got, ok := impl.AppendChecksum(s); !ok || got != want {
			t.Errorf("AppendChecksum(%q) = %q, %v", s, got, ok)
		}
	}
}

func TestAppendChecksumInvalid(t *testing.T) {
	for _, s := range []string{
		"#", "a#", "#a", "a#b", "a#385", "##", strings.Repeat("a", 3000) + "#",
		strings.Repeat("a", impl.MaxString-1), strings.Repeat("a", impl.MaxString),
		strings.Repeat("a", impl.MaxString+1), strings.Repeat("a", 1<<20),
	} {
		if got, ok := impl.AppendChecksum(s); ok || got != "" {
			t.Errorf("AppendChecksum(%.20q) of %d bytes = %.20q, %v", s, len(s), got, ok)
		}
	}
}

// TestAppendChecksumLimits meets MaxString exactly and exceeds it by one, with results that end
// in checksums of several lengths.
func TestAppendChecksumLimits(t *testing.T) {
	exact, exceeded := map[int]bool{}, map[int]bool{}
	for length := impl.MaxString - 8; length <= impl.MaxString; length++ {
		for head := range 100 {
			s := strconv.Itoa(100+head) + strings.Repeat("a", length-3)
			sum, ok := impl.Checksum(s)
			if !ok {
				t.Fatal("no checksum of", length, "bytes")
			}
			want := s + "#" + strconv.Itoa(sum)
			digits := len(want) - length - 1
			got, ok := impl.AppendChecksum(s)
			back, opened := impl.VerifyChecksum(want)
			if len(want) > impl.MaxString {
				exceeded[digits] = exceeded[digits] || len(want) == impl.MaxString+1
				if ok || got != "" || opened || back != "" {
					t.Fatal("accepted", len(want), "bytes")
				}
				continue
			}
			exact[digits] = exact[digits] || len(want) == impl.MaxString
			if !ok || got != want || !opened || back != s {
				t.Fatal("refused", len(want), "bytes")
			}
		}
	}
	for _, digits := range []int{5, 6} {
		if !exact[digits] || !exceeded[digits] {
			t.Error("the limit was not reached with a checksum of", digits, "digits")
		}
	}
}

func TestVerifyChecksum(t *testing.T) {
	for s, want := range map[string]string{"#7": "", "a#385": "a", "ab#15884": "ab"} {
		if got, ok := impl.VerifyChecksum(s); !ok || got != want {
			t.Errorf("VerifyChecksum(%q) = %q, %v", s, got, ok)
		}
	}
	for _, s := range wordsOver("a-1 \xff", 5) {
		sealed, ok := impl.AppendChecksum(s)
		if !ok {
			t.Fatalf("AppendChecksum(%q) fails", s)
		}
		if got, ok := impl.VerifyChecksum(sealed); !ok || got != s {
			t.Fatalf("VerifyChecksum(%q) = %q, %v", sealed, got, ok)
		}
	}
}

func TestVerifyChecksumInvalid(t *testing.T) {
	second := "a#b#" + strconv.Itoa(polynomialSum("a#b"))
	sealedTwice := "a#385#" + strconv.Itoa(polynomialSum("a#385"))
	for _, s := range []string{
		"", "#", "a", "a#", "7", "385", "a#384", "a#386", "a385", "b#385", "#07", "#8", "#-7", "#+7",
		"a#0385", "a#00385", "a#+385", "a#-385", "a# 385", "a#385 ", "a#385\n", "a#3850", "a#38",
		"a#1000364", "a#-999594", "a##385", "#a#385", "a#385#", "a#385#1", "a#385#385", second, sealedTwice,
		"a#" + strings.Repeat("3", 5000), strings.Repeat("#", 1<<20),
	} {
		if got, ok := impl.VerifyChecksum(s); ok || got != "" {
			t.Errorf("VerifyChecksum(%.20q) = %.20q, %v", s, got, ok)
		}
	}
}

func TestSingleChangedByteIsDetected(t *testing.T) {
	for _, s := range []string{"", "a", "0", "12,-7", "\x00\xff", "spill 3 records", strings.Repeat("\xff", 200)} {
		sealed, ok := impl.AppendChecksum(s)
		if !ok {
			t.Fatalf("AppendChecksum(%q) fails", s)
		}
		for i := range len(sealed) {
			changed := []byte(sealed)
			for c := range 256 {
				if byte(c) == sealed[i] {
					continue
				}
				changed[i] = byte(c)
				if got, ok := impl.VerifyChecksum(string(changed)); ok || got != "" {
					t.Fatalf("VerifyChecksum(%q) = %q, %v", changed, got, ok)
				}
			}
		}
	}
}

// TestStringFunctionsReturnForAllArguments checks the zero values that go with false.
func TestStringFunctionsReturnForAllArguments(t *testing.T) {
	for _, s := range oddStrings() {
		if n, ok := impl.ParseInt(s); !ok && n != 0 {
			t.Errorf("ParseInt(%.20q) = %d, false", s, n)
		}
		if n, ok := impl.Checksum(s); !ok && n != 0 {
			t.Errorf("Checksum(%.20q) = %d, false", s, n)
		}
		if got, ok := impl.AppendChecksum(s); !ok && got != "" {
			t.Errorf("AppendChecksum(%.20q) = %.20q, false", s, got)
		}
		if got, ok := impl.VerifyChecksum(s); !ok && got != "" {
			t.Errorf("VerifyChecksum(%.20q) = %.20q, false", s, got)
		}
		for _, sep := range oddStrings() {
			if got, ok := impl.SplitString(s, sep); !ok && len(got) != 0 {
				t.Errorf("SplitString(%.20q, %.20q) = %.20q, false", s, sep, got)
			}
			if got, ok := impl.JoinStrings([]string{s, sep}, sep); ok || got != "" {
				t.Errorf("JoinStrings of %.20q and its separator %.20q = %.20q, %v", s, sep, got, ok)
			}
		}
	}
}
