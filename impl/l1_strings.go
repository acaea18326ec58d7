package impl

import (
	"iter"
	"strconv"
	"strings"
)

const MaxString = 4000
const MaxDecimal = 999999

const (
	checksumMark    = "#"
	checksumStart   = 7
	checksumFactor  = 41
	checksumModulus = 999979
)

// FormatInt returns the decimal representation of n and true. If n is outside
// -MaxDecimal..MaxDecimal it returns the empty string and false. The representation has no
// leading zeros; a negative number starts with `-`.
func FormatInt(n int) (string, bool) {
	if n < -MaxDecimal || n > MaxDecimal {
		return "", false
	}
	return strconv.Itoa(n), true
}

// ParseInt is the inverse of FormatInt: it returns the integer n for which FormatInt(n) is s,
// and true. For any other string, including strings with leading zeros, a leading `+`, or `-0`,
// it returns 0 and false.
func ParseInt(s string) (int, bool) {
	n, err := strconv.Atoi(s)
	if err != nil {
		return 0, false
	}
	// Atoi accepts several notations of one number; only that of FormatInt is valid.
	notation, ok := FormatInt(n)
	if !ok || notation != s {
		return 0, false
	}
	return n, true
}

// SplitString splits s, which must have at most MaxString bytes, at every occurrence of the
// single-byte separator sep, and returns the substrings between the separators in order, and
// true. The result has one element more than s has separators, so the empty string yields one
// empty element. If s is too long or sep does not consist of exactly one byte, it returns an
// empty slice and false.
func SplitString(s string, sep string) ([]string, bool) {
	if len(s) > MaxString || len(sep) != 1 {
		return []string{}, false
	}
	parts := []string{}
	start := 0
	for i := range separatorIndices(s, sep[0]) {
		parts = append(parts, s[start:i])
		start = i + 1
	}
	return append(parts, s[start:]), true
}

// separatorIndices yields the indices of the byte sep in s in ascending order. It looks at
// bytes, not at runes: a separator may be a byte that is no character of its own.
func separatorIndices(s string, sep byte) iter.Seq[int] {
	return func(yield func(int) bool) {
		for i := range len(s) {
			if s[i] == sep && !yield(i) {
				return
			}
		}
	}
}

// JoinStrings is the inverse of SplitString: it returns the elements of parts concatenated with
// sep between consecutive elements, and true. It returns the empty string and false if parts is
// empty, if sep does not consist of exactly one byte, if an element contains sep, or if the
// result would have more than MaxString bytes.
func JoinStrings(parts []string, sep string) (string, bool) {
	if len(parts) == 0 || len(sep) != 1 || !canJoin(parts, sep[0]) {
		return "", false
	}
	return strings.Join(parts, sep), true
}

// canJoin reports whether no element of the non-empty parts contains sep and the joined string
// has at most MaxString bytes.
func canJoin(parts []string, sep byte) bool {
	length := len(parts) - 1
	contained := false
elements:
	for _, part := range parts {
		length += len(part)
		// Stopping here bounds the work on parts of any size.
		if length > MaxString {
			break
		}
		for range separatorIndices(part, sep) {
			contained = true
			break elements
		}
	}
	return !contained && length <= MaxString
}

// LessString reports whether a is lexicographically less than b, comparing byte by byte; a
// proper prefix is less than the longer string.
func LessString(a string, b string) bool {
	return a < b
}

// Checksum returns the checksum of s and true. The checksum starts at 7 and is updated for
// every byte c of s, in order, to (41*h + c + 1) modulo 999979. If s has more than MaxString
// bytes, it returns 0 and false.
func Checksum(s string) (int, bool) {
	if len(s) > MaxString {
		return 0, false
	}
	h := checksumStart
	for i := range len(s) {
		h = (checksumFactor*h + int(s[i]) + 1) % checksumModulus
	}
	return h, true
}

// AppendChecksum returns s followed by `#` and the decimal checksum of s, and true. It returns
// the empty string and false if s contains `#` or if s or the result has more than MaxString
// bytes.
func AppendChecksum(s string) (string, bool) {
	sum, ok := Checksum(s)
	if !ok {
		return "", false
	}
	// A checksum is less than checksumModulus and so never exceeds MaxDecimal.
	digits, _ := FormatInt(sum)
	return JoinStrings([]string{s, digits}, checksumMark)
}

// VerifyChecksum is the inverse of AppendChecksum: it returns the string t for which
// AppendChecksum(t) is s, and true. If there is no such string, it returns the empty string and
// false.
func VerifyChecksum(s string) (string, bool) {
	parts, ok := SplitString(s, checksumMark)
	if !ok {
		return "", false
	}
	// Comparing the whole string rejects a second mark, leading zeros and signs as well as a
	// wrong number.
	sealed, ok := AppendChecksum(parts[0])
	if !ok || sealed != s {
		return "", false
	}
	return parts[0], true
}
