package impl

import (
	"cmp"
	"slices"
	"strconv"
	"strings"
)

const (
	MaxAtom   = 8
	MaxNumber = 9999
)

func FormatInt(n int) string {
	return strconv.Itoa(n)
}

// ParseInt goes through the digits itself, since strconv.Atoi accepts signs and
// leading zeros, and allocates an error for every text that is no number.
func ParseInt(s string) (int, bool) {
	if s == "" || len(s) > 1 && s[0] == '0' {
		return 0, false
	}
	n := 0
	for _, r := range s {
		if !isDigit(r) {
			return 0, false
		}
		n = 10*n + int(r-'0')
		// Checked at each digit, so that a long text cannot wrap around.
		if n > MaxNumber {
			return 0, false
		}
	}
	return n, true
}

func IsAtom(s string) bool {
	if s == "" || len(s) > MaxAtom {
		return false
	}
	for _, r := range s {
		if !isLetter(r) && !isDigit(r) {
			return false
		}
	}
	return true
}

func IsNumber(s string) bool {
	_, ok := ParseInt(s)
	return ok
}

func IsName(s string) bool {
	return IsAtom(s) && isLetter(rune(s[0]))
}

func IsVar(s string) bool {
	rest, ok := strings.CutPrefix(s, "?")
	return ok && IsAtom(rest)
}

func IsTerm(s string) bool {
	return IsAtom(s) || IsVar(s)
}

func CompareAtoms(a string, b string) int {
	x, aNumber := ParseInt(a)
	y, bNumber := ParseInt(b)
	switch {
	case aNumber && bNumber:
		return cmp.Compare(x, y)
	case aNumber:
		return -1
	case bNumber:
		return 1
	}
	return cmp.Compare(a, b)
}

func Split(s string, sep string) []string {
	// strings.Split would divide s into its characters here.
	if sep == "" {
		return []string{s}
	}
	return strings.Split(s, sep)
}

func Join(l []string, sep string) string {
	return strings.Join(l, sep)
}

func SortedTexts(l []string) []string {
	texts := slices.Clone(l)
	slices.Sort(texts)
	return slices.Compact(texts)
}

func isLetter(r rune) bool {
	return 'a' <= r && r <= 'z'
}

func isDigit(r rune) bool {
	return '0' <= r && r <= '9'
}

func formatInts(l []int) []string {
	texts := make([]string, len(l))
	for i, n := range l {
		texts[i] = FormatInt(n)
	}
	return texts
}
