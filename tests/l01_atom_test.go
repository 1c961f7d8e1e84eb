package tests

import (
	"cmp"
	"math"
	"slices"
	"strconv"
	"strings"
	"testing"

	"loop.example/g03015/impl"
)

// The kinds of a text that chapter 1 tells apart.
const (
	kindNone = iota
	kindNumber
	kindName
	kindOtherAtom
	kindVar
)

var kindsOfTexts = []struct {
	text string
	kind int
}{
	{"0", kindNumber},
	{"7", kindNumber},
	{"9", kindNumber},
	{"10", kindNumber},
	{"42", kindNumber},
	{"100", kindNumber},
	{"1000", kindNumber},
	{"9998", kindNumber},
	{"9999", kindNumber},

	{"a", kindName},
	{"z", kindName},
	{"x1", kindName},
	{"a0z9", kindName},
	{"e5", kindName},
	{"abcdefgh", kindName},
	{"z9999999", kindName},

	{"00", kindOtherAtom},
	{"007", kindOtherAtom},
	{"01", kindOtherAtom},
	{"0000", kindOtherAtom},
	{"09999", kindOtherAtom},
	{"10000", kindOtherAtom},
	{"12345678", kindOtherAtom},
	{"99999999", kindOtherAtom},
	{"1a", kindOtherAtom},
	{"0x1", kindOtherAtom},
	{"1e3", kindOtherAtom},
	{"9abcdefg", kindOtherAtom},

	{"?a", kindVar},
	{"?z", kindVar},
	{"?0", kindVar},
	{"?1", kindVar},
	{"?9", kindVar},
	{"?007", kindVar},
	{"?abcdefgh", kindVar},
	{"?12345678", kindVar},

	{"", kindNone},
	{"?", kindNone},
	{"??", kindNone},
	{"??x", kindNone},
	{"x?", kindNone},
	{"?x?", kindNone},
	{" ?x", kindNone},
	{"?x ", kindNone},
	{"? x", kindNone},
	{"?X", kindNone},
	{"?xY", kindNone},
	{"?-1", kindNone},
	{"?abcdefghi", kindNone},
	{"?123456789", kindNone},
	{"abcdefghi", kindNone},
	{"123456789", kindNone},
	{"000000001", kindNone},
	{"18446744073709551617", kindNone},
	{"A", kindNone},
	{"Z", kindNone},
	{"aB", kindNone},
	{"Ab", kindNone},
	{"-1", kindNone},
	{"-0", kindNone},
	{"+1", kindNone},
	{" 1", kindNone},
	{"1 ", kindNone},
	{"1_0", kindNone},
	{"1.0", kindNone},
	{"a b", kindNone},
	{"a\n", kindNone},
	{"a\x00", kindNone},
	{"\x00", kindNone},
	{"a,b", kindNone},
	{"a(b)", kindNone},
	{"\u00e9", kindNone},        // a letter outside ASCII
	{"a\u00e9", kindNone},       // the same behind a letter
	{"\u0665", kindNone},        // a digit outside ASCII
	{"1\u0665", kindNone},       // the same behind a digit
	{"\uff41", kindNone},        // a wide a
	{"?\u00e9", kindNone},       // a variable of such a letter
	{"\xff", kindNone},          // no UTF-8
	{"a\x80", kindNone},         // no UTF-8 behind a letter
	{"?\xe1", kindNone},         // a byte that is a letter with the high bit set
	{"\u0161", kindNone},        // the low byte of this rune is a letter
	{"\u0131", kindNone},        // the low byte of this rune is a digit
	{"\ufffd", kindNone},        // the rune by which Go stands for no UTF-8
	{"abcdefg\u00e9", kindNone}, // 8 runes, 9 bytes
}

func TestKindsOfTexts(t *testing.T) {
	for _, c := range kindsOfTexts {
		atom := c.kind == kindNumber || c.kind == kindName || c.kind == kindOtherAtom
		checkKind(t, "IsAtom", c.text, impl.IsAtom(c.text), atom)
		checkKind(t, "IsNumber", c.text, impl.IsNumber(c.text), c.kind == kindNumber)
		checkKind(t, "IsName", c.text, impl.IsName(c.text), c.kind == kindName)
		checkKind(t, "IsVar", c.text, impl.IsVar(c.text), c.kind == kindVar)
		checkKind(t, "IsTerm", c.text, impl.IsTerm(c.text), atom || c.kind == kindVar)
	}
}

func checkKind(t *testing.T, function string, text string, got bool, want bool) {
	t.Helper()
	if got != want {
		t.Errorf("%s(%q) = %v", function, text, got)
	}
}

// Every text of one or two bytes, so that each byte is tried first and last, alone and in a variable.
func TestKindsOfShortTexts(t *testing.T) {
	for a := range 256 {
		one := string([]byte{byte(a)})
		checkShort(t, one)
		for b := range 256 {
			checkShort(t, one+string([]byte{byte(b)}))
		}
	}
}

func checkShort(t *testing.T, text string) {
	t.Helper()
	const digits = "0123456789"
	const atoms = "abcdefghijklmnopqrstuvwxyz" + digits
	atom := true
	number := len(text) == 1 || text[0] != '0'
	for i := range len(text) {
		atom = atom && strings.IndexByte(atoms, text[i]) >= 0
		number = number && strings.IndexByte(digits, text[i]) >= 0
	}
	name := atom && strings.IndexByte(digits, text[0]) < 0
	variable := len(text) == 2 && text[0] == '?' && strings.IndexByte(atoms, text[1]) >= 0
	checkKind(t, "IsAtom", text, impl.IsAtom(text), atom)
	checkKind(t, "IsNumber", text, impl.IsNumber(text), number)
	checkKind(t, "IsName", text, impl.IsName(text), name)
	checkKind(t, "IsVar", text, impl.IsVar(text), variable)
	checkKind(t, "IsTerm", text, impl.IsTerm(text), atom || variable)
}

// Each length from 0 bytes to beyond the limit, of letters and of digits.
func TestLengthsOfAtoms(t *testing.T) {
	for n := range impl.MaxAtom + 4 {
		want := n >= 1 && n <= 8
		for _, c := range []string{"k", "5"} {
			text := strings.Repeat(c, n)
			checkKind(t, "IsAtom", text, impl.IsAtom(text), want)
			checkKind(t, "IsVar", "?"+text, impl.IsVar("?"+text), want)
			checkKind(t, "IsTerm", text, impl.IsTerm(text), want)
			checkKind(t, "IsTerm", "?"+text, impl.IsTerm("?"+text), want)
		}
	}
	long := strings.Repeat("9", 10000)
	checkKind(t, "IsAtom", "10000 nines", impl.IsAtom(long), false)
	checkKind(t, "IsNumber", "10000 nines", impl.IsNumber(long), false)
}

func TestLimitsOfAtoms(t *testing.T) {
	if impl.MaxAtom != 8 || impl.MaxNumber != 9999 {
		t.Error(impl.MaxAtom, impl.MaxNumber)
	}
}

func TestFormatInt(t *testing.T) {
	cases := []struct {
		n    int
		want string
	}{
		{0, "0"},
		{1, "1"},
		{9, "9"},
		{10, "10"},
		{-1, "-1"},
		{-50, "-50"},
		{9999, "9999"},
		{10000, "10000"},
		{1234567890, "1234567890"},
		{math.MaxInt64, "9223372036854775807"},
		{math.MinInt64, "-9223372036854775808"},
	}
	for _, c := range cases {
		if got := impl.FormatInt(c.n); got != c.want {
			t.Errorf("FormatInt(%d) = %q", c.n, got)
		}
	}
}

func TestParseIntReadsEveryNumber(t *testing.T) {
	for n := range 10000 {
		s := strconv.Itoa(n)
		if got, ok := impl.ParseInt(s); !ok || got != n {
			t.Errorf("ParseInt(%q) = %d, %v", s, got, ok)
		}
		if !impl.IsNumber(s) || impl.FormatInt(n) != s {
			t.Errorf("%q is no number", s)
		}
	}
}

func TestParseIntRefusesOtherTexts(t *testing.T) {
	texts := []string{
		"00", "000", "007", "01", "09999", "10000", "10001", "99999", "12345678", "123456789",
		"9223372036854775808", "18446744073709551616", "18446744073709551617", "36893488147419103233",
		"", "-", "+", "-1", "-0", "+1", "+0", " 1", "1 ", "1\n", "1_0", "1.0", "1e3", "0x1", "0b1", "0o7",
		"a", "A", "1a", "a1", "?1", "\u0665", "1\u0665", "\x00", "1\x00", "\xff", "1\xff", "/", ":", "1/", "1:",
	}
	for _, s := range texts {
		if n, ok := impl.ParseInt(s); ok || n != 0 {
			t.Errorf("ParseInt(%q) = %d, %v", s, n, ok)
		}
	}
}

// Texts in the order of CompareAtoms: numbers by value, then all others byte by byte.
var textsInOrder = []string{
	"0", "1", "2", "9", "10", "11", "99", "100", "999", "1000", "9998", "9999",
	"", "\x00", " 1", "+1", "-1", "00", "007", "01", "0a", "1 ", "10000", "1a", "2a", "99999999", "9a",
	"?", "?1", "?x", "A", "B", "a", "a1", "aa", "ab", "abcdefgh", "abcdefghi", "b", "z", "\u00e9", "\xff",
}

func TestCompareAtomsHasOneOrder(t *testing.T) {
	checkOneOrder(t, "CompareAtoms", textsInOrder, impl.CompareAtoms)
}

// checkOneOrder compares each two elements of a list that is in ascending order.
func checkOneOrder[T any](t *testing.T, name string, l []T, compare func(T, T) int) {
	t.Helper()
	for i, a := range l {
		for j, b := range l {
			if got, want := compare(a, b), cmp.Compare(i, j); got != want {
				t.Errorf("%s(%#v, %#v) = %d, not %d", name, a, b, got, want)
			}
		}
	}
}

func TestCompareAtomsOrdersNumbersByValue(t *testing.T) {
	for n := range 9999 {
		a, b := strconv.Itoa(n), strconv.Itoa(n+1)
		if impl.CompareAtoms(a, b) != -1 || impl.CompareAtoms(b, a) != 1 || impl.CompareAtoms(a, a) != 0 {
			t.Error(a, b)
		}
	}
}

var divisions = []struct {
	text  string
	sep   string
	parts []string
}{
	{"a,b,c", ",", []string{"a", "b", "c"}},
	{"a", ",", []string{"a"}},
	{"", ",", []string{""}},
	{",", ",", []string{"", ""}},
	{",a", ",", []string{"", "a"}},
	{"a,", ",", []string{"a", ""}},
	{",a,", ",", []string{"", "a", ""}},
	{",,", ",", []string{"", "", ""}},
	{"a,,b", ",", []string{"a", "", "b"}},
	{"a, b, ", ", ", []string{"a", "b", ""}},
	{", a", ", ", []string{"", "a"}},
	{"a,b", ", ", []string{"a,b"}},
	{"ab", "abc", []string{"ab"}},
	{"abc", "abc", []string{"", ""}},
	{"p(a) & q(b) & r()", " & ", []string{"p(a)", "q(b)", "r()"}},
	{"aaa", "aa", []string{"", "a"}},
	{"aaaa", "aa", []string{"", "", ""}},
	{"aaaaa", "aa", []string{"", "", "a"}},
	{"ababa", "aba", []string{"", "ba"}},
	{"xabababy", "abab", []string{"x", "aby"}},
	{"a\nb\n", "\n", []string{"a", "b", ""}},
	{"a\x00b", "\x00", []string{"a", "b"}},
	{"\xff\xfe\xff", "\xfe", []string{"\xff", "\xff"}},
	{"a\u00e9b", "\xc3", []string{"a", "\xa9b"}},
	{"a\u00e9b\u00e9", "\u00e9", []string{"a", "b", ""}},
	{"ab", "", []string{"ab"}},
	{"a\u00e9\xff", "", []string{"a\u00e9\xff"}},
	{"", "", []string{""}},
}

func TestSplit(t *testing.T) {
	for _, c := range divisions {
		if got := impl.Split(c.text, c.sep); !slices.Equal(got, c.parts) {
			t.Errorf("Split(%q, %q) = %q", c.text, c.sep, got)
		}
	}
}

func TestJoinUndoesSplit(t *testing.T) {
	for _, c := range divisions {
		if got := impl.Join(c.parts, c.sep); got != c.text {
			t.Errorf("Join(%q, %q) = %q", c.parts, c.sep, got)
		}
	}
}

func TestJoin(t *testing.T) {
	cases := []struct {
		l    []string
		sep  string
		want string
	}{
		{nil, ",", ""},
		{[]string{}, ",", ""},
		{[]string{""}, ",", ""},
		{[]string{"a"}, ",", "a"},
		{[]string{"", ""}, ",", ","},
		{[]string{"", "a", ""}, ", ", ", a, "},
		{[]string{"a", "b", "c"}, "", "abc"},
		{[]string{"a", "b", "c"}, " & ", "a & b & c"},
		{[]string{"a-b", "-"}, "-", "a-b--"},
		{[]string{"\xff", "\x00"}, "\u00e9", "\xff\u00e9\x00"},
	}
	for _, c := range cases {
		if got := impl.Join(c.l, c.sep); got != c.want {
			t.Errorf("Join(%q, %q) = %q", c.l, c.sep, got)
		}
	}
}

func TestSortedTexts(t *testing.T) {
	cases := []struct {
		l    []string
		want []string
	}{
		{nil, nil},
		{[]string{}, nil},
		{[]string{"a"}, []string{"a"}},
		{[]string{"b", "a", "b"}, []string{"a", "b"}},
		{[]string{"a", "a", "a"}, []string{"a"}},
		{[]string{"c", "b", "a"}, []string{"a", "b", "c"}},
		{[]string{"b", "", "a", ""}, []string{"", "a", "b"}},
		{[]string{"9", "10", "a", "007"}, []string{"007", "10", "9", "a"}},
		{[]string{"abc", "ab", "b", "a"}, []string{"a", "ab", "abc", "b"}},
		{[]string{"a", "?x", "A", "\xff", "\u00e9", "\x00"}, []string{"\x00", "?x", "A", "a", "\u00e9", "\xff"}},
	}
	for _, c := range cases {
		if got := impl.SortedTexts(c.l); !slices.Equal(got, c.want) {
			t.Errorf("SortedTexts(%q) = %q", c.l, got)
		}
	}
}

func TestListsOfTextsStayAsTheyAre(t *testing.T) {
	whole := []string{"c", "b", "c", "a", "spare", "room"}
	before := slices.Clone(whole)
	l := whole[:4]
	sorted := impl.SortedTexts(l)
	impl.Join(l, ",")
	if !slices.Equal(whole, before) {
		t.Error(whole)
	}
	sorted[0] = "changed"
	_ = append(sorted, "behind")
	if !slices.Equal(whole, before) || !slices.Equal(impl.SortedTexts(l), []string{"a", "b", "c"}) {
		t.Error(whole)
	}
}

func TestSortedTextsGivesNewMemory(t *testing.T) {
	l := []string{"a", "b"}
	sorted := impl.SortedTexts(l)
	sorted[0], sorted[1] = "y", "z"
	if l[0] != "a" || l[1] != "b" {
		t.Error(l)
	}
}
