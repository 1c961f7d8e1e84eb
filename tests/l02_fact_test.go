package tests

import (
	"math/rand"
	"reflect"
	"regexp"
	"slices"
	"strconv"
	"strings"
	"testing"

	"loop.example/g03015/impl"
)

func fact(rel string, args ...string) impl.Fact {
	return impl.Fact{Rel: rel, Args: args}
}

// wholeFacts is a deep copy of a list and its Args up to their capacities.
func wholeFacts(l []impl.Fact) []impl.Fact {
	whole := l[:cap(l)]
	clone := make([]impl.Fact, len(whole))
	for i, f := range whole {
		clone[i] = fact(f.Rel, append([]string(nil), f.Args[:cap(f.Args)]...)...)
	}
	return clone
}

// equalFacts compares without the functions under test; nil and empty lists are equal.
func equalFacts(a []impl.Fact, b []impl.Fact) bool {
	return slices.EqualFunc(a, b, func(x impl.Fact, y impl.Fact) bool {
		return x.Rel == y.Rel && slices.Equal(x.Args, y.Args)
	})
}

// factsOf reads a list of facts from a text that the test has written, without the functions under test.
func factsOf(texts ...string) []impl.Fact {
	l := []impl.Fact{}
	for _, text := range texts {
		rel, inner, _ := strings.Cut(strings.TrimSuffix(text, ")"), "(")
		f := fact(rel)
		if inner != "" {
			f.Args = strings.Split(inner, ",")
		}
		l = append(l, f)
	}
	return l
}

// numbered returns the facts n(0), n(1) and so on, which are in order.
func numbered(count int) []impl.Fact {
	l := []impl.Fact{}
	for i := range count {
		l = append(l, fact("n", strconv.Itoa(i)))
	}
	return l
}

func TestLimitsOfFacts(t *testing.T) {
	if impl.MaxArgs != 3 || impl.MaxFacts != 24 {
		t.Error(impl.MaxArgs, impl.MaxFacts)
	}
}

var validFacts = []struct {
	fact impl.Fact
	text string
}{
	{fact("z"), "z()"},
	{impl.Fact{Rel: "z", Args: nil}, "z()"},
	{impl.Fact{Rel: "z", Args: []string{}}, "z()"},
	{fact("on", "a"), "on(a)"},
	{fact("on", "a", "1"), "on(a,1)"},
	{fact("on", "a", "b", "c"), "on(a,b,c)"},
	{fact("on", "a", "a", "a"), "on(a,a,a)"},
	{fact("a", "a"), "a(a)"},
	{fact("p", "0", "9999", "10000"), "p(0,9999,10000)"},
	{fact("p", "007"), "p(007)"},
	{fact("p", "99999999"), "p(99999999)"},
	{fact("p", "1a"), "p(1a)"},
	{fact("x1", "x1"), "x1(x1)"},
	{fact("not"), "not()"},
	{fact("abcdefgh", "abcdefgh", "12345678", "z9999999"), "abcdefgh(abcdefgh,12345678,z9999999)"},
}

func TestValidFactsAreWrittenAndRead(t *testing.T) {
	for _, c := range validFacts {
		if !impl.IsFact(c.fact) {
			t.Errorf("IsFact(%q) = false", c.fact)
		}
		if got := impl.FormatFact(c.fact); got != c.text {
			t.Errorf("FormatFact(%q) = %q", c.fact, got)
		}
		got, ok := impl.ParseFact(c.text)
		if !ok || !equalFacts([]impl.Fact{got}, []impl.Fact{c.fact}) {
			t.Errorf("ParseFact(%q) = %q, %v", c.text, got, ok)
		}
	}
}

// No names and no atoms; every one of them makes a fact invalid.
var (
	noNames = []string{"", "0", "7", "007", "1a", "On", "oN", "ABC", "?x", "?", "abcdefghi", "a b", " a", "a ", "a-b", "a_b", "-", "a(", "a)", "a()", "(", ")", "a,b", "\u00e9", "a\u00e9", "\xff", "\x00", "a\n"}
	noAtoms = []string{"", "A", "aB", "?x", "?1", "?", "abcdefghi", "123456789", "-1", "+1", "1.5", "a b", " a", "a ", "a,b", ",", "a)", "(a", "()", "a()", "\u00e9", "\u0665", "\xff", "\x00", "a\n"}
)

// badTuples returns facts that have a wrong Rel, a wrong element in each place of Args, or too many Args.
func badTuples(noArgs []string) []impl.Fact {
	l := []impl.Fact{
		{},
		fact("p", "a", "b", "c", "d"),
		fact("p", "a", "a", "a", "a"),
		fact("p", "a", "b", "c", ""),
		fact("p", make([]string, 100)...),
	}
	for _, rel := range noNames {
		l = append(l, fact(rel), fact(rel, "a"), fact(rel, "a", "b", "c"))
	}
	for _, arg := range noArgs {
		l = append(l, fact("p", arg), fact("p", arg, "a"), fact("p", "a", arg))
		l = append(l, fact("p", arg, "a", "b"), fact("p", "a", arg, "b"), fact("p", "a", "b", arg))
	}
	return l
}

func TestInvalidFacts(t *testing.T) {
	for _, f := range badTuples(noAtoms) {
		checkInvalid(t, f)
	}
}

func checkInvalid(t *testing.T, f impl.Fact) {
	t.Helper()
	if impl.IsFact(f) {
		t.Errorf("IsFact(%q) = true", f)
	}
	if got := impl.FormatFact(f); got != "" {
		t.Errorf("FormatFact(%q) = %q", f, got)
	}
	if impl.AreFacts([]impl.Fact{f}) {
		t.Errorf("AreFacts of %q alone", f)
	}
	if got := impl.FormatFacts([]impl.Fact{f}); got != "" {
		t.Errorf("FormatFacts of %q alone = %q", f, got)
	}
	if l, ok := impl.AddFact(nil, f); ok || len(l) != 0 {
		t.Errorf("AddFact of %q = %q, %v", f, l, ok)
	}
}

var noFactTexts = []string{
	"", "-", "on", "on(", "on)", "on(a", "ona)", "(a)", "()", "(", ")", ")(", "on)a(", "on((", "on))",
	"on(a,)", "on(,a)", "on(,)", "on(a,,b)", "on(,)", "on(A)", "On(a)", "1(a)", "1()", "?x(a)", "on(?x)",
	"on(a,b,c,a)", "on(a,b,c,)", "on(a,b,c,d,e)", "on(a)b", "on(a) ", " on(a)", "on (a)", "on( a)", "on(a )",
	"on(a, b)", "on(a ,b)", "on( )", "on(a b)", "on()()", "on(a)(b)", "on((a))", "on(a))", "on(a)\n", "on[a]",
	"on(a;b)", "on(p(a))", "on(a) on(b)", "on() ", "abcdefghi()", "on(abcdefghi)", "on(-1)", "on(1.5)",
	"on(\u00e9)", "\u00e9(a)", "on(\xff)", "on\x00(a)", "on(a)\x00", "not on(a)", "on(a,1", "on,a)", "on(a)-",
}

func TestParseFactRefusesOtherTexts(t *testing.T) {
	for _, s := range noFactTexts {
		checkNoFact(t, s)
	}
	checkNoFact(t, "on("+strings.Repeat("a,", 1000)+"a)")
	checkNoFact(t, strings.Repeat("(", 1000)+strings.Repeat(")", 1000))
}

func checkNoFact(t *testing.T, s string) {
	t.Helper()
	if f, ok := impl.ParseFact(s); ok || f.Rel != "" || len(f.Args) != 0 {
		t.Errorf("ParseFact(%q) = %q, %v", s, f, ok)
	}
}

// What chapter 2 says of the text of a fact, told a second time as a regular expression.
var factText = regexp.MustCompile(`\A[a-z][a-z0-9]{0,7}\(([a-z0-9]{1,8}(,[a-z0-9]{1,8}){0,2})?\)\z`)

func checkParseFact(t *testing.T, s string) {
	t.Helper()
	if !factText.MatchString(s) {
		checkNoFact(t, s)
		return
	}
	f, ok := impl.ParseFact(s)
	if !ok || impl.FormatFact(f) != s || !impl.IsFact(f) {
		t.Errorf("ParseFact(%q) = %q, %v", s, f, ok)
	}
}

// nearTexts calls do with every text that is one byte away from a text, by removal, insertion or replacement.
func nearTexts(text string, do func(string)) {
	for i := range len(text) + 1 {
		before, behind := text[:i], text[i:]
		for b := range 256 {
			do(before + string([]byte{byte(b)}) + behind)
		}
		if behind == "" {
			continue
		}
		do(before + behind[1:])
		for b := range 256 {
			do(before + string([]byte{byte(b)}) + behind[1:])
		}
	}
}

// shortTexts calls do with every text of at most n of the characters.
func shortTexts(characters string, n int, do func(string)) {
	texts := []string{""}
	do("")
	for range n {
		longer := []string{}
		for _, s := range texts {
			for _, c := range characters {
				longer = append(longer, s+string(c))
				do(s + string(c))
			}
		}
		texts = longer
	}
}

func TestParseFactOfTextsNearFacts(t *testing.T) {
	for _, c := range validFacts {
		nearTexts(c.text, func(s string) { checkParseFact(t, s) })
	}
}

func TestParseFactOfShortTexts(t *testing.T) {
	shortTexts("a1(,) ", 7, func(s string) { checkParseFact(t, s) })
}

// Facts in the order of CompareFacts, also those that are not valid.
var factsInOrder = []impl.Fact{
	fact(""), fact("", ""), fact("", "a"),
	fact("10"), fact("9"),
	fact("P"), fact("P", "a"),
	fact("a"), fact("a", "0"), fact("a", "0", "0"), fact("a", "0", "9"), fact("a", "1"), fact("a", "9"), fact("a", "9", "z"), fact("a", "10"), fact("a", "10", "a"),
	fact("a", "9999"), fact("a", ""), fact("a", "", ""), fact("a", "007"), fact("a", "10000"), fact("a", "?x"), fact("a", "A"), fact("a", "a"), fact("a", "a", "2"), fact("a", "a", "2", "z"),
	fact("a", "a", "10"), fact("a", "a", "10", "9"), fact("a", "a", "10", "10"), fact("a", "a", "10", "10", "0"), fact("a", "a", "b"), fact("a", "aa"), fact("a", "b"),
	fact("aa"), fact("ab"), fact("b"), fact("b", "0"), fact("on", "a"), fact("on", "a", "1"), fact("z"), fact("\xff"),
}

func TestCompareFactsHasOneOrder(t *testing.T) {
	checkOneOrder(t, "CompareFacts", factsInOrder, impl.CompareFacts)
}

func TestNilAndEmptyArgsAreEqual(t *testing.T) {
	a, b := impl.Fact{Rel: "z"}, impl.Fact{Rel: "z", Args: []string{}}
	if impl.CompareFacts(a, b) != 0 || impl.CompareFacts(b, a) != 0 {
		t.Error("CompareFacts")
	}
	if impl.FindFact([]impl.Fact{a}, b) != 0 || impl.FindFact([]impl.Fact{b}, a) != 0 {
		t.Error("FindFact")
	}
	if !impl.SameFacts([]impl.Fact{a, b}, []impl.Fact{b, a}) || impl.AreFacts([]impl.Fact{a, b}) {
		t.Error("SameFacts or AreFacts")
	}
	if l, ok := impl.AddFact([]impl.Fact{a}, b); ok || len(l) != 1 {
		t.Error("AddFact", l, ok)
	}
	if l, ok := impl.RemoveFact([]impl.Fact{a}, b); !ok || len(l) != 0 {
		t.Error("RemoveFact", l, ok)
	}
}

// Lists that are no fact sets.
func noFactSets() map[string][]impl.Fact {
	middle := numbered(24)
	middle[11], middle[12] = middle[12], middle[11]
	return map[string][]impl.Fact{
		"out of order":             factsOf("b()", "a()"),
		"out of order by Args":     factsOf("a(2)", "a(1)"),
		"ordered as texts only":    factsOf("a(10)", "a(9)"),
		"the longer one first":     factsOf("a(1,2)", "a(1)"),
		"out of order at the end":  factsOf("a()", "b()", "d()", "c()"),
		"out of order in between":  middle,
		"falling":                  factsOf("c()", "b()", "a()"),
		"twice":                    factsOf("a()", "a()"),
		"twice at the end":         factsOf("a()", "b(1)", "b(1)"),
		"twice, not side by side":  factsOf("a()", "b()", "a()"),
		"an invalid Rel":           {fact("")},
		"an invalid Rel in front":  {fact("A"), fact("a")},
		"an invalid Rel behind":    {fact("a"), fact("b c")},
		"an invalid Arg":           {fact("a"), fact("b", "?x"), fact("c")},
		"too many Args":            {fact("a", "1", "2", "3", "4")},
		"one fact too many":        numbered(25),
		"many facts too many":      numbered(100),
		"too many, also unordered": append(numbered(24), fact("a")),
	}
}

func factSets() [][]impl.Fact {
	return [][]impl.Fact{
		nil,
		{},
		factsOf("z()"),
		factsOf("a()", "b()"),
		factsOf("a()", "a(1)", "a(1,2)", "a(1,2,3)"),
		factsOf("a(9)", "a(10)", "a(007)", "a(a)", "aa()"),
		factsOf("on(a)", "on(a,1)", "on(b)", "p(a)", "z()"),
		numbered(1),
		numbered(23),
		numbered(24),
	}
}

func TestAreFacts(t *testing.T) {
	for _, l := range factSets() {
		if !impl.AreFacts(l) {
			t.Errorf("AreFacts(%q) = false", l)
		}
	}
	for name, l := range noFactSets() {
		if impl.AreFacts(l) {
			t.Errorf("%s: AreFacts(%q) = true", name, l)
		}
	}
}

func TestFindFact(t *testing.T) {
	l := []impl.Fact{fact("b", "1"), fact("a"), fact("?"), fact("b", "1"), fact("b"), fact("a", "1", "2"), fact("b", "1", "2", "3", "4"), fact("B", "")}
	cases := []struct {
		f    impl.Fact
		want int
	}{
		{fact("b", "1"), 0},
		{fact("a"), 1},
		{fact("?"), 2},
		{fact("b"), 4},
		{fact("a", "1", "2"), 5},
		{fact("b", "1", "2", "3", "4"), 6},
		{fact("B", ""), 7},
		{fact("B"), -1},
		{fact("a", "1"), -1},
		{fact("a", "2", "1"), -1},
		{fact("a", "1", "2", "3"), -1},
		{fact("b", "2"), -1},
		{fact("b", "01"), -1},
		{fact("c"), -1},
		{fact(""), -1},
	}
	for _, c := range cases {
		if got := impl.FindFact(l, c.f); got != c.want {
			t.Errorf("FindFact of %q = %d, not %d", c.f, got, c.want)
		}
	}
	if impl.FindFact(nil, fact("a")) != -1 || impl.FindFact([]impl.Fact{}, impl.Fact{}) != -1 {
		t.Error("found in an empty list")
	}
	if impl.FindFact([]impl.Fact{{}}, impl.Fact{}) != 0 || impl.FindFact(numbered(100), fact("n", "99")) != 99 {
		t.Error("not found")
	}
}

// permute calls do with the facts in each order.
func permute(l []impl.Fact, k int, do func([]impl.Fact)) {
	if k == len(l) {
		do(l)
		return
	}
	for i := k; i < len(l); i++ {
		l[k], l[i] = l[i], l[k]
		permute(l, k+1, do)
		l[k], l[i] = l[i], l[k]
	}
}

func TestAddFactKeepsOneOrder(t *testing.T) {
	want := factsOf("a()", "a(9)", "a(10)", "a(10,a)", "aa(1)", "b()")
	permute(slices.Clone(want), 0, func(order []impl.Fact) {
		l := []impl.Fact{}
		for i, f := range order {
			more, ok := impl.AddFact(l, f)
			if !ok || len(more) != i+1 || !impl.AreFacts(more) || impl.FindFact(more, f) < 0 {
				t.Fatalf("AddFact(%q, %q) = %q, %v", l, f, more, ok)
			}
			l = more
		}
		if !equalFacts(l, want) {
			t.Fatalf("%q added: %q", order, l)
		}
	})
}

func TestAddFactRefusesWhatIsThere(t *testing.T) {
	for _, l := range factSets() {
		for _, f := range l {
			if got, ok := impl.AddFact(l, f); ok || !equalFacts(got, l) {
				t.Errorf("AddFact(%q, %q) = %q, %v", l, f, got, ok)
			}
		}
	}
}

func TestAddFactUpToMaxFacts(t *testing.T) {
	l := numbered(23)
	full, ok := impl.AddFact(l, fact("a"))
	if !ok || !equalFacts(full, append([]impl.Fact{fact("a")}, l...)) {
		t.Error(full, ok)
	}
	for _, f := range factsOf("a(1)", "n(5,5)", "z()") {
		if got, ok := impl.AddFact(full, f); ok || !equalFacts(got, full) {
			t.Errorf("one too many: %q, %v", got, ok)
		}
	}
}

func TestAddFactRefusesInvalidFacts(t *testing.T) {
	l := factsOf("a()", "b(1)")
	for _, f := range []impl.Fact{{}, fact("B"), fact("1"), fact("c", "?x"), fact("c", ""), fact("c", "1", "2", "3", "4")} {
		if got, ok := impl.AddFact(l, f); ok || !equalFacts(got, l) {
			t.Errorf("AddFact of %q = %q, %v", f, got, ok)
		}
	}
}

func TestNoFactSetStaysAsItIs(t *testing.T) {
	for name, l := range noFactSets() {
		for _, f := range append(factsOf("a()", "m(5)", "zz()"), l...) {
			if got, ok := impl.AddFact(l, f); ok || !equalFacts(got, l) {
				t.Errorf("%s: AddFact(%q, %q) = %q, %v", name, l, f, got, ok)
			}
			if got, ok := impl.RemoveFact(l, f); ok || !equalFacts(got, l) {
				t.Errorf("%s: RemoveFact(%q, %q) = %q, %v", name, l, f, got, ok)
			}
		}
	}
}

func TestRemoveFactUndoesAddFact(t *testing.T) {
	for _, l := range factSets() {
		for i, f := range l {
			less, ok := impl.RemoveFact(l, f)
			if !ok || !equalFacts(less, slices.Concat(l[:i], l[i+1:])) || !impl.AreFacts(less) {
				t.Errorf("RemoveFact(%q, %q) = %q, %v", l, f, less, ok)
			}
			again, ok := impl.AddFact(less, f)
			if !ok || !equalFacts(again, l) {
				t.Errorf("AddFact(%q, %q) = %q, %v", less, f, again, ok)
			}
		}
	}
}

func TestRemoveFactRefusesWhatIsNotThere(t *testing.T) {
	for _, l := range factSets() {
		for _, f := range []impl.Fact{fact("zz"), fact("n", "24"), fact("on"), fact("on", "a", "1", "1"), fact("a", "1", "3"), fact("a", "7"), {}, fact("A"), fact("n", "?x")} {
			if got, ok := impl.RemoveFact(l, f); ok || !equalFacts(got, l) {
				t.Errorf("RemoveFact(%q, %q) = %q, %v", l, f, got, ok)
			}
		}
	}
}

// A long history of facts that come and go, beside a map that says which are there.
func TestFactSetFollowsItsHistory(t *testing.T) {
	random := rand.New(rand.NewSource(2))
	args := []string{"0", "2", "10", "007", "a"}
	there := map[string]bool{}
	var l []impl.Fact
	for range 20000 {
		f := fact([]string{"p", "pp"}[random.Intn(2)])
		for range random.Intn(4) {
			f.Args = append(f.Args, args[random.Intn(len(args))])
		}
		text := f.Rel + "(" + strings.Join(f.Args, ",") + ")"
		was := there[text]
		var ok, want bool
		if random.Intn(5) < 3 {
			want = !was && len(there) < 24
			l, ok = impl.AddFact(l, f)
			if want {
				there[text] = true
			}
		} else {
			want = was
			l, ok = impl.RemoveFact(l, f)
			delete(there, text)
		}
		if ok != want || len(l) != len(there) || !impl.AreFacts(l) || (impl.FindFact(l, f) >= 0) != there[text] {
			t.Fatalf("%s: %v, %q", text, ok, l)
		}
		for _, g := range l {
			if !there[impl.FormatFact(g)] {
				t.Fatalf("%q is there", g)
			}
		}
		if read, ok := impl.ParseFacts(impl.FormatFacts(l)); !ok || !impl.SameFacts(read, l) {
			t.Fatalf("%q is read as %q", l, read)
		}
	}
}

func TestSameFacts(t *testing.T) {
	lists := [][]impl.Fact{
		{},
		factsOf("a()"),
		factsOf("a()", "a()"),
		factsOf("a(1)"),
		factsOf("a(1,2)"),
		factsOf("a(2,1)"),
		factsOf("b()"),
		factsOf("a()", "b()"),
		factsOf("b()", "a()"),
		factsOf("a()", "b()", "c()"),
		{fact("?", "A", "")},
		{fact("?", "A")},
		numbered(24),
		numbered(25),
	}
	for i, a := range lists {
		for j, b := range lists {
			if got := impl.SameFacts(a, wholeFacts(b)[:len(b)]); got != (i == j) {
				t.Errorf("SameFacts(%q, %q) = %v", a, b, got)
			}
		}
	}
	if !impl.SameFacts(nil, []impl.Fact{}) || !impl.SameFacts([]impl.Fact{}, nil) || !impl.SameFacts(nil, nil) {
		t.Error("nil and empty lists differ")
	}
}

func TestFactsWith(t *testing.T) {
	l := []impl.Fact{fact("b", "2"), fact("a"), fact("b", "1"), fact("bb"), fact("b", "2"), fact("B"), fact("", "x"), fact("b", "?", "", "", "")}
	cases := []struct {
		rel  string
		want []impl.Fact
	}{
		{"b", []impl.Fact{l[0], l[2], l[4], l[7]}},
		{"a", []impl.Fact{l[1]}},
		{"bb", []impl.Fact{l[3]}},
		{"B", []impl.Fact{l[5]}},
		{"", []impl.Fact{l[6]}},
		{"c", nil},
		{"b(", nil},
		{"?b", nil},
	}
	for _, c := range cases {
		if got := impl.FactsWith(l, c.rel); !equalFacts(got, c.want) {
			t.Errorf("FactsWith %q = %q", c.rel, got)
		}
	}
	if got := impl.FactsWith(nil, "a"); len(got) != 0 {
		t.Error(got)
	}
	if got := impl.FactsWith(numbered(100), "n"); !equalFacts(got, numbered(100)) {
		t.Error(got)
	}
}

func TestFactsAreWrittenAndRead(t *testing.T) {
	cases := []struct {
		l    []impl.Fact
		text string
	}{
		{nil, "-"},
		{[]impl.Fact{}, "-"},
		{factsOf("z()"), "z()"},
		{factsOf("on(a)", "on(a,1)"), "on(a) on(a,1)"},
		{factsOf("on(a,1)", "on(a)"), "on(a,1) on(a)"},
		{factsOf("b()", "a()", "b()"), "b() a() b()"},
		{factsOf("a(1,2,3)", "a(1,2,3)"), "a(1,2,3) a(1,2,3)"},
	}
	long := numbered(100)
	texts := []string{}
	for i := range long {
		texts = append(texts, "n("+strconv.Itoa(i)+")")
	}
	cases = append(cases, struct {
		l    []impl.Fact
		text string
	}{long, strings.Join(texts, " ")})
	for _, c := range cases {
		if got := impl.FormatFacts(c.l); got != c.text {
			t.Errorf("FormatFacts(%q) = %q", c.l, got)
		}
		if got, ok := impl.ParseFacts(c.text); !ok || !equalFacts(got, c.l) {
			t.Errorf("ParseFacts(%q) = %q, %v", c.text, got, ok)
		}
	}
}

func TestFormatFactsOfInvalidFacts(t *testing.T) {
	for _, bad := range []impl.Fact{{}, fact("A"), fact("a", "?x"), fact("a", ""), fact("a", "1", "2", "3", "4")} {
		for i := range 4 {
			l := slices.Insert(factsOf("a()", "b()", "c()"), i, bad)
			if got := impl.FormatFacts(l); got != "" {
				t.Errorf("FormatFacts(%q) = %q", l, got)
			}
		}
	}
}

func TestParseFactsRefusesOtherTexts(t *testing.T) {
	texts := []string{
		" ", "  ", "--", "- ", " -", "- -", "- a()", "a() -", "a()  b()", " a() b()", "a() b() ", "a() ", " a()",
		"a()b()", "a(),b()", "a(), b()", "a()\tb()", "a()\nb()", "a() b", "a b()", "a() B()", "a() b(c d)", "a(1, 2)",
		"a() b(1,2,3,4)", "1() a()", "a() b()\n", "a() b(?x)",
	}
	for _, s := range append(texts, noFactTexts...) {
		if s == "-" || s == "on(a) on(b)" {
			continue
		}
		if l, ok := impl.ParseFacts(s); ok || len(l) != 0 {
			t.Errorf("ParseFacts(%q) = %q, %v", s, l, ok)
		}
	}
}

// checkOwnMemory checks that no two lists of a result share memory, and that none shares any with the arguments.
func checkOwnMemory(t *testing.T, name string, result []impl.Fact, args ...[]impl.Fact) {
	t.Helper()
	before := [][]impl.Fact{}
	for _, l := range args {
		before = append(before, wholeFacts(l))
	}
	whole := result[:cap(result)]
	for i := range whole {
		own := whole[i].Args[:cap(whole[i].Args)]
		for j := range own {
			own[j] = "own " + strconv.Itoa(i)
		}
	}
	for i, f := range whole {
		for _, arg := range f.Args[:cap(f.Args)] {
			if arg != "own "+strconv.Itoa(i) {
				t.Errorf("%s: Args of the result share memory", name)
			}
		}
	}
	clear(whole)
	for i, l := range args {
		if !equalFacts(wholeFacts(l), before[i]) {
			t.Errorf("%s: the result shares memory with an argument", name)
		}
	}
}

// roomy returns a list with spare capacity, also in its Args, filled with other values.
func roomy() []impl.Fact {
	whole := factsOf("a()", "b(1)", "c(1,2)", "e(1,2,3)", "spare(s)", "room(r)")
	for i, f := range whole {
		whole[i].Args = append(slices.Clone(f.Args), "x", "y")[:len(f.Args)]
	}
	return whole[:4]
}

func TestListsOfFactsStayAsTheyAre(t *testing.T) {
	l, f := roomy(), fact("d", "7", "8", "9")
	before := wholeFacts(l)
	f.Args = f.Args[:1]
	other := l[2]
	calls := []struct {
		name   string
		result func() []impl.Fact
	}{
		{"AddFact", func() []impl.Fact { r, _ := impl.AddFact(l, f); return r }},
		{"AddFact, there", func() []impl.Fact { r, _ := impl.AddFact(l, other); return r }},
		{"AddFact, not valid", func() []impl.Fact { r, _ := impl.AddFact(l, impl.Fact{}); return r }},
		{"RemoveFact", func() []impl.Fact { r, _ := impl.RemoveFact(l, other); return r }},
		{"RemoveFact, not there", func() []impl.Fact { r, _ := impl.RemoveFact(l, f); return r }},
		{"FactsWith", func() []impl.Fact { return impl.FactsWith(l, "c") }},
		{"others", func() []impl.Fact {
			impl.FormatFacts(l)
			impl.AreFacts(l)
			impl.FindFact(l, f)
			impl.SameFacts(l, l)
			impl.CompareFacts(l[0], l[1])
			return nil
		}},
	}
	for _, c := range calls {
		result := c.result()
		if !reflect.DeepEqual(wholeFacts(l), before) || f.Args[0] != "7" || f.Args[:3][1] != "8" {
			t.Fatalf("%s changes its arguments: %q, %q", c.name, l, f)
		}
		checkOwnMemory(t, c.name, result, l, []impl.Fact{f, other})
	}
}

func TestRefusedListsAreCopies(t *testing.T) {
	for name, l := range noFactSets() {
		f := l[len(l)-1]
		added, _ := impl.AddFact(l, f)
		checkOwnMemory(t, "AddFact, "+name, added, l)
		removed, _ := impl.RemoveFact(l, f)
		checkOwnMemory(t, "RemoveFact, "+name, removed, l)
	}
	full := numbered(24)
	added, _ := impl.AddFact(full, fact("z", "1"))
	checkOwnMemory(t, "AddFact, full", added, full)
}

func TestReadFactsHaveTheirOwnMemory(t *testing.T) {
	text := "a(1,2) a(1,2) b(3) z()"
	first, _ := impl.ParseFacts(text)
	second, _ := impl.ParseFacts(text)
	checkOwnMemory(t, "ParseFacts", first, second)
	f, _ := impl.ParseFact("a(1,2)")
	g, _ := impl.ParseFact("a(1,2)")
	checkOwnMemory(t, "ParseFact", []impl.Fact{f}, []impl.Fact{g})
}
