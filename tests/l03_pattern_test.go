package tests

import (
	"math/rand"
	"reflect"
	"regexp"
	"slices"
	"strings"
	"testing"

	"loop.example/g03015/impl"
)

func pattern(rel string, args ...string) impl.Pattern {
	return impl.Pattern{Rel: rel, Args: args}
}

// patternOf reads a pattern that the test has written, without the functions under test.
func patternOf(text string) impl.Pattern {
	return impl.Pattern(factsOf(text)[0])
}

// pairsOf reads pairs that the test has written (`-` for none), without the functions under test.
func pairsOf(text string) []impl.Pair {
	b := []impl.Pair{}
	if text == "-" {
		return b
	}
	for _, part := range strings.Split(text, " ") {
		v, value, _ := strings.Cut(part, "=")
		b = append(b, impl.Pair{Var: v, Value: value})
	}
	return b
}

// What chapter 3 says of a pattern and of a pair, told a second time as regular expressions.
var (
	patternText = regexp.MustCompile(`\A[a-z][a-z0-9]{0,7}\((\??[a-z0-9]{1,8}(,\??[a-z0-9]{1,8}){0,2})?\)\z`)
	varText     = regexp.MustCompile(`\A\?[a-z0-9]{1,8}\z`)
	atomText    = regexp.MustCompile(`\A[a-z0-9]{1,8}\z`)
)

func isBinding(b []impl.Pair) bool {
	for i, pair := range b {
		if !varText.MatchString(pair.Var) || !atomText.MatchString(pair.Value) || i > 0 && b[i-1].Var >= pair.Var {
			return false
		}
	}
	return len(b) <= 6
}

func TestLimitOfVars(t *testing.T) {
	if impl.MaxVars != 6 {
		t.Error(impl.MaxVars)
	}
}

var validPatterns = []struct {
	pattern impl.Pattern
	text    string
	vars    []string
}{
	{pattern("z"), "z()", nil},
	{impl.Pattern{Rel: "z", Args: []string{}}, "z()", nil},
	{pattern("on", "a"), "on(a)", nil},
	{pattern("on", "a", "1", "007"), "on(a,1,007)", nil},
	{pattern("on", "?x"), "on(?x)", []string{"?x"}},
	{pattern("on", "?x", "1"), "on(?x,1)", []string{"?x"}},
	{pattern("on", "1", "?x"), "on(1,?x)", []string{"?x"}},
	{pattern("on", "?x", "?x"), "on(?x,?x)", []string{"?x"}},
	{pattern("on", "?x", "a", "?x"), "on(?x,a,?x)", []string{"?x"}},
	{pattern("on", "?y", "?x", "?y"), "on(?y,?x,?y)", []string{"?x", "?y"}},
	{pattern("on", "?z", "?y", "?x"), "on(?z,?y,?x)", []string{"?x", "?y", "?z"}},
	{pattern("on", "?9", "?10", "?a"), "on(?9,?10,?a)", []string{"?10", "?9", "?a"}},
	{pattern("on", "?x1", "?x", "?007"), "on(?x1,?x,?007)", []string{"?007", "?x", "?x1"}},
	{pattern("x", "x", "?x"), "x(x,?x)", []string{"?x"}},
	{pattern("abcdefgh", "?abcdefgh", "abcdefgh", "?12345678"), "abcdefgh(?abcdefgh,abcdefgh,?12345678)", []string{"?12345678", "?abcdefgh"}},
}

func TestValidPatternsAreWrittenAndRead(t *testing.T) {
	for _, c := range validPatterns {
		if !impl.IsPattern(c.pattern) {
			t.Errorf("IsPattern(%q) = false", c.pattern)
		}
		if got := impl.FormatPattern(c.pattern); got != c.text {
			t.Errorf("FormatPattern(%q) = %q", c.pattern, got)
		}
		got, ok := impl.ParsePattern(c.text)
		if !ok || got.Rel != c.pattern.Rel || !slices.Equal(got.Args, c.pattern.Args) {
			t.Errorf("ParsePattern(%q) = %q, %v", c.text, got, ok)
		}
		if got := impl.VarsOf(c.pattern); !slices.Equal(got, c.vars) {
			t.Errorf("VarsOf(%q) = %q", c.pattern, got)
		}
	}
}

// Texts that are neither variables nor atoms.
var noTerms = append(slices.DeleteFunc(slices.Clone(noAtoms), varText.MatchString),
	"??", "??x", "x?", "?x?", "?X", "?xY", "?abcdefghi", "?123456789", "? x", "?x ", " ?x", "?-1", "?x,?y", "?x)", "?\u00e9", "?\xff", "?x\n", "?\x00")

func TestInvalidPatterns(t *testing.T) {
	for _, f := range append(badTuples(noTerms), fact("p", "?a", "?b", "?c", "?d"), fact("p", "?x", "?x", "?x", "?x"), fact("?x"), fact("?x", "?x")) {
		p := impl.Pattern(f)
		if impl.IsPattern(p) {
			t.Errorf("IsPattern(%q) = true", p)
		}
		if got := impl.FormatPattern(p); got != "" {
			t.Errorf("FormatPattern(%q) = %q", p, got)
		}
		if b, ok := impl.MatchFact(p, f, nil); ok || len(b) != 0 {
			t.Errorf("MatchFact(%q, %q) = %q, %v", p, f, b, ok)
		}
		if got, ok := impl.Instance(p, nil); ok || got.Rel != "" || len(got.Args) != 0 {
			t.Errorf("Instance(%q) = %q, %v", p, got, ok)
		}
		if impl.CoversPattern(p, p) {
			t.Errorf("CoversPattern(%q, %q) = true", p, p)
		}
		if !impl.SamePattern(p, impl.Pattern(fact(f.Rel, slices.Clone(f.Args)...))) {
			t.Errorf("SamePattern(%q, %q) = false", p, p)
		}
	}
}

func checkParsePattern(t *testing.T, s string) {
	t.Helper()
	p, ok := impl.ParsePattern(s)
	if !patternText.MatchString(s) {
		if ok || p.Rel != "" || len(p.Args) != 0 {
			t.Errorf("ParsePattern(%q) = %q, %v", s, p, ok)
		}
		return
	}
	if !ok || impl.FormatPattern(p) != s || !impl.IsPattern(p) {
		t.Errorf("ParsePattern(%q) = %q, %v", s, p, ok)
	}
}

func TestParsePatternOfOtherTexts(t *testing.T) {
	texts := []string{
		"on(?x,?y", "on ?x", "on(?x, ?y)", "on(?x ,?y)", "on( ?x)", "on(?x )", " on(?x)", "on(?x) ", "on (?x)", "on(? x)",
		"on?x", "on(?x)(?y)", "?on(x)", "?x()", "on(?)", "on(??x)", "on(?x?)", "on(x?)", "on(?x,)", "on(,?x)", "on(?x,,?y)",
		"on(?a,?b,?c,?d)", "on(?X)", "on(?abcdefghi)", "on(?x)?", "not on(?x)", "on(?x)\n", "on(?x=a)", "on(?x) on(?y)", "on(?-1)",
	}
	for _, s := range append(texts, noFactTexts...) {
		checkParsePattern(t, s)
	}
	checkParsePattern(t, "on("+strings.Repeat("?x,", 1000)+"?x)")
}

func TestParsePatternOfTextsNearPatterns(t *testing.T) {
	for _, c := range validPatterns {
		nearTexts(c.text, func(s string) { checkParsePattern(t, s) })
	}
}

func TestParsePatternOfShortTexts(t *testing.T) {
	shortTexts("a1?(,) ", 6, func(s string) { checkParsePattern(t, s) })
}

func TestVarsOfAnyPattern(t *testing.T) {
	cases := []struct {
		p    impl.Pattern
		want []string
	}{
		{impl.Pattern{}, nil},
		{pattern("?x"), nil},
		{pattern("?x", "?y"), []string{"?y"}},
		{pattern("", "?y", "?x"), []string{"?x", "?y"}},
		{pattern("No", "?", "??x", "?X", "x?", "", " ?x", "?x ", "?abcdefghi", "a"), nil},
		{pattern("p", "", "?b", "A", "?a", "?b"), []string{"?a", "?b"}},
		{pattern("p", "?8", "?7", "?6", "?5", "?4", "?3", "?2", "?1", "?8"), []string{"?1", "?2", "?3", "?4", "?5", "?6", "?7", "?8"}},
	}
	for _, c := range cases {
		if got := impl.VarsOf(c.p); !slices.Equal(got, c.want) {
			t.Errorf("VarsOf(%q) = %q", c.p, got)
		}
	}
}

var bindingTexts = []string{
	"-", "?x=a", "?x=1", "?1=007", "?x=x", "?abcdefgh=12345678",
	"?x=a ?y=a", "?x=b ?y=1", "?10=a ?9=b", "?x=a ?x1=b", "?007=a ?7=b ?a=c",
	"?a=1 ?b=2 ?c=3 ?d=4 ?e=5", "?1=a ?2=a ?3=a ?4=a ?5=a ?6=a", "?u=1 ?v=2 ?w=3 ?x=4 ?y=5 ?z=6",
}

// Lists of pairs that are no bindings.
var noBindingTexts = []string{
	"?y=a ?x=b", "?9=a ?10=b", "?x1=a ?x=b", "?x=a ?x=a", "?x=a ?x=b", "?x=a ?y=b ?x=a", "?a=1 ?b=2 ?d=3 ?c=4", "?a=1 ?b=2 ?b=2",
	"x=a", "X=a", "=a", "?=a", "?X=a", "??x=a", "?abcdefghi=a", "1=a", "?\xff=a", "?x=a y=b", "x=a ?y=b",
	"?x=", "?x=A", "?x=?y", "?x=?x", "?x=abcdefghi", "?x=-1", "?x=a,b", "?x=\u00e9", "?x=a ?y=", "?x= ?y=a", "?x=a ?y=B ?z=c",
	"?1=a ?2=a ?3=a ?4=a ?5=a ?6=a ?7=a", "?1=a ?2=a ?3=a ?4=a ?5=a ?6=a ?6=a",
}

// noBindings returns lists of pairs that are no bindings, also some that pairsOf can't read.
func noBindings() [][]impl.Pair {
	l := [][]impl.Pair{
		{{}},
		{{Var: "?x", Value: "a b"}},
		{{Var: "?x", Value: " a"}},
		{{Var: "?x ", Value: "a"}},
		{{Var: " ?x", Value: "a"}},
		{{Var: "?x", Value: "a="}},
		{{Var: "?x=", Value: "a"}},
		{{Var: "?x", Value: "a"}, {}},
		make([]impl.Pair, 100),
	}
	for _, text := range noBindingTexts {
		l = append(l, pairsOf(text))
	}
	return l
}

func TestBindings(t *testing.T) {
	for _, text := range bindingTexts {
		b := pairsOf(text)
		if !impl.IsBinding(b) {
			t.Errorf("IsBinding(%q) = false", b)
		}
		if got := impl.FormatBinding(b); got != text {
			t.Errorf("FormatBinding(%q) = %q", b, got)
		}
	}
	if !impl.IsBinding(nil) || impl.FormatBinding(nil) != "-" {
		t.Error("no pairs")
	}
}

func TestListsThatAreNoBindings(t *testing.T) {
	p, f := patternOf("p(?k)"), fact("p", "a")
	for _, b := range noBindings() {
		if impl.IsBinding(b) {
			t.Errorf("IsBinding(%q) = true", b)
		}
		if got := impl.FormatBinding(b); got != "" {
			t.Errorf("FormatBinding(%q) = %q", b, got)
		}
		for _, v := range []string{"?k", "?x"} {
			if got, ok := impl.Extend(b, v, "a"); ok || len(got) != 0 {
				t.Errorf("Extend(%q, %q) = %q, %v", b, v, got, ok)
			}
		}
		for _, q := range []impl.Pattern{p, patternOf("p(?x)"), patternOf("p(a)")} {
			if got, ok := impl.MatchFact(q, f, b); ok || len(got) != 0 {
				t.Errorf("MatchFact(%q, %q, %q) = %q, %v", q, f, b, got, ok)
			}
			if got, ok := impl.Instance(q, b); ok || got.Rel != "" || len(got.Args) != 0 {
				t.Errorf("Instance(%q, %q) = %q, %v", q, b, got, ok)
			}
		}
	}
}

// All lists of up to three pairs of some texts, and random longer ones, beside the rule told again.
func TestIsBindingOfAllShortLists(t *testing.T) {
	lists := tuples(3, append(pairsOf("?a=1 ?a=A ?10=a ?9=a b=a ?b=?a ?b=b"), impl.Pair{})...)
	random := rand.New(rand.NewSource(3))
	for range 2000 {
		l := []impl.Pair{}
		for _, v := range "0123456789" {
			if random.Intn(3) > 0 {
				l = append(l, impl.Pair{Var: "?" + string(v), Value: "a"})
			}
		}
		lists = append(lists, l)
	}
	for _, l := range lists {
		if got := impl.IsBinding(l); got != isBinding(l) {
			t.Errorf("IsBinding(%q) = %v", l, got)
		}
		if got := impl.FormatBinding(l); (got != "") != isBinding(l) {
			t.Errorf("FormatBinding(%q) = %q", l, got)
		}
	}
}

func TestValueOf(t *testing.T) {
	binding := "?x=a ?y=1 ?z=007"
	odd := "?y=first ?x=a ?y=second x=b ?X=c =d 7=e ?v= ?w=NO"
	cases := []struct {
		b     string
		term  string
		value string
		ok    bool
	}{
		{binding, "?x", "a", true},
		{binding, "?y", "1", true},
		{binding, "?z", "007", true},
		{binding, "?w", "", false},
		{binding, "?x1", "", false},
		{binding, "x", "x", true},
		{binding, "a", "a", true},
		{binding, "7", "7", true},
		{binding, "007", "007", true},
		{binding, "abcdefgh", "abcdefgh", true},
		{binding, "", "", false},
		{binding, "?", "", false},
		{binding, "X", "", false},
		{binding, "?X", "", false},
		{binding, "abcdefghi", "", false},
		{binding, "??x", "", false},
		{binding, "?x ", "", false},
		{binding, "-1", "", false},
		{"-", "?x", "", false},
		{"-", "9999", "9999", true},
		{"-", "", "", false},
		{odd, "?y", "first", true},
		{odd, "?x", "a", true},
		{odd, "x", "x", true},
		{odd, "7", "7", true},
		{odd, "?X", "", false},
		{odd, "", "", false},
		{odd, "?v", "", true},
		{odd, "?w", "NO", true},
		{"?1=a ?2=a ?3=a ?4=a ?5=a ?6=a ?7=a ?8=b", "?8", "b", true},
	}
	for _, c := range cases {
		if value, ok := impl.ValueOf(pairsOf(c.b), c.term); value != c.value || ok != c.ok {
			t.Errorf("ValueOf(%q, %q) = %q, %v", c.b, c.term, value, ok)
		}
	}
}

func TestExtend(t *testing.T) {
	full := "?b=1 ?d=2 ?f=3 ?h=4 ?j=5 ?l=6"
	cases := []struct {
		b     string
		v     string
		value string
		want  string // empty if it fails
	}{
		{"-", "?x", "a", "?x=a"},
		{"-", "?1", "007", "?1=007"},
		{"?x=a", "?x", "a", "?x=a"},
		{"?x=a", "?x", "b", ""},
		{"?x=1", "?x", "01", ""},
		{"?x=a", "?y", "a", "?x=a ?y=a"},
		{"?x=a", "?w", "a", "?w=a ?x=a"},
		{"?9=a", "?10", "b", "?10=b ?9=a"},
		{"?a=1 ?c=3", "?b", "2", "?a=1 ?b=2 ?c=3"},
		{"?a=1 ?c=3", "?c", "3", "?a=1 ?c=3"},
		{"?a=1 ?c=3", "?c", "1", ""},
		{"?b=1 ?d=2 ?f=3 ?h=4 ?j=5", "?l", "6", full},
		{"?d=2 ?f=3 ?h=4 ?j=5 ?l=6", "?b", "1", full},
		{"?b=1 ?d=2 ?f=3 ?j=5 ?l=6", "?h", "4", full},
		{full, "?b", "1", full},
		{full, "?h", "4", full},
		{full, "?l", "6", full},
		{full, "?h", "5", ""},
		{full, "?a", "1", ""},
		{full, "?g", "1", ""},
		{full, "?z", "1", ""},
	}
	for _, c := range cases {
		got, ok := impl.Extend(pairsOf(c.b), c.v, c.value)
		if ok != (c.want != "") || ok && !slices.Equal(got, pairsOf(c.want)) || !ok && len(got) != 0 {
			t.Errorf("Extend(%q, %q, %q) = %q, %v", c.b, c.v, c.value, got, ok)
		}
	}
	if got, ok := impl.Extend(nil, "?x", "a"); !ok || !slices.Equal(got, pairsOf("?x=a")) {
		t.Error(got, ok)
	}
}

func TestExtendRefusesOtherTexts(t *testing.T) {
	for _, b := range [][]impl.Pair{nil, pairsOf("?x=a"), pairsOf("?1=a ?2=a ?3=a ?4=a ?5=a ?6=a")} {
		for _, v := range append([]string{"x", "1", "007"}, noTerms...) {
			if got, ok := impl.Extend(b, v, "a"); ok || len(got) != 0 {
				t.Errorf("Extend(%q, %q) = %q, %v", b, v, got, ok)
			}
		}
		for _, value := range noAtoms {
			for _, v := range []string{"?x", "?1", "?y"} {
				if got, ok := impl.Extend(b, v, value); ok || len(got) != 0 {
					t.Errorf("Extend(%q, %q, %q) = %q, %v", b, v, value, got, ok)
				}
			}
		}
	}
}

func TestExtendInAnyOrder(t *testing.T) {
	vars := factsOf("a()", "b()", "c()", "d()", "e()", "f()")
	permute(vars, 0, func(order []impl.Fact) {
		var b []impl.Pair
		for _, f := range order {
			more, ok := impl.Extend(b, "?"+f.Rel, f.Rel+f.Rel)
			if !ok || len(more) != len(b)+1 || !isBinding(more) {
				t.Fatalf("Extend(%q, %q) = %q, %v", b, f.Rel, more, ok)
			}
			b = more
		}
		if impl.FormatBinding(b) != "?a=aa ?b=bb ?c=cc ?d=dd ?e=ee ?f=ff" {
			t.Fatal(b)
		}
	})
}

func TestMatchFact(t *testing.T) {
	four, five, six := "?1=a ?2=b ?3=c ?4=d", "?1=a ?2=b ?3=c ?4=d ?5=e", "?1=a ?2=b ?3=c ?4=d ?5=e ?6=f"
	cases := []struct {
		pattern string
		fact    string
		b       string
		want    string // empty if it fails
	}{
		{"z()", "z()", "-", "-"},
		{"z()", "z()", "?x=a", "?x=a"},
		{"z()", "z()", six, six},
		{"z()", "y()", "-", ""},
		{"z()", "z(a)", "-", ""},
		{"z(?x)", "z()", "-", ""},
		{"on(a,1)", "on(a,1)", "-", "-"},
		{"on(a,1)", "on(a,01)", "-", ""},
		{"on(a,1)", "on(1,a)", "-", ""},
		{"on(?x)", "on(a)", "-", "?x=a"},
		{"on(?x)", "in(a)", "-", ""},
		{"on(?x)", "on(a,b)", "-", ""},
		{"on(?x,?y)", "on(a)", "-", ""},
		{"on(?x,?y)", "on(a,b)", "-", "?x=a ?y=b"},
		{"on(?y,?x)", "on(a,b)", "-", "?x=b ?y=a"},
		{"on(?9,?10)", "on(a,b)", "-", "?10=b ?9=a"},
		{"on(?x,?y)", "on(a,a)", "-", "?x=a ?y=a"},
		{"on(?x,?x)", "on(a,a)", "-", "?x=a"},
		{"on(?x,?x)", "on(a,b)", "-", ""},
		{"on(?x,?x)", "on(1,01)", "-", ""},
		{"on(?x,a,?x)", "on(b,a,b)", "-", "?x=b"},
		{"on(?x,a,?x)", "on(b,a,a)", "-", ""},
		{"on(?x,?y,?x)", "on(a,b,a)", "-", "?x=a ?y=b"},
		{"on(?x,?y,?x)", "on(a,b,b)", "-", ""},
		{"on(?x,?x,?x)", "on(a,a,b)", "-", ""},
		{"on(?x,?y,?z)", "on(c,b,a)", "-", "?x=c ?y=b ?z=a"},
		{"on(?x,b)", "on(a,b)", "-", "?x=a"},
		{"on(?x,b)", "on(a,c)", "-", ""},
		{"on(x,?x)", "on(x,y)", "-", "?x=y"},
		{"on(x,?x)", "on(y,y)", "?x=y", ""},
		{"on(?x)", "on(a)", "?x=a", "?x=a"},
		{"on(?x)", "on(a)", "?x=b", ""},
		{"on(?x)", "on(1)", "?x=01", ""},
		{"on(?x)", "on(a)", "?w=a ?y=b", "?w=a ?x=a ?y=b"},
		{"on(?x,?y)", "on(a,b)", "?x=a", "?x=a ?y=b"},
		{"on(?x,?y)", "on(a,b)", "?y=b", "?x=a ?y=b"},
		{"on(?x,?y)", "on(a,b)", "?y=a", ""},
		{"on(?x,?y)", "on(a,b)", "?x=a ?y=b ?z=c", "?x=a ?y=b ?z=c"},
		{"on(?x,?x)", "on(a,a)", "?x=b", ""},
		{"on(?5,?6)", "on(e,f)", four, six},
		{"on(?5,?6,?7)", "on(e,f,g)", four, ""},
		{"on(?5,?6)", "on(e,f)", five, six},
		{"on(?6,?7)", "on(f,g)", five, ""},
		{"on(?6,?6,?6)", "on(f,f,f)", five, six},
		{"on(?6,?4)", "on(f,d)", five, six},
		{"on(?1,?3,?6)", "on(a,c,f)", six, six},
		{"on(?1,?3,?6)", "on(a,c,e)", six, ""},
		{"on(?7)", "on(a)", six, ""},
		{"on(?0)", "on(a)", six, ""},
		{"on(a)", "on(a)", six, six},
	}
	for _, c := range cases {
		b, ok := impl.MatchFact(patternOf(c.pattern), factsOf(c.fact)[0], pairsOf(c.b))
		if ok != (c.want != "") || ok && !slices.Equal(b, pairsOf(c.want)) || !ok && len(b) != 0 {
			t.Errorf("MatchFact(%s, %s, %s) = %q, %v", c.pattern, c.fact, c.b, b, ok)
		}
	}
}

func TestMatchFactRefusesInvalidFacts(t *testing.T) {
	for _, f := range append(badTuples(noAtoms), fact("p", "?x"), fact("p", "a", "?y")) {
		patterns := []impl.Pattern{pattern(f.Rel, f.Args...), pattern(f.Rel, "?x"), pattern(f.Rel, "?x", "?y"), pattern(f.Rel, "?x", "?y", "?z"), pattern(f.Rel, "?a", "?b", "?c", "?d")}
		for _, p := range patterns {
			if b, ok := impl.MatchFact(p, f, nil); ok || len(b) != 0 {
				t.Errorf("MatchFact(%q, %q) = %q, %v", p, f, b, ok)
			}
		}
	}
}

// tuples returns all lists of at most n of the elements.
func tuples[T any](n int, elements ...T) [][]T {
	l := [][]T{{}}
	for i := 0; i < len(l) && len(l[i]) < n; i++ {
		for _, x := range elements {
			l = append(l, append(slices.Clone(l[i]), x))
		}
	}
	return l
}

// replaced returns the Args with each variable that the map has replaced.
func replaced(args []string, values map[string]string) []string {
	l := slices.Clone(args)
	for i, arg := range l {
		if value, ok := values[arg]; ok {
			l[i] = value
		}
	}
	return l
}

// becomes goes through all ways to replace the variables by the texts, and reports whether one of them
// gives the wanted Args; it leaves this one in the map.
func becomes(args []string, vars []string, texts []string, values map[string]string, want []string) bool {
	if len(vars) == 0 {
		return slices.Equal(replaced(args, values), want)
	}
	for _, text := range texts {
		values[vars[0]] = text
		if becomes(args, vars[1:], texts, values, want) {
			return true
		}
	}
	delete(values, vars[0])
	return false
}

// without returns the variables among the Args that have no value yet, each once.
func without(args []string, values map[string]string) []string {
	vars := []string{}
	for _, arg := range args {
		if _, ok := values[arg]; !ok && arg[0] == '?' && !slices.Contains(vars, arg) {
			vars = append(vars, arg)
		}
	}
	return vars
}

func mapOf(b []impl.Pair) map[string]string {
	values := map[string]string{}
	for _, pair := range b {
		values[pair.Var] = pair.Value
	}
	return values
}

// checkMatch compares MatchFact with all bindings tried, and with Instance the other way round.
func checkMatch(t *testing.T, p impl.Pattern, f impl.Fact, b []impl.Pair) {
	t.Helper()
	values := mapOf(b)
	want := becomes(p.Args, without(p.Args, values), []string{"a", "b", "1", "z"}, values, f.Args) && len(values) <= 6
	got, ok := impl.MatchFact(p, f, b)
	if ok != want {
		t.Fatalf("MatchFact(%q, %q, %q) = %q, %v", p, f, b, got, ok)
	}
	if !ok {
		return
	}
	if !isBinding(got) || !reflect.DeepEqual(mapOf(got), values) {
		t.Fatalf("MatchFact(%q, %q, %q) = %q, not %q", p, f, b, got, values)
	}
	if g, ok := impl.Instance(p, got); !ok || !equalFacts([]impl.Fact{g}, []impl.Fact{f}) {
		t.Fatalf("Instance(%q, %q) = %q, not %q", p, got, g, f)
	}
}

var bindingsToMatch = []string{"-", "?x=a", "?x=1", "?x=z", "?y=b", "?w=a ?z=b", "?x=a ?y=a", "?x=a ?y=1", "?w=b ?y=a",
	"?1=a ?2=b ?3=1 ?4=a", "?1=a ?2=b ?3=1 ?4=a ?5=b", "?1=a ?2=b ?3=1 ?4=a ?y=b", "?1=a ?2=b ?3=1 ?4=a ?5=b ?6=1", "?1=a ?2=b ?3=1 ?4=a ?5=b ?x=1", "?1=a ?2=b ?3=1 ?4=a ?x=b ?y=1"}

func TestMatchFactIsTheFactUnderTheBinding(t *testing.T) {
	facts := tuples(3, "a", "b", "1")
	for _, args := range tuples(3, "?x", "?y", "a", "1") {
		for _, text := range bindingsToMatch {
			for _, f := range facts {
				checkMatch(t, pattern("p", args...), fact("p", f...), pairsOf(text))
			}
		}
	}
}

func TestMatchFactFindsEveryInstance(t *testing.T) {
	for _, args := range tuples(3, "?x", "?y", "a", "1") {
		p := pattern("p", args...)
		for _, text := range bindingsToMatch {
			b := pairsOf(text)
			values := mapOf(b)
			f, ok := impl.Instance(p, b)
			if ok != (len(without(args, values)) == 0) {
				t.Fatalf("Instance(%q, %q) = %q, %v", p, b, f, ok)
			}
			if !ok {
				if f.Rel != "" || len(f.Args) != 0 {
					t.Fatalf("Instance(%q, %q) = %q, %v", p, b, f, ok)
				}
				continue
			}
			if f.Rel != "p" || !slices.Equal(f.Args, replaced(args, values)) {
				t.Fatalf("Instance(%q, %q) = %q", p, b, f)
			}
			if got, ok := impl.MatchFact(p, f, b); !ok || !slices.Equal(got, b) {
				t.Fatalf("MatchFact(%q, %q, %q) = %q, %v", p, f, b, got, ok)
			}
		}
	}
}

func TestRestrict(t *testing.T) {
	binding := "?x=a ?y=1 ?z=007"
	odd := "?y=b ?x=a ?y=c x=d =e ?y=b"
	cases := []struct {
		b    string
		vars []string
		want string
	}{
		{binding, []string{"?y"}, "?y=1"},
		{binding, []string{"?z", "?x"}, "?x=a ?z=007"},
		{binding, []string{"?x", "?y", "?z"}, binding},
		{binding, []string{"?x", "?x", "?x"}, "?x=a"},
		{binding, []string{"x", "?", "", "?w", "?x1", "a", "1"}, "-"},
		{binding, []string{}, "-"},
		{binding, nil, "-"},
		{"-", []string{"?x"}, "-"},
		{"-", nil, "-"},
		{odd, []string{"?y"}, "?y=b ?y=c ?y=b"},
		{odd, []string{"x", "?x"}, "?x=a x=d"},
		{odd, []string{""}, "=e"},
		{"?1=a ?2=a ?3=a ?4=a ?5=a ?6=a ?7=a ?8=b", []string{"?8", "?1", "?7", "?2", "?6", "?3", "?5", "?4"}, "?1=a ?2=a ?3=a ?4=a ?5=a ?6=a ?7=a ?8=b"},
	}
	for _, c := range cases {
		if got := impl.Restrict(pairsOf(c.b), c.vars); !slices.Equal(got, pairsOf(c.want)) {
			t.Errorf("Restrict(%q, %q) = %q", c.b, c.vars, got)
		}
	}
	if got := impl.Restrict(nil, []string{"?x"}); len(got) != 0 {
		t.Error(got)
	}
}

func TestCoversPattern(t *testing.T) {
	cases := []struct {
		p    string
		q    string
		want bool
	}{
		{"z()", "z()", true},
		{"z()", "y()", false},
		{"z()", "z(a)", false},
		{"z(?x)", "z()", false},
		{"on(a)", "on(a)", true},
		{"on(a)", "on(b)", false},
		{"on(1)", "on(01)", false},
		{"on(?x)", "on(a)", true},
		{"on(a)", "on(?x)", false},
		{"on(x)", "on(?x)", false},
		{"on(?x)", "in(a)", false},
		{"on(?x)", "on(?x)", true},
		{"on(?x)", "on(?y)", true},
		{"on(?x)", "on(?x,?y)", false},
		{"on(?x,?y)", "on(?z,?z)", true},
		{"on(?z,?z)", "on(?x,?y)", false},
		{"on(?x,?x)", "on(?x,?y)", false},
		{"on(?x,?x)", "on(?y,?x)", false},
		{"on(?x,?y)", "on(?x,?x)", true},
		{"on(?x,?y)", "on(?y,?x)", true},
		{"on(?x,?y)", "on(?y,a)", true},
		{"on(?x,?y)", "on(a,?x)", true},
		{"on(?x,?y)", "on(a,b)", true},
		{"on(?x,?x)", "on(a,b)", false},
		{"on(?x,?x)", "on(a,a)", true},
		{"on(?x,?x)", "on(a,?x)", false},
		{"on(?x,?x)", "on(?x,a)", false},
		{"on(?x,a)", "on(?x,?x)", false},
		{"on(?x,a)", "on(a,a)", true},
		{"on(?x,?y,?x)", "on(?y,?x,?y)", true},
		{"on(?x,?y,?x)", "on(?y,?x,?x)", false},
		{"on(?x,?y,?z)", "on(?y,?z,?x)", true},
		{"on(?x,?y,?z)", "on(?x,?x,?x)", true},
		{"on(?x,?x,?x)", "on(?x,?x,?y)", false},
		{"on(?x,?y,1)", "on(?y,?x,1)", true},
		{"on(?x,?y,1)", "on(?y,?x,?x)", false},
	}
	for _, c := range cases {
		if got := impl.CoversPattern(patternOf(c.p), patternOf(c.q)); got != c.want {
			t.Errorf("CoversPattern(%s, %s) = %v", c.p, c.q, got)
		}
	}
}

func TestCoversPatternTriesAllReplacements(t *testing.T) {
	terms := []string{"?x", "?y", "a", "1"}
	all := tuples(3, terms...)
	facts := tuples(3, "a", "b", "1")
	for _, p := range all {
		for _, q := range all {
			want := becomes(p, without(p, nil), terms, map[string]string{}, q)
			if got := impl.CoversPattern(pattern("p", p...), pattern("p", q...)); got != want {
				t.Fatalf("CoversPattern of %q and %q = %v", p, q, got)
			}
			if impl.CoversPattern(pattern("p", p...), pattern("q", q...)) {
				t.Fatalf("CoversPattern of %q and %q with other Rels", p, q)
			}
			for _, f := range facts {
				if !want || len(q) != len(f) {
					continue
				}
				_, wide := impl.MatchFact(pattern("p", p...), fact("p", f...), nil)
				if _, narrow := impl.MatchFact(pattern("p", q...), fact("p", f...), nil); narrow && !wide {
					t.Fatalf("%q covers %q, but does not match %q", p, q, f)
				}
			}
		}
	}
}

func TestCoversPatternRefusesInvalidPatterns(t *testing.T) {
	for _, f := range badTuples(noTerms) {
		bad := impl.Pattern(f)
		vars := pattern(f.Rel, []string{"?1", "?2", "?3", "?4", "?5"}[:min(len(f.Args), 5)]...)
		for _, p := range []impl.Pattern{bad, vars, pattern("p"), pattern("p", "?x"), pattern("p", "?x", "?y"), pattern("p", "?x", "?y", "?z")} {
			if impl.CoversPattern(p, bad) || impl.CoversPattern(bad, p) {
				t.Errorf("CoversPattern of %q and %q", p, bad)
			}
		}
	}
}

func TestSamePattern(t *testing.T) {
	l := []impl.Pattern{
		{}, pattern("", ""), pattern("z"), pattern("Z"), pattern("z", ""), pattern("z", "a"), pattern("z", "?a"), pattern("z", "?b"), pattern("z", "1"), pattern("z", "01"),
		pattern("z", "a", "b"), pattern("z", "b", "a"), pattern("z", "a", "b", "c"), pattern("z", "a", "b", "c", "d"), pattern("?x", "A"), pattern("?x", "B"),
	}
	for i, a := range l {
		for j, b := range l {
			if got := impl.SamePattern(a, pattern(b.Rel, slices.Clone(b.Args)...)); got != (i == j) {
				t.Errorf("SamePattern(%q, %q) = %v", a, b, got)
			}
		}
	}
	if !impl.SamePattern(impl.Pattern{Rel: "z"}, impl.Pattern{Rel: "z", Args: []string{}}) || !impl.SamePattern(impl.Pattern{Args: []string{}}, impl.Pattern{}) {
		t.Error("nil and empty Args differ")
	}
}

// roomyTexts returns a list with spare capacity, which holds other texts.
func roomyTexts(l ...string) []string {
	return append(slices.Clone(l), "spare", "room", "behind")[:len(l)]
}

func roomyPairs(text string) []impl.Pair {
	b := pairsOf(text)
	return append(b, pairsOf("spare=s room=r behind=b more=m")...)[:len(b)]
}

// wholeList copies a list up to its capacity.
func wholeList[T any](l []T) []T {
	return slices.Clone(l[:cap(l)])
}

// overwrite changes all of a list, also its spare capacity.
func overwrite[T any](l []T, x T) {
	l = l[:cap(l)]
	for i := range l {
		l[i] = x
	}
}

// checkArguments does the calls, which overwrite their results, and checks that the arguments stay as they are.
func checkArguments(t *testing.T, calls map[string]func(), arguments func() []any) {
	t.Helper()
	before := arguments()
	for name, call := range calls {
		call()
		if !reflect.DeepEqual(arguments(), before) {
			t.Fatalf("%s changes its arguments, or its result shares memory with them: %q", name, arguments())
		}
	}
}

func TestPatternsAndBindingsStayAsTheyAre(t *testing.T) {
	p := pattern("p", roomyTexts("?y", "?x")...)
	ground := pattern("p", roomyTexts("a", "1")...)
	f := fact("p", roomyTexts("a", "1")...)
	vars := roomyTexts("?x", "?y", "?x")
	b := roomyPairs("?w=7 ?y=a")
	whole := roomyPairs("?x=1 ?y=a")
	overwritePairs := func(l []impl.Pair) { overwrite(l, impl.Pair{Var: "own", Value: "own"}) }
	calls := map[string]func(){
		"VarsOf":             func() { overwrite(impl.VarsOf(p), "own") },
		"Extend":             func() { l, _ := impl.Extend(b, "?x", "1"); overwritePairs(l) },
		"Extend in front":    func() { l, _ := impl.Extend(b, "?1", "1"); overwritePairs(l) },
		"Extend at the end":  func() { l, _ := impl.Extend(b, "?z", "1"); overwritePairs(l) },
		"Extend, there":      func() { l, _ := impl.Extend(b, "?y", "a"); overwritePairs(l) },
		"Extend, fails":      func() { l, _ := impl.Extend(b, "?y", "b"); overwritePairs(l) },
		"MatchFact":          func() { l, _ := impl.MatchFact(p, f, b); overwritePairs(l) },
		"MatchFact, known":   func() { l, _ := impl.MatchFact(p, f, whole); overwritePairs(l) },
		"MatchFact, no vars": func() { l, _ := impl.MatchFact(ground, f, b); overwritePairs(l) },
		"MatchFact, fails":   func() { l, _ := impl.MatchFact(p, fact("p", "b", "1"), b); overwritePairs(l) },
		"Instance":           func() { g, _ := impl.Instance(p, whole); overwrite(g.Args, "own") },
		"Instance, no vars":  func() { g, _ := impl.Instance(ground, b); overwrite(g.Args, "own") },
		"Instance, fails":    func() { g, _ := impl.Instance(p, b); overwrite(g.Args, "own") },
		"Restrict":           func() { overwritePairs(impl.Restrict(b, vars)) },
		"Restrict, all":      func() { overwritePairs(impl.Restrict(whole, vars)) },
		"Restrict, none":     func() { overwritePairs(impl.Restrict(b, nil)) },
		"others": func() {
			impl.IsPattern(p)
			impl.IsBinding(b)
			impl.ValueOf(b, "?y")
			impl.FormatPattern(p)
			impl.FormatBinding(b)
			impl.CoversPattern(p, ground)
			impl.SamePattern(p, ground)
		},
	}
	checkArguments(t, calls, func() []any {
		return []any{wholeList(p.Args), wholeList(ground.Args), wholeList(f.Args), wholeList(vars), wholeList(b), wholeList(whole)}
	})
}

func TestReadPatternsHaveTheirOwnMemory(t *testing.T) {
	first, _ := impl.ParsePattern("p(?x,a)")
	overwrite(first.Args, "own")
	if second, ok := impl.ParsePattern("p(?x,a)"); !ok || !slices.Equal(second.Args, []string{"?x", "a"}) {
		t.Error(second, ok)
	}
}
