package tests

import (
	"math"
	"math/rand"
	"regexp"
	"slices"
	"strings"
	"testing"

	"loop.example/g03015/impl"
)

func has(text string) impl.Cond {
	return impl.Cond{Kind: impl.CondHas, Pattern: patternOf(text)}
}

func hasNot(text string) impl.Cond {
	return impl.Cond{Kind: impl.CondNot, Pattern: patternOf(text)}
}

func test(kind int, left string, right string) impl.Cond {
	return impl.Cond{Kind: kind, Left: left, Right: right}
}

func equalConds(a impl.Cond, b impl.Cond) bool {
	return a.Kind == b.Kind && a.Pattern.Rel == b.Pattern.Rel && slices.Equal(a.Pattern.Args, b.Pattern.Args) && a.Left == b.Left && a.Right == b.Right
}

var (
	presenceKinds = []int{impl.CondHas, impl.CondNot}
	testKinds     = []int{impl.CondSame, impl.CondOther, impl.CondLess}
	noKinds       = []int{0, 6, 7, -1, -2, -5, 100, 1 << 32, 1<<32 + 1, math.MaxInt, math.MinInt}
)

func TestKindsOfConds(t *testing.T) {
	got := []int{impl.CondHas, impl.CondNot, impl.CondSame, impl.CondOther, impl.CondLess}
	if !slices.Equal(got, []int{1, 2, 3, 4, 5}) {
		t.Error(got)
	}
}

var validConds = []struct {
	cond   impl.Cond
	text   string
	vars   []string
	isTest bool
}{
	{has("z()"), "z()", nil, false},
	{has("on(a,1,007)"), "on(a,1,007)", nil, false},
	{has("on(?x)"), "on(?x)", []string{"?x"}, false},
	{has("on(?y,?x,?y)"), "on(?y,?x,?y)", []string{"?x", "?y"}, false},
	{has("not()"), "not()", nil, false},
	{has("not(?x)"), "not(?x)", []string{"?x"}, false},
	{has("notp(a)"), "notp(a)", nil, false},
	{hasNot("z()"), "not z()", nil, false},
	{hasNot("on(?9,?10,?a)"), "not on(?9,?10,?a)", []string{"?10", "?9", "?a"}, false},
	{hasNot("not(not)"), "not not(not)", nil, false},
	{hasNot("abcdefgh(?abcdefgh,abcdefgh,?12345678)"), "not abcdefgh(?abcdefgh,abcdefgh,?12345678)", []string{"?12345678", "?abcdefgh"}, false},
	{impl.Cond{Kind: impl.CondHas, Pattern: impl.Pattern{Rel: "z", Args: []string{}}}, "z()", nil, false},
	{impl.Cond{Kind: impl.CondNot, Pattern: impl.Pattern{Rel: "z", Args: []string{}}}, "not z()", nil, false},
	{test(impl.CondSame, "?x", "a"), "?x = a", []string{"?x"}, true},
	{test(impl.CondSame, "a", "?x"), "a = ?x", []string{"?x"}, true},
	{test(impl.CondSame, "not", "not"), "not = not", nil, true},
	{test(impl.CondOther, "?y", "?x"), "?y != ?x", []string{"?x", "?y"}, true},
	{test(impl.CondOther, "?x", "?x"), "?x != ?x", []string{"?x"}, true},
	{test(impl.CondOther, "007", "7"), "007 != 7", nil, true},
	{test(impl.CondLess, "?x", "10"), "?x < 10", []string{"?x"}, true},
	{test(impl.CondLess, "?9", "?10"), "?9 < ?10", []string{"?10", "?9"}, true},
	{test(impl.CondLess, "b", "a"), "b < a", nil, true},
	{test(impl.CondLess, "?abcdefgh", "abcdefgh"), "?abcdefgh < abcdefgh", []string{"?abcdefgh"}, true},
	{impl.Cond{Kind: impl.CondSame, Pattern: impl.Pattern{Args: []string{}}, Left: "1", Right: "2"}, "1 = 2", nil, true},
}

func TestValidCondsAreWrittenAndRead(t *testing.T) {
	for _, c := range validConds {
		if !impl.IsCond(c.cond) {
			t.Errorf("IsCond(%+v) = false", c.cond)
		}
		if got := impl.IsTest(c.cond); got != c.isTest {
			t.Errorf("IsTest(%+v) = %v", c.cond, got)
		}
		if got := impl.FormatCond(c.cond); got != c.text {
			t.Errorf("FormatCond(%+v) = %q", c.cond, got)
		}
		if got, ok := impl.ParseCond(c.text); !ok || !equalConds(got, c.cond) {
			t.Errorf("ParseCond(%q) = %+v, %v", c.text, got, ok)
		}
		if got := impl.CondVars(c.cond); !slices.Equal(got, c.vars) {
			t.Errorf("CondVars(%+v) = %q", c.cond, got)
		}
	}
}

// noConds returns conditions that are not valid, each for one reason at least.
func noConds() []impl.Cond {
	l := []impl.Cond{{}}
	for _, kind := range noKinds {
		l = append(l, impl.Cond{Kind: kind}, impl.Cond{Kind: kind, Pattern: patternOf("p(a)")}, test(kind, "a", "a"), impl.Cond{Kind: kind, Pattern: patternOf("p(a)"), Left: "a", Right: "a"})
	}
	for _, kind := range presenceKinds {
		l = append(l, test(kind, "a", "a"))
		for _, f := range badTuples(noTerms) {
			l = append(l, impl.Cond{Kind: kind, Pattern: impl.Pattern(f)})
		}
		for _, text := range []string{"a", "1", "?x", "?", "A", " ", "\x00"} {
			l = append(l, impl.Cond{Kind: kind, Pattern: patternOf("p(a)"), Left: text})
			l = append(l, impl.Cond{Kind: kind, Pattern: patternOf("p(a)"), Right: text})
			l = append(l, impl.Cond{Kind: kind, Pattern: patternOf("p(a)"), Left: text, Right: text})
		}
	}
	for _, kind := range testKinds {
		l = append(l, impl.Cond{Kind: kind, Pattern: patternOf("p(a)")})
		for _, text := range noTerms {
			l = append(l, test(kind, text, "a"), test(kind, "1", text), test(kind, "?x", text), test(kind, text, text))
		}
		for _, p := range []impl.Pattern{pattern("p"), pattern("p", "a"), pattern("p", "?x"), pattern("P"), pattern(" "), pattern("", "a"), pattern("", ""), pattern("", "", "", "", "")} {
			l = append(l, impl.Cond{Kind: kind, Pattern: p, Left: "1", Right: "1"}, impl.Cond{Kind: kind, Pattern: p, Left: "1", Right: "2"})
		}
	}
	return l
}

func TestInvalidConds(t *testing.T) {
	b := pairsOf("?x=1 ?y=2")
	for _, x := range noConds() {
		if impl.IsCond(x) || impl.IsTest(x) {
			t.Errorf("%+v: IsCond = %v, IsTest = %v", x, impl.IsCond(x), impl.IsTest(x))
		}
		if got := impl.FormatCond(x); got != "" {
			t.Errorf("FormatCond(%+v) = %q", x, got)
		}
		if impl.HoldsTest(x, nil) || impl.HoldsTest(x, b) {
			t.Errorf("HoldsTest(%+v) = true", x)
		}
		own := impl.Fact(x.Pattern)
		for _, facts := range [][]impl.Fact{nil, {}, {own}, factsOf("p(a)"), factsOf("p()", "p(1)", "q()")} {
			if impl.HoldsCond(x, nil, facts) || impl.HoldsCond(x, b, facts) {
				t.Errorf("HoldsCond(%+v, %q) = true", x, facts)
			}
		}
		if got := impl.RenameCond(x, nil); !equalConds(got, x) {
			t.Errorf("RenameCond(%+v, nil) = %+v", x, got)
		}
	}
}

func TestPresencesAndAbsencesAreNoTests(t *testing.T) {
	for _, x := range []impl.Cond{has("p(a)"), hasNot("p(a)"), has("z()"), hasNot("p(?x)")} {
		if impl.IsTest(x) || impl.HoldsTest(x, nil) || impl.HoldsTest(x, pairsOf("?x=a")) {
			t.Errorf("%+v is a test, or holds as one", x)
		}
	}
}

func TestCondVarsOfAnyCond(t *testing.T) {
	cases := []struct {
		x    impl.Cond
		want []string
	}{
		{impl.Cond{}, nil},
		{impl.Cond{Left: "?b", Right: "?a"}, []string{"?a", "?b"}},
		{impl.Cond{Kind: -7, Pattern: pattern("?r", "?b", "?a"), Left: "?c", Right: "?b"}, []string{"?a", "?b", "?c"}},
		{impl.Cond{Kind: impl.CondHas, Pattern: pattern("p", "?x"), Left: "?x", Right: "?x"}, []string{"?x"}},
		{impl.Cond{Kind: impl.CondHas, Pattern: pattern("p", "?z"), Left: "?y"}, []string{"?y", "?z"}},
		{impl.Cond{Kind: impl.CondLess, Pattern: pattern("p", "?m"), Right: "?n"}, []string{"?m", "?n"}},
		{impl.Cond{Pattern: pattern("", "?", "??x", "?X", "", "a"), Left: "?abcdefghi", Right: "x?"}, nil},
		{impl.Cond{Pattern: pattern("p", "?8", "?7", "?6", "?5", "?4", "?3", "?8"), Left: "?2", Right: "?10"}, []string{"?10", "?2", "?3", "?4", "?5", "?6", "?7", "?8"}},
	}
	for _, c := range cases {
		if got := impl.CondVars(c.x); !slices.Equal(got, c.want) {
			t.Errorf("CondVars(%+v) = %q", c.x, got)
		}
	}
}

func TestHoldsTest(t *testing.T) {
	const none, same, other, less = 0, 1, 2, 4
	binding := "?a=x ?b=x ?m=9 ?n=10 ?z=007"
	cases := []struct {
		b     string
		left  string
		right string
		holds int // the tests that hold
	}{
		{"-", "a", "a", same},
		{"-", "a", "b", other},
		{"-", "b", "a", other},
		{"-", "0", "0", same},
		{"-", "0", "1", other + less},
		{"-", "1", "0", other},
		{"-", "9", "10", other + less},
		{"-", "10", "9", other},
		{"-", "9998", "9999", other + less},
		{"-", "0", "9999", other + less},
		{"-", "9999", "10000", other},
		{"-", "10000", "10001", other},
		{"-", "007", "7", other},
		{"-", "007", "8", other},
		{"-", "7", "008", other},
		{"-", "007", "007", same},
		{"-", "00", "0", other},
		{"-", "1", "a", other},
		{"-", "a", "1", other},
		{"-", "1", "1a", other},
		{"-", "1a", "2", other},
		{"-", "?x", "?x", none},
		{"-", "?x", "a", none},
		{"-", "1", "?x", none},
		{binding, "?a", "?b", same},
		{binding, "?a", "?a", same},
		{binding, "?a", "x", same},
		{binding, "x", "?b", same},
		{binding, "?a", "a", other},
		{binding, "?m", "?n", other + less},
		{binding, "?n", "?m", other},
		{binding, "?m", "?m", same},
		{binding, "?m", "10", other + less},
		{binding, "8", "?m", other + less},
		{binding, "?m", "9", same},
		{binding, "?m", "?a", other},
		{binding, "?z", "?n", other},
		{binding, "7", "?z", other},
		{binding, "?m", "?z", other},
		{binding, "?m", "?c", none},
		{binding, "?c", "?m", none},
		{binding, "?c", "?c", none},
		{binding, "?c", "?d", none},
	}
	for _, c := range cases {
		for i, kind := range testKinds {
			x := test(kind, c.left, c.right)
			want := c.holds>>i&1 == 1
			if got := impl.HoldsTest(x, pairsOf(c.b)); got != want {
				t.Errorf("HoldsTest(%+v, %s) = %v", x, c.b, got)
			}
			if got := impl.HoldsCond(x, pairsOf(c.b), factsOf("p(a)")); got != want {
				t.Errorf("HoldsCond(%+v, %s) = %v", x, c.b, got)
			}
		}
	}
}

var numberText = regexp.MustCompile(`\A(0|[1-9][0-9]{0,3})\z`)

// isLess compares numbers as texts, of which the shorter one is less.
func isLess(a string, b string) bool {
	return numberText.MatchString(a) && numberText.MatchString(b) && (len(a) < len(b) || len(a) == len(b) && a < b)
}

func TestHoldsTestOfAllPairsOfTerms(t *testing.T) {
	terms := []string{"0", "1", "2", "9", "10", "99", "100", "999", "1000", "9999", "10000", "00", "01", "007", "a", "b", "a1", "1a", "?x", "?y", "?z"}
	for _, text := range []string{"-", "?x=1", "?x=a ?y=9", "?x=10 ?y=9", "?x=007 ?y=7 ?z=9999", "?1=a ?2=b ?3=c ?x=2 ?y=2 ?z=b"} {
		b := pairsOf(text)
		values := mapOf(b)
		for _, pair := range tuples(2, terms...) {
			if len(pair) < 2 {
				continue
			}
			l := replaced(pair, values)
			known := l[0][0] != '?' && l[1][0] != '?'
			want := []bool{known && l[0] == l[1], known && l[0] != l[1], known && isLess(l[0], l[1])}
			for i, kind := range testKinds {
				x := test(kind, pair[0], pair[1])
				if got := impl.HoldsTest(x, b); got != want[i] {
					t.Errorf("HoldsTest(%+v, %s) = %v", x, text, got)
				}
			}
		}
	}
}

func TestNothingHoldsUnderListsThatAreNoBindings(t *testing.T) {
	conds := []impl.Cond{
		has("p(a)"), has("p(?k)"), has("p(?x)"), hasNot("p(a)"), hasNot("p(b)"), hasNot("p(?k)"), hasNot("q()"),
		test(impl.CondSame, "a", "a"), test(impl.CondOther, "a", "b"), test(impl.CondLess, "1", "2"), test(impl.CondSame, "?x", "?x"), test(impl.CondOther, "?x", "zz"), test(impl.CondLess, "?2", "?3"),
	}
	for _, b := range append(noBindings(), pairsOf("?2=1 ?3=2 ?3=2"), pairsOf("?3=2 ?2=1")) {
		for _, x := range conds {
			for _, facts := range [][]impl.Fact{nil, factsOf("p(a)")} {
				if impl.HoldsTest(x, b) || impl.HoldsCond(x, b, facts) {
					t.Errorf("%+v holds under %q", x, b)
				}
				if got := impl.MatchingFacts(x.Pattern, b, facts); len(got) != 0 {
					t.Errorf("MatchingFacts(%q, %q) = %q", x.Pattern, b, got)
				}
			}
		}
	}
}

func TestMatchingFacts(t *testing.T) {
	set := factsOf("on(a)", "on(a,a)", "on(a,b)", "on(b,a)", "on(b,b)", "p(1)", "p(a)", "z()")
	// No fact set: out of order, with facts that are there twice and facts that are not valid.
	odd := []impl.Fact{fact("p", "b"), fact("p", "a"), fact("p", "?x"), fact("p", "b"), fact("P", "a"), fact("p", ""), {}, fact("p"), fact("p", "a"), fact("p", "1", "2", "3", "4")}
	six := "?1=a ?2=b ?3=c ?4=d ?5=e ?6=f"
	cases := []struct {
		pattern string
		b       string
		facts   []impl.Fact
		want    []impl.Fact
	}{
		{"on(?x,?y)", "-", set, factsOf("on(a,a)", "on(a,b)", "on(b,a)", "on(b,b)")},
		{"on(?x,?x)", "-", set, factsOf("on(a,a)", "on(b,b)")},
		{"on(?x,?y)", "?x=b", set, factsOf("on(b,a)", "on(b,b)")},
		{"on(?x,?y)", "?y=a", set, factsOf("on(a,a)", "on(b,a)")},
		{"on(?x,?y)", "?x=a ?y=b", set, factsOf("on(a,b)")},
		{"on(?x,?x)", "?x=b", set, factsOf("on(b,b)")},
		{"on(?x,b)", "-", set, factsOf("on(a,b)", "on(b,b)")},
		{"on(?x,c)", "-", set, nil},
		{"on(?x,?y)", "?x=c", set, nil},
		{"on(?x)", "-", set, factsOf("on(a)")},
		{"on(?x,?y,?z)", "-", set, nil},
		{"q(?x)", "-", set, nil},
		{"z()", "-", set, factsOf("z()")},
		{"z()", six, set, factsOf("z()")},
		{"p(?1)", six, set, factsOf("p(a)")},
		{"p(?7)", six, set, nil},
		{"on(?6,?7)", "?1=a ?2=b ?3=c ?4=d ?5=e", set, nil},
		{"on(?6,?6)", "?1=a ?2=b ?3=c ?4=d ?5=e", set, factsOf("on(a,a)", "on(b,b)")},
		{"p(?x)", "-", odd, factsOf("p(b)", "p(a)", "p(b)", "p(a)")},
		{"p(?x)", "?x=a", odd, factsOf("p(a)", "p(a)")},
		{"p(b)", "-", odd, factsOf("p(b)", "p(b)")},
		{"p()", "-", odd, factsOf("p()")},
		{"P(a)", "-", odd, nil},
		{"P(?x)", "-", odd, nil},
		{"()", "-", odd, nil},
		{"p(1,2,3,4)", "-", odd, nil},
		{"p(?a,?b,?c,?d)", "-", odd, nil},
		{"p(?)", "-", odd, nil},
		{"p(?x)", "-", nil, nil},
		{"z()", "-", []impl.Fact{}, nil},
		{"n(?x)", "-", numbered(100), numbered(100)},
		{"n(99)", "-", numbered(100), factsOf("n(99)")},
	}
	for _, c := range cases {
		if got := impl.MatchingFacts(patternOf(c.pattern), pairsOf(c.b), c.facts); !equalFacts(got, c.want) {
			t.Errorf("MatchingFacts(%s, %s) = %q, not %q", c.pattern, c.b, got, c.want)
		}
	}
}

func TestHoldsCond(t *testing.T) {
	set := factsOf("on(a,b)", "on(b,b)", "p(a)", "z()")
	odd := []impl.Fact{fact("p", "b"), fact("p", "a"), fact("P", "c"), {}, fact("p", "?x"), fact("p", "a")}
	six := "?1=a ?2=b ?3=c ?4=d ?5=e ?6=f"
	cases := []struct {
		pattern string
		b       string
		facts   []impl.Fact
		there   bool
	}{
		{"z()", "-", set, true},
		{"y()", "-", set, false},
		{"z(?x)", "-", set, false},
		{"p(a)", "-", set, true},
		{"p(b)", "-", set, false},
		{"p(?x)", "-", set, true}, // ?x stands for any atom
		{"p(?x)", "?x=a", set, true},
		{"p(?x)", "?x=b", set, false},
		{"p(?x)", "?y=b", set, true},
		{"q(?x)", "-", set, false},
		{"q(?x)", "?x=a", set, false},
		{"on(?x,?y)", "-", set, true},
		{"on(?x,?y)", "?x=b", set, true},
		{"on(?x,?y)", "?y=b", set, true},
		{"on(?x,?y)", "?y=a", set, false},
		{"on(?x,?y)", "?x=b ?y=a", set, false},
		{"on(?x,?x)", "-", set, true},
		{"on(?x,?x)", "?x=a", set, false},
		{"on(?x,?x)", "?x=b", set, true},
		{"on(?x,a)", "-", set, false},
		{"on(?x,b)", "?x=c", set, false},
		{"p(?1)", six, set, true},
		{"p(?2)", six, set, false},
		{"p(?7)", six, set, false}, // no binding has seven pairs, so no fact matches
		{"z()", six, set, true},
		{"p(?6)", "?1=a ?2=b ?3=c ?4=d ?5=e", set, true},
		{"on(?6,?7)", "?1=a ?2=b ?3=c ?4=d ?5=e", set, false},
		{"p(?x)", "-", nil, false},
		{"z()", "-", []impl.Fact{}, false},
		{"p(?x)", "-", odd, true},
		{"p(?x)", "?x=a", odd, true},
		{"p(?x)", "?x=c", odd, false},
		{"p(x)", "-", odd, false},
		{"n(99)", "-", numbered(100), true},
		{"n(100)", "-", numbered(100), false},
		{"z()", "-", []impl.Fact{{}, fact("Z"), fact("z", "A"), fact("z", "1", "2", "3", "4")}, false},
	}
	for _, c := range cases {
		if got := impl.HoldsCond(has(c.pattern), pairsOf(c.b), c.facts); got != c.there {
			t.Errorf("%s under %s in %q: %v", c.pattern, c.b, c.facts, got)
		}
		if got := impl.HoldsCond(hasNot(c.pattern), pairsOf(c.b), c.facts); got == c.there {
			t.Errorf("not %s under %s in %q: %v", c.pattern, c.b, c.facts, got)
		}
	}
}

// anyFacts returns lists of some facts, also of such as are not valid, in any order and more than once.
func anyFacts(random *rand.Rand, count int) [][]impl.Fact {
	some := []impl.Fact{{}, fact("P", "a"), fact("p", "?x"), fact("p", "A"), fact("q", "a"), fact("p", "a", "a", "a", "a")}
	for _, args := range tuples(3, "a", "b", "1") {
		some = append(some, fact("p", args...))
	}
	lists := [][]impl.Fact{nil, {}, some}
	for range count {
		l := []impl.Fact{}
		for range random.Intn(6) {
			l = append(l, some[random.Intn(len(some))])
		}
		lists = append(lists, l)
	}
	return lists
}

// matching tells again which facts of a list match, by trying all atoms for the variables without a value.
func matching(p impl.Pattern, b []impl.Pair, facts []impl.Fact) []impl.Fact {
	l := []impl.Fact{}
	for _, f := range facts {
		values := mapOf(b)
		if f.Rel == p.Rel && becomes(p.Args, without(p.Args, values), []string{"a", "b", "1", "z"}, values, f.Args) && len(values) <= 6 {
			l = append(l, f)
		}
	}
	return l
}

func TestExactlyOneOfPresenceAndAbsenceHolds(t *testing.T) {
	random := rand.New(rand.NewSource(4))
	for _, args := range tuples(3, "?x", "?y", "a", "1") {
		p := pattern("p", args...)
		for _, text := range bindingsToMatch {
			b := pairsOf(text)
			for _, facts := range anyFacts(random, 20) {
				want := matching(p, b, facts)
				if got := impl.MatchingFacts(p, b, facts); !equalFacts(got, want) {
					t.Fatalf("MatchingFacts(%q, %q, %q) = %q", p, b, facts, got)
				}
				there := impl.HoldsCond(impl.Cond{Kind: impl.CondHas, Pattern: p}, b, facts)
				absent := impl.HoldsCond(impl.Cond{Kind: impl.CondNot, Pattern: p}, b, facts)
				if there == absent || there != (len(want) > 0) {
					t.Fatalf("%q under %q in %q: there %v, absent %v", p, b, facts, there, absent)
				}
			}
		}
	}
}

// An absence whose variables have no value is the absence of the pattern under each atom.
func TestAbsenceIsOfAnyAtoms(t *testing.T) {
	random := rand.New(rand.NewSource(5))
	x := hasNot("p(?x,?y)")
	for _, facts := range anyFacts(random, 500) {
		all := true
		for _, value := range []string{"a", "b", "1"} {
			all = all && impl.HoldsCond(x, pairsOf("?x="+value), facts)
		}
		if got := impl.HoldsCond(x, nil, facts); got != all {
			t.Fatalf("%+v in %q: %v", x, facts, got)
		}
	}
}

// What chapter 4 says of the text of a condition, told a second time as a regular expression.
var condText = func() *regexp.Regexp {
	tuple := strings.TrimSuffix(strings.TrimPrefix(patternText.String(), `\A`), `\z`)
	return regexp.MustCompile(`\A(((not )?` + tuple + `)|\??[a-z0-9]{1,8} (=|!=|<) \??[a-z0-9]{1,8})\z`)
}()

func checkParseCond(t *testing.T, s string) {
	t.Helper()
	x, ok := impl.ParseCond(s)
	if !condText.MatchString(s) {
		if ok || !equalConds(x, impl.Cond{}) {
			t.Errorf("ParseCond(%q) = %+v, %v", s, x, ok)
		}
		return
	}
	if !ok || impl.FormatCond(x) != s || !impl.IsCond(x) {
		t.Errorf("ParseCond(%q) = %+v, %v", s, x, ok)
	}
}

var noCondTexts = []string{
	"not", "not ", " not", "not  p(a)", "not p(a) ", " not p(a)", "Not p(a)", "NOT p(a)", "no p(a)", "nott p(a)", "not not p(a)", "not not", "not p", "not p(", "not ?x", "not p(a) q(b)", "not p(a)\n", "not\tp(a)", "not p(A)", "not p(a,b,c,d)", "p(a) not", "p(a) p(b)", "!p(a)", "not ?x = a", "not a = a",
	"?x=a", "?x =a", "?x= a", "?x = ", " = a", "?x =", "= a", "=", " = ", "  ", " ", "?x  = a", "?x =  a", " ?x = a", "?x = a ", "?x = a b", "?x y = a", "?x = y = z", "?x = a = ", "?x == a", "?x <= a", "?x > a", "?x >= a", "?x <> a", "?x ! a", "?x = = a", "a b c", "a not b", "?x  a", "a = p(a)", "p(a) = a", "p(a) = p(a)", "?x\t=\ta", "?x = A", "X = a", "? = a", "a = ?", "abcdefghi = a", "a = abcdefghi", "-1 < 1", "1 < 1.5", "a = a\n", "?x = ?y ", "a !=b", "a ! = b", "a < b < c", "\u00e9 = a", "a = \xff", "a\u00a0=\u00a0b",
}

func TestParseCondOfOtherTexts(t *testing.T) {
	for _, s := range noCondTexts {
		if x, ok := impl.ParseCond(s); ok || !equalConds(x, impl.Cond{}) {
			t.Errorf("ParseCond(%q) = %+v, %v", s, x, ok)
		}
	}
	for _, s := range append(slices.Clone(noFactTexts), strings.Repeat(" ", 1000), strings.Repeat("not ", 1000), strings.Repeat("a = ", 1000)+"a", "not p("+strings.Repeat("?x,", 1000)+"?x)") {
		checkParseCond(t, s)
		checkParseCond(t, "not "+s)
		checkParseCond(t, s+" = a")
		checkParseCond(t, "a < "+s)
	}
}

func TestParseCondOfTextsNearConds(t *testing.T) {
	for _, c := range validConds {
		nearTexts(c.text, func(s string) { checkParseCond(t, s) })
	}
}

func TestParseCondOfShortTexts(t *testing.T) {
	shortTexts("a?=!< ", 6, func(s string) { checkParseCond(t, s) })
	shortTexts("a?( )", 5, func(s string) { checkParseCond(t, "not"+s) })
}

func TestSameCond(t *testing.T) {
	l := []impl.Cond{
		{}, {Kind: 6}, {Kind: -1}, {Left: "a"}, {Right: "a"}, {Left: "a", Right: "a"}, {Pattern: pattern("a")}, {Pattern: pattern("", "a")}, {Pattern: pattern("", "")},
		has("p(a)"), hasNot("p(a)"), has("q(a)"), has("p(b)"), has("p(a,b)"), has("p(b,a)"), has("p()"), has("p(?x)"), has("p(?y)"),
		{Kind: impl.CondHas, Pattern: patternOf("p(a)"), Left: "a"}, {Kind: impl.CondHas, Pattern: patternOf("p(a)"), Right: "a"},
		test(impl.CondSame, "a", "b"), test(impl.CondOther, "a", "b"), test(impl.CondLess, "a", "b"), test(impl.CondSame, "b", "a"), test(impl.CondSame, "a", "a"), test(impl.CondSame, "1", "b"), test(impl.CondSame, "01", "b"), test(9, "A", ""),
		{Kind: impl.CondSame, Pattern: patternOf("p(a)"), Left: "a", Right: "b"},
	}
	for i, a := range l {
		for j, b := range l {
			b.Pattern.Args = slices.Clone(b.Pattern.Args)
			if got := impl.SameCond(a, b); got != (i == j) {
				t.Errorf("SameCond(%+v, %+v) = %v", a, b, got)
			}
		}
	}
	empty := impl.Cond{Kind: impl.CondHas, Pattern: impl.Pattern{Rel: "z", Args: []string{}}}
	if !impl.SameCond(empty, has("z()")) || !impl.SameCond(has("z()"), empty) {
		t.Error("nil and empty Args differ")
	}
}

func TestRenameCond(t *testing.T) {
	full := impl.Cond{Kind: impl.CondHas, Pattern: patternOf("p(?x,?y,?x)"), Left: "?y", Right: "?x"}
	cases := []struct {
		x    impl.Cond
		to   string
		want impl.Cond
	}{
		{has("p(?x,a)"), "-", has("p(?x,a)")},
		{has("p(?x,a)"), "?x=b", has("p(b,a)")},
		{hasNot("p(?x,?y)"), "?x=?y ?y=?x", hasNot("p(?y,?x)")},
		{hasNot("p(?x,?y)"), "?x=?y ?y=?z ?z=?x", hasNot("p(?y,?z)")},
		{hasNot("p(?x,?y)"), "?y=?x ?x=?y", hasNot("p(?y,?x)")},
		{has("p(?x)"), "?x=?x", has("p(?x)")},
		{has("p(?x)"), "?x=?y ?y=a", has("p(?y)")},
		{has("p(?x)"), "?y=a ?x=?y", has("p(?y)")},
		{has("p(?x)"), "?x=a ?x=b", has("p(a)")},
		{has("p(?x)"), "?y=c ?x=b ?x=a ?y=d", has("p(b)")},
		{has("p(?x,?y)"), "?x=a ?x=b ?y=c ?y=d ?x=e", has("p(a,c)")},
		{has("p(?x,?x1,x)"), "?x=a", has("p(a,?x1,x)")},
		{has("p(p,?x)"), "p=q", has("p(q,?x)")},
		{has("p(a,1)"), "a=?x 1=?y", has("p(?x,?y)")},
		{has("p(a)"), "a=B", impl.Cond{Kind: impl.CondHas, Pattern: pattern("p", "B")}},
		{has("p(a)"), "a=", impl.Cond{Kind: impl.CondHas, Pattern: pattern("p", "")}},
		{has("z()"), "z=a ?x=b", has("z()")},
		{test(impl.CondSame, "?x", "?y"), "?x=?y ?y=?x", test(impl.CondSame, "?y", "?x")},
		{test(impl.CondOther, "?x", "?x"), "?x=1", test(impl.CondOther, "1", "1")},
		{test(impl.CondLess, "1", "?x"), "1=2 ?x=1 2=3", test(impl.CondLess, "2", "1")},
		{test(impl.CondLess, "?x", "?y"), "?z=a", test(impl.CondLess, "?x", "?y")},
		{full, "?x=?y ?y=a", impl.Cond{Kind: impl.CondHas, Pattern: patternOf("p(?y,a,?y)"), Left: "a", Right: "?y"}},
		{impl.Cond{Kind: -3, Pattern: pattern("A", "", "B", "c", "d"), Left: "", Right: "E"}, "=e A=f E= B=?x", impl.Cond{Kind: -3, Pattern: pattern("A", "e", "?x", "c", "d"), Left: "e", Right: ""}},
		{has("p(a)"), "=e", impl.Cond{Kind: impl.CondHas, Pattern: patternOf("p(a)"), Left: "e", Right: "e"}},
		{impl.Cond{}, "=e", test(0, "e", "e")},
		{impl.Cond{}, "?x=a", impl.Cond{}},
	}
	for _, c := range cases {
		if got := impl.RenameCond(c.x, pairsOf(c.to)); !equalConds(got, c.want) {
			t.Errorf("RenameCond(%+v, %s) = %+v", c.x, c.to, got)
		}
	}
}

func TestRenameCondIsUndone(t *testing.T) {
	to, back := pairsOf("?x=?y ?y=?z ?z=?x a=b b=a"), pairsOf("?y=?x ?z=?y ?x=?z a=b b=a")
	for _, args := range tuples(3, "?x", "?y", "?z", "?w", "a", "b", "") {
		x := impl.Cond{Kind: len(args), Pattern: pattern("a", args...)}
		if len(args) > 1 {
			x.Left, x.Right = args[1], args[0]
		}
		there := impl.RenameCond(x, to)
		if !slices.Equal(there.Pattern.Args, replaced(args, mapOf(to))) || there.Pattern.Rel != "a" || there.Kind != x.Kind {
			t.Fatalf("RenameCond(%+v) = %+v", x, there)
		}
		if got := impl.RenameCond(there, back); !equalConds(got, x) {
			t.Fatalf("%+v becomes %+v, and then %+v", x, there, got)
		}
	}
}

func roomyFacts(texts ...string) []impl.Fact {
	l := factsOf(append(slices.Clone(texts), "spare(s)", "behind()")...)
	for i, f := range l {
		l[i].Args = roomyTexts(f.Args...)
	}
	return l[:len(texts)]
}

func TestCondsStayAsTheyAre(t *testing.T) {
	x := impl.Cond{Kind: impl.CondNot, Pattern: pattern("p", roomyTexts("?y", "?x")...)}
	y := test(impl.CondLess, "?y", "1")
	b := roomyPairs("?y=0")
	to := roomyPairs("?x=?y ?y=?x")
	facts := roomyFacts("p(0,1)", "p(0)", "p(0,1)")
	overwriteFacts := func(l []impl.Fact) {
		for _, f := range l {
			overwrite(f.Args, "own")
		}
		overwrite(l, fact("own"))
	}
	calls := map[string]func(){
		"CondVars":            func() { overwrite(impl.CondVars(x), "own") },
		"MatchingFacts":       func() { overwriteFacts(impl.MatchingFacts(x.Pattern, b, facts)) },
		"MatchingFacts, none": func() { overwriteFacts(impl.MatchingFacts(pattern("q"), b, facts)) },
		"RenameCond":          func() { overwrite(impl.RenameCond(x, to).Pattern.Args, "own") },
		"RenameCond, no pair": func() { overwrite(impl.RenameCond(x, nil).Pattern.Args, "own") },
		"others": func() {
			impl.IsCond(x)
			impl.IsTest(y)
			impl.HoldsTest(y, b)
			impl.HoldsCond(x, b, facts)
			impl.HoldsCond(y, b, facts)
			impl.FormatCond(x)
			impl.SameCond(x, y)
		},
	}
	checkArguments(t, calls, func() []any {
		return []any{wholeList(x.Pattern.Args), wholeList(b), wholeList(to), wholeFacts(facts)}
	})
}

func TestMatchingFactsShareNoMemory(t *testing.T) {
	f := fact("p", "a", "b")
	got := impl.MatchingFacts(patternOf("p(?x,?y)"), nil, []impl.Fact{f, f})
	overwrite(got[0].Args, "own")
	if !slices.Equal(got[1].Args, []string{"a", "b"}) {
		t.Error(got)
	}
}

func TestReadCondsHaveTheirOwnMemory(t *testing.T) {
	first, _ := impl.ParseCond("not p(?x,a)")
	overwrite(first.Pattern.Args, "own")
	if second, ok := impl.ParseCond("not p(?x,a)"); !ok || !equalConds(second, hasNot("p(?x,a)")) {
		t.Error(second, ok)
	}
}
