package tests

import (
	"math"
	"math/rand"
	"slices"
	"strconv"
	"strings"
	"testing"

	"loop.example/g03015/impl"
)

// listOf reads facts that the test has written, separated by blanks (`-` for none), without the functions under test.
func listOf(text string) []impl.Fact {
	if text == "-" {
		return []impl.Fact{}
	}
	return factsOf(strings.Split(text, " ")...)
}

// tokenOf reads a token that the test has written: its Facts, a semicolon and its Binding.
func tokenOf(text string) impl.Token {
	facts, binding, _ := strings.Cut(text, "; ")
	return impl.Token{Facts: listOf(facts), Binding: pairsOf(binding)}
}

func tokensOf(texts []string) []impl.Token {
	l := []impl.Token{}
	for _, text := range texts {
		l = append(l, tokenOf(text))
	}
	return l
}

func matchOf(rule string, text string) impl.Match {
	return matchesOf(rule, []impl.Token{tokenOf(text)})[0]
}

func matchesOf(rule string, tokens []impl.Token) []impl.Match {
	l := []impl.Match{}
	for _, x := range tokens {
		l = append(l, impl.Match{Rule: rule, Facts: x.Facts, Binding: x.Binding})
	}
	return l
}

func equalTokens(a impl.Token, b impl.Token) bool {
	return equalFacts(a.Facts, b.Facts) && slices.Equal(a.Binding, b.Binding)
}

func equalMatches(a impl.Match, b impl.Match) bool {
	return a.Rule == b.Rule && equalFacts(a.Facts, b.Facts) && slices.Equal(a.Binding, b.Binding)
}

// The tokens behind no conditions, behind the first one, and so on to all of them.
var matchings = []struct {
	rule   string
	facts  string
	tokens [][]string
}{
	{"r1 1: on(?x,?y) & on(?y,?z) -> add on(?x,?z)", "on(a,b) on(b,c)", [][]string{
		{"-; -"}, {"on(a,b); ?x=a ?y=b", "on(b,c); ?x=b ?y=c"}, {"on(a,b) on(b,c); ?x=a ?y=b ?z=c"},
	}},
	{"r 1: z() -> stop", "z()", [][]string{{"-; -"}, {"z(); -"}}},
	{"r 1: z() -> stop", "y() z(a)", [][]string{{"-; -"}, {}}},
	{"r 1: on(a,1) & on(b) -> stop", "on(a) on(a,1) on(a,1,1) on(b)", [][]string{{"-; -"}, {"on(a,1); -"}, {"on(a,1) on(b); -"}}},
	{"r 1: p(?x) -> stop", "n(a) p() p(9) p(10) p(a) p(a,a) pp(a)", [][]string{{"-; -"}, {"p(9); ?x=9", "p(10); ?x=10", "p(a); ?x=a"}}},
	// the pairs are in the order of the variables, not of their first places
	{"r 1: p(?b,?a) & q(?9,?10,?a) -> stop", "p(1,2) p(2,1) q(3,4,1) q(4,3,2)", [][]string{
		{"-; -"}, {"p(1,2); ?a=2 ?b=1", "p(2,1); ?a=1 ?b=2"}, {"p(1,2) q(4,3,2); ?10=3 ?9=4 ?a=2 ?b=1", "p(2,1) q(3,4,1); ?10=4 ?9=3 ?a=1 ?b=2"},
	}},
	// several facts for the later conditions, with the numbers in the order of their values
	{"r 1: q(?y) & p(?x) -> stop", "p(2) p(10) p(007) q(9) q(a)", [][]string{
		{"-; -"}, {"q(9); ?y=9", "q(a); ?y=a"},
		{"q(9) p(2); ?x=2 ?y=9", "q(9) p(10); ?x=10 ?y=9", "q(9) p(007); ?x=007 ?y=9", "q(a) p(2); ?x=2 ?y=a", "q(a) p(10); ?x=10 ?y=a", "q(a) p(007); ?x=007 ?y=a"},
	}},
	{"r 1: p(?x) & q(?x,?y) & p(?y) -> stop", "p(a) p(b) q(a,b) q(a,c) q(b,a) q(b,b) q(c,a)", [][]string{
		{"-; -"}, {"p(a); ?x=a", "p(b); ?x=b"},
		{"p(a) q(a,b); ?x=a ?y=b", "p(a) q(a,c); ?x=a ?y=c", "p(b) q(b,a); ?x=b ?y=a", "p(b) q(b,b); ?x=b ?y=b"},
		{"p(a) q(a,b) p(b); ?x=a ?y=b", "p(b) q(b,a) p(a); ?x=b ?y=a", "p(b) q(b,b) p(b); ?x=b ?y=b"},
	}},
	// a variable twice in one pattern: first there, bound before it in a part, or altogether
	{"r 1: p(?x,?x) -> stop", "p(a,a) p(a,b) p(b,a) p(b,b)", [][]string{{"-; -"}, {"p(a,a); ?x=a", "p(b,b); ?x=b"}}},
	{"r 1: q(?y) & p(?x,?y,?x) -> stop", "p(a,a,a) p(a,b,a) p(a,b,b) p(b,b,a) q(a) q(b)", [][]string{
		{"-; -"}, {"q(a); ?y=a", "q(b); ?y=b"}, {"q(a) p(a,a,a); ?x=a ?y=a", "q(b) p(a,b,a); ?x=a ?y=b"},
	}},
	{"r 1: q(?x) & p(?x,?x) -> stop", "p(a,a) p(a,b) p(b,a) q(a) q(b)", [][]string{{"-; -"}, {"q(a); ?x=a", "q(b); ?x=b"}, {"q(a) p(a,a); ?x=a"}}},
	// one fact for two conditions, and for all four
	{"r 1: p(?x) & p(?y) -> stop", "p(a) p(b)", [][]string{
		{"-; -"}, {"p(a); ?x=a", "p(b); ?x=b"}, {"p(a) p(a); ?x=a ?y=a", "p(a) p(b); ?x=a ?y=b", "p(b) p(a); ?x=b ?y=a", "p(b) p(b); ?x=b ?y=b"},
	}},
	{"r 1: p(?x) & p(?x) & p(a) & p(?y) -> stop", "p(a)", [][]string{
		{"-; -"}, {"p(a); ?x=a"}, {"p(a) p(a); ?x=a"}, {"p(a) p(a) p(a); ?x=a"}, {"p(a) p(a) p(a) p(a); ?x=a ?y=a"},
	}},
	{"r 1: z() & z() -> stop", "z()", [][]string{{"-; -"}, {"z(); -"}, {"z() z(); -"}}},
	// an absence for some tokens only: of a bound variable, of one without a value, of both, and of none
	{"r 1: p(?x) & not q(?x) -> stop", "p(a) p(b) p(c) q(b)", [][]string{{"-; -"}, {"p(a); ?x=a", "p(b); ?x=b", "p(c); ?x=c"}, {"p(a); ?x=a", "p(c); ?x=c"}}},
	{"r 1: p(?x) & not q(?z) -> stop", "p(a) p(b) q(b)", [][]string{{"-; -"}, {"p(a); ?x=a", "p(b); ?x=b"}, {}}},
	{"r 1: p(?x) & not q(?z) -> stop", "p(a) p(b) q() q(a,b)", [][]string{{"-; -"}, {"p(a); ?x=a", "p(b); ?x=b"}, {"p(a); ?x=a", "p(b); ?x=b"}}},
	{"r2 1: on(?x,?y) & not on(?y,?z) -> add q(?y)", "on(a,b) on(b,c) on(c,c)", [][]string{{"-; -"}, {"on(a,b); ?x=a ?y=b", "on(b,c); ?x=b ?y=c", "on(c,c); ?x=c ?y=c"}, {}}},
	{"r2 1: on(?x,?y) & not on(?y,?z) -> add q(?y)", "on(a,b) on(a,c) on(b,d)", [][]string{
		{"-; -"}, {"on(a,b); ?x=a ?y=b", "on(a,c); ?x=a ?y=c", "on(b,d); ?x=b ?y=d"}, {"on(a,c); ?x=a ?y=c", "on(b,d); ?x=b ?y=d"},
	}},
	{"r 1: p(?x) & not q(?z,?x,?z) -> stop", "p(a) p(b) q(a,a,b) q(a,b,a)", [][]string{{"-; -"}, {"p(a); ?x=a", "p(b); ?x=b"}, {"p(a); ?x=a"}}},
	{"r 1: p(?x) & not p(?z) -> stop", "p(a)", [][]string{{"-; -"}, {"p(a); ?x=a"}, {}}},
	{"r 1: p(?x) & not z() -> stop", "p(a)", [][]string{{"-; -"}, {"p(a); ?x=a"}, {"p(a); ?x=a"}}},
	{"r 1: p(?x) & not z() -> stop", "p(a) z()", [][]string{{"-; -"}, {"p(a); ?x=a"}, {}}},
	// an absence before a presence, and absences side by side
	{"r 1: p(?x) & not q(?x) & p(?y) & not q(?z,?y) -> stop", "p(a) p(b) q(b) q(c,a)", [][]string{
		{"-; -"}, {"p(a); ?x=a", "p(b); ?x=b"}, {"p(a); ?x=a"}, {"p(a) p(a); ?x=a ?y=a", "p(a) p(b); ?x=a ?y=b"}, {"p(a) p(b); ?x=a ?y=b"},
	}},
	{"r 1: p(?x) & not q(?x) & not q(?x,?z) -> stop", "p(a) p(b) p(c) q(a) q(b,c)", [][]string{
		{"-; -"}, {"p(a); ?x=a", "p(b); ?x=b", "p(c); ?x=c"}, {"p(b); ?x=b", "p(c); ?x=c"}, {"p(c); ?x=c"},
	}},
	// a test for some tokens only
	{"r 1: p(?x) & ?x = a -> stop", "p(a) p(b)", [][]string{{"-; -"}, {"p(a); ?x=a", "p(b); ?x=b"}, {"p(a); ?x=a"}}},
	{"r 1: p(?x) & p(?y) & ?x != ?y -> stop", "p(a) p(b)", [][]string{
		{"-; -"}, {"p(a); ?x=a", "p(b); ?x=b"}, {"p(a) p(a); ?x=a ?y=a", "p(a) p(b); ?x=a ?y=b", "p(b) p(a); ?x=b ?y=a", "p(b) p(b); ?x=b ?y=b"},
		{"p(a) p(b); ?x=a ?y=b", "p(b) p(a); ?x=b ?y=a"},
	}},
	{"r 1: p(?x) & ?x < 10 & q(?y) & ?x < ?y -> stop", "p(2) p(9) p(10) p(007) p(a) q(3) q(9)", [][]string{
		{"-; -"}, {"p(2); ?x=2", "p(9); ?x=9", "p(10); ?x=10", "p(007); ?x=007", "p(a); ?x=a"}, {"p(2); ?x=2", "p(9); ?x=9"},
		{"p(2) q(3); ?x=2 ?y=3", "p(2) q(9); ?x=2 ?y=9", "p(9) q(3); ?x=9 ?y=3", "p(9) q(9); ?x=9 ?y=9"}, {"p(2) q(3); ?x=2 ?y=3", "p(2) q(9); ?x=2 ?y=9"},
	}},
	{"r 1: p(?x) & 1 < 2 & 2 < 1 -> stop", "p(a)", [][]string{{"-; -"}, {"p(a); ?x=a"}, {"p(a); ?x=a"}, {}}},
	// no token behind a condition in the middle, whatever stands behind it
	{"r 1: p(?x) & q(?x) & p(?y) & not q(?y) -> stop", "p(a) p(b) q(c)", [][]string{{"-; -"}, {"p(a); ?x=a", "p(b); ?x=b"}, {}, {}, {}}},
	{"r 1: p(?x) & p(?y) & ?y = c & p(?z) -> stop", "p(a)", [][]string{{"-; -"}, {"p(a); ?x=a"}, {"p(a) p(a); ?x=a ?y=a"}, {}, {}}},
	{"r 1: q(?x) & p(?y) & not p(b) -> stop", "p(a)", [][]string{{"-; -"}, {}, {}, {}}},
	// no facts: also an absence holds for no token then, since the first condition is a presence
	{"r 1: p(?x) & not q(?x) -> stop", "-", [][]string{{"-; -"}, {}, {}}},
	{"r 1: z() & a = a -> stop", "-", [][]string{{"-; -"}, {}, {}}},
	// MaxVars variables, of which some are only in an absence
	{"r 1: p(?f,?e,?d) & p(?c,?b,?a) & not q(?a) & ?a < ?f -> stop", "p(1,2,3) p(4,5,6) q(6)", [][]string{
		{"-; -"}, {"p(1,2,3); ?d=3 ?e=2 ?f=1", "p(4,5,6); ?d=6 ?e=5 ?f=4"},
		{"p(1,2,3) p(1,2,3); ?a=3 ?b=2 ?c=1 ?d=3 ?e=2 ?f=1", "p(1,2,3) p(4,5,6); ?a=6 ?b=5 ?c=4 ?d=3 ?e=2 ?f=1", "p(4,5,6) p(1,2,3); ?a=3 ?b=2 ?c=1 ?d=6 ?e=5 ?f=4", "p(4,5,6) p(4,5,6); ?a=6 ?b=5 ?c=4 ?d=6 ?e=5 ?f=4"},
		{"p(1,2,3) p(1,2,3); ?a=3 ?b=2 ?c=1 ?d=3 ?e=2 ?f=1", "p(4,5,6) p(1,2,3); ?a=3 ?b=2 ?c=1 ?d=6 ?e=5 ?f=4"},
		{"p(4,5,6) p(1,2,3); ?a=3 ?b=2 ?c=1 ?d=6 ?e=5 ?f=4"},
	}},
	{"r 1: p(?x,?y,?z) & not q(?a,?b,?c) & not p(?y,?z,?x) -> stop", "p(1,1,1) p(1,2,3) p(2,3,1) p(3,2,1) q(1)", [][]string{
		{"-; -"}, {"p(1,1,1); ?x=1 ?y=1 ?z=1", "p(1,2,3); ?x=1 ?y=2 ?z=3", "p(2,3,1); ?x=2 ?y=3 ?z=1", "p(3,2,1); ?x=3 ?y=2 ?z=1"},
		{"p(1,1,1); ?x=1 ?y=1 ?z=1", "p(1,2,3); ?x=1 ?y=2 ?z=3", "p(2,3,1); ?x=2 ?y=3 ?z=1", "p(3,2,1); ?x=3 ?y=2 ?z=1"},
		{"p(2,3,1); ?x=2 ?y=3 ?z=1", "p(3,2,1); ?x=3 ?y=2 ?z=1"},
	}},
}

func TestTokensAndMatches(t *testing.T) {
	for _, c := range matchings {
		tokens := [][]impl.Token{}
		for _, texts := range c.tokens {
			tokens = append(tokens, tokensOf(texts))
		}
		checkMatching(t, ruleOf(c.rule), listOf(c.facts), tokens)
	}
}

// checkMatching checks all that chapter 6 says of one rule and a fact set, where tokens holds the tokens
// of no conditions, of the first one, and so on.
func checkMatching(t *testing.T, r impl.Rule, facts []impl.Fact, tokens [][]impl.Token) {
	t.Helper()
	if len(tokens) != len(r.If)+1 {
		t.Fatalf("%+v has %d conditions", r, len(r.If))
	}
	counts, deepest := []int{}, 0
	for n, want := range tokens {
		got := impl.TokensOf(r, n, facts)
		if !slices.EqualFunc(got, want, equalTokens) {
			t.Fatalf("TokensOf(%+v, %d, %q) = %q, not %q", r, n, facts, got, want)
		}
		for i := range len(got) - 1 {
			if impl.CompareTokens(got[i], got[i+1]) != -1 {
				t.Fatalf("TokensOf(%+v, %d, %q) are out of order: %q", r, n, facts, got)
			}
		}
		counts = append(counts, len(want))
		if len(want) > 0 {
			deepest = n
		}
	}
	if got := impl.TokenCounts(r, facts); !slices.Equal(got, counts) {
		t.Fatalf("TokenCounts(%+v, %q) = %v, not %v", r, facts, got, counts)
	}
	if got := impl.DeepestCond(r, facts); got != deepest {
		t.Fatalf("DeepestCond(%+v, %q) = %d, not %d", r, facts, got, deepest)
	}
	checkMatchesOf(t, r, facts, matchesOf(r.Name, tokens[len(r.If)]))
}

func checkMatchesOf(t *testing.T, r impl.Rule, facts []impl.Fact, want []impl.Match) {
	t.Helper()
	if got := impl.MatchesOf(r, facts); !slices.EqualFunc(got, want, equalMatches) {
		t.Fatalf("MatchesOf(%+v, %q) = %q, not %q", r, facts, got, want)
	}
	if got := impl.AllMatches([]impl.Rule{r}, facts); !slices.EqualFunc(got, want, equalMatches) {
		t.Fatalf("AllMatches of %+v alone in %q = %q, not %q", r, facts, got, want)
	}
	for _, m := range want {
		if !impl.IsMatch(r, facts, m) {
			t.Fatalf("IsMatch(%+v, %q, %q) = false", r, facts, m)
		}
	}
}

func TestNoTokensOfOtherNumbersOfConds(t *testing.T) {
	for _, c := range matchings {
		r, facts := ruleOf(c.rule), listOf(c.facts)
		for _, n := range []int{math.MinInt, -1 << 32, -100, -2, -1, len(r.If) + 1, len(r.If) + 2, 5, 6, 100, 1 << 32, 1<<32 + 1, math.MaxInt} {
			if got := impl.TokensOf(r, n, facts); len(got) != 0 {
				t.Errorf("TokensOf(%s, %d, %s) = %q", c.rule, n, c.facts, got)
			}
		}
	}
}

// valuesOf gives the variables of the presences the values under which they are the facts of a list, one fact for
// each presence, in order; false if there are none.
func valuesOf(conds []impl.Cond, list []impl.Fact) (map[string]string, bool) {
	values, texts, args := map[string]string{}, []string{}, []string{}
	for _, x := range conds {
		if x.Kind != impl.CondHas {
			continue
		}
		if x.Pattern.Rel != list[0].Rel || len(x.Pattern.Args) != len(list[0].Args) {
			return nil, false
		}
		args, texts, list = append(args, x.Pattern.Args...), append(texts, list[0].Args...), list[1:]
	}
	for i, arg := range args {
		if arg[0] == '?' {
			values[arg] = texts[i]
		}
	}
	return values, slices.Equal(replaced(args, values), texts)
}

// holdsAgain tells a second time whether an absence or a test holds: the atoms of the facts are a, b and 1.
func holdsAgain(x impl.Cond, values map[string]string, facts []impl.Fact) bool {
	if x.Kind == impl.CondNot {
		return !slices.ContainsFunc(facts, func(f impl.Fact) bool {
			tried := map[string]string{}
			for v, value := range values {
				tried[v] = value
			}
			return f.Rel == x.Pattern.Rel && becomes(x.Pattern.Args, without(x.Pattern.Args, tried), []string{"a", "b", "1"}, tried, f.Args)
		})
	}
	sides := replaced([]string{x.Left, x.Right}, values)
	switch x.Kind {
	case impl.CondSame:
		return sides[0] == sides[1]
	case impl.CondOther:
		return sides[0] != sides[1]
	}
	return isLess(sides[0], sides[1])
}

func pairsOfValues(values map[string]string) []impl.Pair {
	b := []impl.Pair{}
	for v, value := range values {
		b = append(b, impl.Pair{Var: v, Value: value})
	}
	slices.SortFunc(b, func(x impl.Pair, y impl.Pair) int { return strings.Compare(x.Var, y.Var) })
	return b
}

// tokensAgain tells the tokens a second time: it goes through all lists of facts, in order, with one fact for each
// presence, and keeps those under whose values all conditions hold.
func tokensAgain(conds []impl.Cond, facts []impl.Fact) []impl.Token {
	presences := 0
	for _, x := range conds {
		if x.Kind == impl.CondHas {
			presences++
		}
	}
	l := []impl.Token{}
	for _, list := range tuples(presences, facts...) {
		if len(list) < presences {
			continue
		}
		values, ok := valuesOf(conds, list)
		if ok && !slices.ContainsFunc(conds, func(x impl.Cond) bool { return x.Kind != impl.CondHas && !holdsAgain(x, values, facts) }) {
			l = append(l, impl.Token{Facts: list, Binding: pairsOfValues(values)})
		}
	}
	return l
}

func checkMatchingAgain(t *testing.T, r impl.Rule, facts []impl.Fact) {
	t.Helper()
	tokens := [][]impl.Token{}
	for n := range len(r.If) + 1 {
		tokens = append(tokens, tokensAgain(r.If[:n], facts))
	}
	checkMatching(t, r, facts, tokens)
}

var (
	condsToMatch = []string{
		"p(a)", "p(?x)", "p(?y)", "p(?x,?y)", "p(?y,?x)", "p(?x,?x)", "p(1,?x)",
		"not p(b)", "not p(?x)", "not p(?y,?x)", "not p(?x,?z)", "not p(?w,?w)", "?x = a", "?x != ?y", "?y < ?x", "?x < 1",
	}
	factsToMatch = []string{
		"-", "p(a)", "p(b) z()", "p(a) p(a,b)", "p(1) p(1,1) p(a)", "p(1) p(1,a) p(1,b) p(b) p(b,a)", "p(1) p(1,1) p(1,b) p(a) p(a,a) p(b)", "p(1,b) p(a,1) p(b,a)", "p() p(a) p(a,a,a) q(b)",
	}
)

// validRule returns the rule with these conditions; false if it is not valid.
func validRule(conds []string) (impl.Rule, bool) {
	if len(conds) == 0 {
		return impl.Rule{}, false
	}
	r := ruleOf("r 1: " + strings.Join(conds, " & ") + " -> stop")
	return r, impl.IsRule(r)
}

func TestMatchesAreTheFactsForWhichAllCondsHold(t *testing.T) {
	tried := 0
	for _, conds := range tuples(3, condsToMatch...) {
		r, ok := validRule(conds)
		if !ok {
			continue
		}
		tried++
		for _, facts := range factsToMatch {
			checkMatchingAgain(t, r, listOf(facts))
		}
	}
	if tried < 500 {
		t.Errorf("only %d valid rules were tried", tried)
	}
}

// someFacts returns a fact set of up to count facts.
func someFacts(random *rand.Rand, count int) []impl.Fact {
	all := []impl.Fact{}
	for _, args := range tuples(2, "1", "a", "b") {
		all = append(all, fact("p", args...))
	}
	random.Shuffle(len(all), func(i int, j int) { all[i], all[j] = all[j], all[i] })
	facts := all[:random.Intn(count+1)]
	slices.SortFunc(facts, impl.CompareFacts)
	return facts
}

func TestMatchesOfRulesWithFourConds(t *testing.T) {
	random := rand.New(rand.NewSource(6))
	for tried := 0; tried < 2000; {
		conds := []string{}
		for range 4 {
			conds = append(conds, condsToMatch[random.Intn(len(condsToMatch))])
		}
		if r, ok := validRule(conds); ok {
			tried++
			checkMatchingAgain(t, r, someFacts(random, 6))
		}
	}
}

// As many facts as there may be, in each place: all of the tokens, in order.
func TestTokensOfAFullFactSet(t *testing.T) {
	facts := numbered(24)
	checkMatchingAgain(t, ruleOf("r 1: n(?x) & n(?y) & ?y < ?x & not n(?y,?x) -> stop"), facts)
	r := ruleOf("r 1: n(?x) & n(?y) & n(?z) -> stop")
	l := impl.TokensOf(r, 3, facts)
	if len(l) != 24*24*24 {
		t.Fatal(len(l))
	}
	for i, x := range l {
		places := []string{strconv.Itoa(i / 576), strconv.Itoa(i / 24 % 24), strconv.Itoa(i % 24)}
		want := tokenOf("n(" + strings.Join(places, ") n(") + "); ?x=" + places[0] + " ?y=" + places[1] + " ?z=" + places[2])
		if !equalTokens(x, want) {
			t.Fatalf("%d: %q", i, x)
		}
	}
	if got := impl.TokenCounts(r, facts); !slices.Equal(got, []int{1, 24, 576, 24 * 24 * 24}) {
		t.Error(got)
	}
}

// checkNoMatching checks what is told of a rule that is not valid, or of a list that is no fact set.
func checkNoMatching(t *testing.T, r impl.Rule, facts []impl.Fact) {
	t.Helper()
	for n := range len(r.If) + 2 {
		if got := impl.TokensOf(r, n, facts); len(got) != 0 {
			t.Errorf("TokensOf(%+v, %d, %q) = %q", r, n, facts, got)
		}
	}
	if got := impl.MatchesOf(r, facts); len(got) != 0 {
		t.Errorf("MatchesOf(%+v, %q) = %q", r, facts, got)
	}
	if got := impl.AllMatches([]impl.Rule{r}, facts); len(got) != 0 {
		t.Errorf("AllMatches of %+v alone in %q = %q", r, facts, got)
	}
	if got := impl.TokenCounts(r, facts); len(got) != 0 {
		t.Errorf("TokenCounts(%+v, %q) = %v", r, facts, got)
	}
	if got := impl.DeepestCond(r, facts); got != 0 {
		t.Errorf("DeepestCond(%+v, %q) = %d", r, facts, got)
	}
	for _, m := range []impl.Match{{Rule: r.Name}, {}} {
		if impl.IsMatch(r, facts, m) {
			t.Errorf("IsMatch(%+v, %q, %q) = true", r, facts, m)
		}
	}
	for _, f := range facts {
		for _, b := range [][]impl.Pair{nil, pairsOf("?x=a"), pairsOf("?x=1")} {
			if m := (impl.Match{Rule: r.Name, Facts: []impl.Fact{f}, Binding: b}); impl.IsMatch(r, facts, m) {
				t.Errorf("IsMatch(%+v, %q, %q) = true", r, facts, m)
			}
		}
	}
}

func TestNothingMatchesRulesThatAreNotValid(t *testing.T) {
	facts := factsOf("p(1)", "p(a)", "q(a)", "z()")
	for _, text := range lawlessRules {
		checkNoMatching(t, ruleOf(text), facts)
	}
	acts := []impl.Action{stops()}
	for _, name := range noNames {
		checkNoMatching(t, impl.Rule{Name: name, If: []impl.Cond{has("p(?x)")}, Then: acts}, facts)
	}
	for _, x := range noConds() {
		checkNoMatching(t, impl.Rule{Name: "r", If: []impl.Cond{x}, Then: acts}, facts)
		checkNoMatching(t, impl.Rule{Name: "r", If: []impl.Cond{has("p(?x)"), x}, Then: acts}, facts)
	}
	for _, r := range []impl.Rule{{}, oddRule(), {Name: "r", If: []impl.Cond{has("p(a)")}}, {Name: "r", If: []impl.Cond{has("p(a)")}, Then: make([]impl.Action, 1)}, {Name: "r", Then: acts},
		{Name: "r", Priority: -1, If: []impl.Cond{has("p(a)")}, Then: acts}, {Name: "r", Priority: 10, If: []impl.Cond{has("p(?x)")}, Then: acts}} {
		checkNoMatching(t, r, facts)
		checkNoMatching(t, r, nil)
	}
}

func TestNothingMatchesInListsThatAreNoFactSets(t *testing.T) {
	rules := rulesOf("r 1: a() -> stop", "r 1: a(?x) -> stop", "r 1: n(?x) -> stop", "r 1: n(0) & not z() -> stop", "r 1: b() -> stop", "r 1: c() & 1 < 2 -> stop", "r 1: p(a) -> stop")
	for _, l := range noFactSets() {
		for _, r := range rules {
			checkNoMatching(t, r, l)
		}
		if got := impl.AllMatches(rulesOf("r 1: a() -> stop", "s 1: n(?x) -> stop"), l); len(got) != 0 {
			t.Errorf("AllMatches in %q = %q", l, got)
		}
	}
}

func TestAllMatches(t *testing.T) {
	facts := factsOf("p(a)", "p(b)", "q(a)")
	rules := rulesOf("s 1: p(?y) -> stop", "r 9: p(?x) -> add q(?x)", "t 5: z() -> stop", "u 0: q(?x) & p(?x) -> stop", "a 0: p(?x) & not q(?x) -> add q(?x)")
	want := []impl.Match{
		matchOf("s", "p(a); ?y=a"), matchOf("s", "p(b); ?y=b"), matchOf("r", "p(a); ?x=a"), matchOf("r", "p(b); ?x=b"), matchOf("u", "q(a) p(a); ?x=a"), matchOf("a", "p(b); ?x=b"),
	}
	if got := impl.AllMatches(rules, facts); !slices.EqualFunc(got, want, equalMatches) {
		t.Errorf("%q", got)
	}
	if got := impl.AllMatches(rules, nil); len(got) != 0 {
		t.Errorf("without facts: %q", got)
	}
	for _, none := range [][]impl.Rule{nil, {}} {
		if got := impl.AllMatches(none, facts); len(got) != 0 {
			t.Errorf("without rules: %q", got)
		}
	}
}

// Rules that differ in their Names only have the same Facts, rule by rule.
func TestAllMatchesOfEqualRules(t *testing.T) {
	facts := factsOf("p(a)", "p(b)")
	rules, want := []impl.Rule{}, []impl.Match{}
	for _, name := range []string{"f", "c", "e", "b", "d", "a"} {
		rules = append(rules, ruleOf(name+" 1: p(?x) -> stop"))
		want = append(want, matchOf(name, "p(a); ?x=a"), matchOf(name, "p(b); ?x=b"))
		if got := impl.AllMatches(rules, facts); !slices.EqualFunc(got, want, equalMatches) {
			t.Errorf("%d rules: %q", len(rules), got)
		}
	}
	for _, l := range [][]impl.Rule{
		append(slices.Clone(rules), ruleOf("g 1: p(?x) -> stop")), // more than MaxRules
		rulesOf("r 1: p(?x) -> stop", "r 1: p(?x) -> stop"),
		rulesOf("r 1: p(?x) -> stop", "s 1: p(?x) -> stop", "r 2: p(?y) -> add p(?y)"),
		rulesOf("r 1: p(?x) -> stop", "s 1: p(?x) -> add p(?y)"),
		rulesOf("s 1: not p(?x) -> stop", "r 1: p(?x) -> stop"),
		{rules[0], {}},
	} {
		if got := impl.AllMatches(l, facts); len(got) != 0 {
			t.Errorf("AllMatches(%+v) = %q", l, got)
		}
	}
}

func TestAllMatchesAreThoseOfEachRule(t *testing.T) {
	random := rand.New(rand.NewSource(7))
	for range 300 {
		rules, want := []impl.Rule{}, []impl.Match{}
		facts := someFacts(random, 8)
		for len(rules) < 4 {
			r, ok := validRule([]string{"p(?x,?y)", condsToMatch[random.Intn(len(condsToMatch))]})
			if ok {
				r.Name = string(rune('z' - len(rules)))
				rules = append(rules, r)
				want = append(want, matchesOf(r.Name, tokensAgain(r.If, facts))...)
			}
		}
		if got := impl.AllMatches(rules, facts); !slices.EqualFunc(got, want, equalMatches) {
			t.Fatalf("AllMatches(%+v, %q) = %q", rules, facts, got)
		}
	}
}

// Lists of Facts in the order of CompareTokens, also of such as are not valid.
func tokensInOrder() []impl.Token {
	l := []impl.Token{{}}
	l = append(l, impl.Token{Facts: []impl.Fact{{}}}, impl.Token{Facts: []impl.Fact{{}, {}}}, impl.Token{Facts: []impl.Fact{{}, fact("a")}}, impl.Token{Facts: []impl.Fact{fact("P", "?x")}})
	for _, text := range []string{"a()", "a() a()", "a() a() a()", "a() a() b()", "a() a(9)", "a() a(10)", "a() b()", "a() b() a()", "a(9)", "a(9) z()", "a(10)", "a(10) a()", "a(10) a(9)", "a(10) a(10)", "a(10) a(007)", "a(a)", "a(a) a()", "a(a,a)", "b()", "b() a()", "b() a() a() a() a() a()", "b() b()"} {
		l = append(l, impl.Token{Facts: listOf(text)})
	}
	return l
}

func TestCompareTokensHasOneOrder(t *testing.T) {
	checkOneOrder(t, "CompareTokens", tokensInOrder(), impl.CompareTokens)
}

func TestCompareTokensDoesNotSeeBindings(t *testing.T) {
	bindings := [][]impl.Pair{nil, {}, pairsOf("?x=a"), pairsOf("?x=b"), pairsOf("?x=a ?y=a"), pairsOf("?1=a"), {{}}, pairsOf("?y=b ?x=a")}
	for _, a := range bindings {
		for _, b := range bindings {
			checkOneOrder(t, "CompareTokens", []impl.Token{{Binding: a}, {Facts: listOf("p(a)"), Binding: b}, {Facts: listOf("p(a) p(a)"), Binding: a}, {Facts: listOf("p(b)"), Binding: b}}, func(x impl.Token, y impl.Token) int {
				got := impl.CompareTokens(x, y)
				x.Binding, y.Binding = y.Binding, x.Binding
				if impl.CompareTokens(x, y) != got {
					t.Errorf("%q and %q with their Bindings exchanged", x, y)
				}
				return got
			})
			if impl.CompareTokens(impl.Token{Facts: listOf("p(a)"), Binding: a}, impl.Token{Facts: listOf("p(a)"), Binding: b}) != 0 {
				t.Errorf("%q and %q matter", a, b)
			}
		}
	}
	if impl.CompareTokens(impl.Token{}, impl.Token{Facts: []impl.Fact{}}) != 0 || impl.CompareTokens(impl.Token{Facts: []impl.Fact{{Rel: "z"}}}, impl.Token{Facts: []impl.Fact{{Rel: "z", Args: []string{}}}}) != 0 {
		t.Error("nil and empty lists differ")
	}
}

// differentMatches returns matches of which no two are equal.
func differentMatches() []impl.Match {
	l := []impl.Match{{}, {Rule: "?"}, {Facts: make([]impl.Fact, 1)}, {Facts: make([]impl.Fact, 2)}, {Binding: make([]impl.Pair, 1)}, {Binding: make([]impl.Pair, 2)}, {Facts: []impl.Fact{fact("", "")}}, {Binding: []impl.Pair{{Value: "A"}}}, {Binding: []impl.Pair{{Var: "A"}}}}
	for _, name := range []string{"", "r", "s", "R"} {
		for _, text := range []string{"-; ?x=a", "p(a); -", "p(a); ?x=a", "p(a); ?x=b", "p(a); ?y=a", "p(b); ?x=a", "p(a,a); ?x=a", "q(a); ?x=a", "p(a); ?x=a ?y=a", "p(a); ?y=a ?x=a", "p(a) p(a); ?x=a", "p(a) p(b); ?x=a", "p(b) p(a); ?x=a", "p(a); ?x=a ?x=a"} {
			l = append(l, matchOf(name, text))
		}
	}
	return l
}

func copyMatch(m impl.Match) impl.Match {
	m.Facts, m.Binding = slices.Clone(m.Facts), slices.Clone(m.Binding)
	for i := range m.Facts {
		m.Facts[i].Args = slices.Clone(m.Facts[i].Args)
	}
	return m
}

func TestSameMatch(t *testing.T) {
	l := differentMatches()
	for i, a := range l {
		for j, b := range l {
			if got := impl.SameMatch(a, copyMatch(b)); got != (i == j) {
				t.Errorf("SameMatch(%q, %q) = %v", a, b, got)
			}
		}
	}
	empty := impl.Match{Facts: []impl.Fact{}, Binding: []impl.Pair{}}
	if !impl.SameMatch(empty, impl.Match{}) || !impl.SameMatch(impl.Match{}, empty) {
		t.Error("nil and empty lists differ")
	}
	if !impl.SameMatch(impl.Match{Facts: []impl.Fact{{Rel: "z"}}}, impl.Match{Facts: []impl.Fact{{Rel: "z", Args: []string{}}}}) {
		t.Error("nil and empty Args differ")
	}
}

func TestIsMatch(t *testing.T) {
	r, facts := ruleOf("r 1: p(?x) & p(?y) & ?x != ?y -> stop"), factsOf("p(a)", "p(b)", "q(a)")
	for _, text := range []string{"p(a) p(b); ?x=a ?y=b", "p(b) p(a); ?x=b ?y=a"} {
		if !impl.IsMatch(r, facts, matchOf("r", text)) {
			t.Errorf("%s is no match", text)
		}
	}
	for _, m := range []impl.Match{
		matchOf("s", "p(a) p(b); ?x=a ?y=b"), matchOf("", "p(a) p(b); ?x=a ?y=b"), matchOf("R", "p(b) p(a); ?x=b ?y=a"), // the Rule
		// the Facts
		matchOf("r", "p(b) p(a); ?x=a ?y=b"), matchOf("r", "p(a) p(c); ?x=a ?y=b"), matchOf("r", "p(a); ?x=a ?y=b"), matchOf("r", "p(a) p(b) p(b); ?x=a ?y=b"), matchOf("r", "-; ?x=a ?y=b"), matchOf("r", "p(a) q(b); ?x=a ?y=b"), matchOf("r", "p(a) p(b) q(a); ?x=a ?y=b"),
		// the Binding
		matchOf("r", "p(a) p(b); ?x=b ?y=a"), matchOf("r", "p(a) p(b); ?x=a"), matchOf("r", "p(a) p(b); -"), matchOf("r", "p(a) p(b); ?y=b ?x=a"), matchOf("r", "p(a) p(b); ?x=a ?y=b ?z=c"), matchOf("r", "p(a) p(b); ?x=a ?z=b"),
		// tokens that the test does not let through, or of fewer conditions
		matchOf("r", "p(a) p(a); ?x=a ?y=a"), matchOf("r", "p(b) p(b); ?x=b ?y=b"), matchOf("r", "p(a); ?x=a"), matchOf("r", "-; -"), {},
		// facts that are not there
		matchOf("r", "p(a) p(c); ?x=a ?y=c"), matchOf("r", "p(c) p(a); ?x=c ?y=a"),
	} {
		if impl.IsMatch(r, facts, m) {
			t.Errorf("%q is a match", m)
		}
	}
	m := matchOf("r", "p(a) p(b); ?x=a ?y=b")
	if impl.IsMatch(r, factsOf("p(b)", "p(a)"), m) || impl.IsMatch(r, nil, m) || impl.IsMatch(r, factsOf("p(a)"), m) {
		t.Error("a match in other facts")
	}
	if impl.IsMatch(ruleOf("r 1: p(?x) & p(?y) & ?x != ?y -> add q(?z)"), facts, m) || impl.IsMatch(ruleOf("r 1: p(?x) & p(?y) & ?x < ?y -> stop"), facts, m) {
		t.Error("a match of another rule")
	}
	if z := ruleOf("r 1: z() -> stop"); !impl.IsMatch(z, factsOf("z()"), impl.Match{Rule: "r", Facts: []impl.Fact{{Rel: "z", Args: []string{}}}, Binding: []impl.Pair{}}) {
		t.Error("nil and empty lists differ")
	}
}

// Of all lists of up to three facts, and all bindings of the variables, exactly the matches are matches.
func TestIsMatchOfAllLists(t *testing.T) {
	facts := factsOf("p(a)", "p(b)", "p(b,a)")
	for _, text := range []string{"r 1: p(?x) & not p(?x,?z) -> stop", "r 1: p(?x,?y) & p(?y) -> stop", "r 1: p(?x) & p(?y) & not p(?y,?x) -> stop"} {
		r := ruleOf(text)
		matches := matchesOf("r", tokensAgain(r.If, facts))
		found := 0
		for _, list := range tuples(3, facts...) {
			for _, b := range []string{"-", "?x=a", "?x=b", "?y=a", "?x=a ?y=a", "?x=a ?y=b", "?x=b ?y=a", "?x=b ?y=b", "?x=a ?z=b", "?x=b ?z=a"} {
				m := impl.Match{Rule: "r", Facts: list, Binding: pairsOf(b)}
				want := slices.ContainsFunc(matches, func(x impl.Match) bool { return equalMatches(x, m) })
				if got := impl.IsMatch(r, facts, m); got != want {
					t.Errorf("IsMatch(%s, %q, %q) = %v", text, facts, m, got)
				}
				if want {
					found++
				}
			}
		}
		if found != len(matches) {
			t.Errorf("%d of %d matches were tried", found, len(matches))
		}
	}
}

func TestFormatMatch(t *testing.T) {
	cases := []struct {
		m    impl.Match
		want string
	}{
		{matchOf("r1", "on(a,b) on(b,c); ?x=a ?y=b ?z=c"), "r1: on(a,b) on(b,c)"},
		{matchOf("r", "z(); -"), "r: z()"},
		{matchOf("r", "-; -"), "r: -"},
		{impl.Match{Rule: "r"}, "r: -"},
		{matchOf("abcdefgh", "p(1,2,3) p(1,2,3); -"), "abcdefgh: p(1,2,3) p(1,2,3)"},
		{matchOf("r", "p(b) p(a); -"), "r: p(b) p(a)"}, // also what is no fact set
		{impl.Match{Rule: "not", Facts: factsOf("p(a)"), Binding: make([]impl.Pair, 9)}, "not: p(a)"},
		{impl.Match{Rule: "r", Facts: numbered(30)[28:]}, "r: n(28) n(29)"},
		{impl.Match{Rule: "r", Facts: slices.Repeat(factsOf("z()"), 30)}, "r: " + strings.TrimSuffix(strings.Repeat("z() ", 30), " ")},
		{impl.Match{}, ""},
	}
	for _, c := range cases {
		if got := impl.FormatMatch(c.m); got != c.want {
			t.Errorf("FormatMatch(%q) = %q", c.m, got)
		}
	}
	for _, name := range noNames {
		for _, facts := range [][]impl.Fact{nil, factsOf("p(a)"), {{}}} {
			if got := impl.FormatMatch(impl.Match{Rule: name, Facts: facts}); got != "" {
				t.Errorf("FormatMatch of the Rule %q: %q", name, got)
			}
		}
	}
	for _, f := range badTuples(noAtoms) {
		for _, facts := range [][]impl.Fact{{f}, {f, fact("p", "a")}, {fact("p", "a"), f}, {fact("z"), f, fact("z")}} {
			if got := impl.FormatMatch(impl.Match{Rule: "r", Facts: facts, Binding: pairsOf("?x=a")}); got != "" {
				t.Errorf("FormatMatch of the Facts %q: %q", facts, got)
			}
		}
	}
}

func TestUsesFact(t *testing.T) {
	m := impl.Match{Rule: "R", Facts: []impl.Fact{fact("p", "b"), fact("p", "a"), fact("P", "?x"), fact("p", "b"), fact("z")}, Binding: pairsOf("?x=c")}
	for _, f := range []impl.Fact{fact("p", "b"), fact("p", "a"), fact("P", "?x"), fact("z"), {Rel: "z", Args: []string{}}} {
		if !impl.UsesFact(m, f) {
			t.Errorf("%q is not used", f)
		}
	}
	for _, f := range []impl.Fact{{}, fact("p"), fact("p", "c"), fact("p", "?x"), fact("p", "b", "b"), fact("P"), fact("z", ""), fact("R"), fact("q", "a")} {
		if impl.UsesFact(m, f) {
			t.Errorf("%q is used", f)
		}
		if impl.UsesFact(impl.Match{}, f) || impl.UsesFact(impl.Match{Rule: "p", Facts: []impl.Fact{}}, f) {
			t.Errorf("%q is used by no facts", f)
		}
	}
	if !impl.UsesFact(impl.Match{Facts: make([]impl.Fact, 1)}, impl.Fact{}) {
		t.Error("the zero Fact is not used")
	}
}

// shared reports whether two of the lists share memory, up to their capacities.
func shared[T any](lists [][]T) bool {
	seen := map[*T]bool{}
	for _, l := range lists {
		l = l[:cap(l)]
		for i := range l {
			if seen[&l[i]] {
				return true
			}
			seen[&l[i]] = true
		}
	}
	return false
}

// checkOwnLists checks that no two lists of the matches share memory, and that none shares any with the facts.
func checkOwnLists(t *testing.T, name string, matches []impl.Match, facts []impl.Fact) {
	t.Helper()
	lists, bindings, args := [][]impl.Fact{facts}, [][]impl.Pair{}, [][]string{}
	for _, m := range matches {
		lists, bindings = append(lists, m.Facts), append(bindings, m.Binding)
	}
	for _, l := range lists {
		for _, f := range l {
			args = append(args, f.Args)
		}
	}
	if len(matches) < 2 || shared(lists) || shared(bindings) || shared(args) {
		t.Errorf("%s: lists share memory: %q", name, matches)
	}
}

func TestMatchesShareNoMemory(t *testing.T) {
	facts := roomyFacts("p(a,b)", "p(b,c)", "q(a,b)")
	rules := rulesOf(
		"r1 1: p(?x,?y) -> stop", "r2 1: p(?x,?y) & p(?x,?y) -> stop", "r3 1: p(?x,?y) & p(?z,?w) -> stop", "r4 1: p(?x,?y) & not q(b,?x) -> stop",
		"r5 1: p(?x,?y) & ?x != ?y & p(?z,?w) & not z() -> stop", "r6 1: q(a,b) & p(?x,?y) -> stop",
	)
	for _, r := range rules {
		for n := 1; n <= len(r.If); n++ {
			tokens := impl.TokensOf(r, n, facts)
			if len(tokens) > 1 {
				checkOwnLists(t, "TokensOf", matchesOf("r", tokens), facts)
			}
		}
		checkOwnLists(t, "MatchesOf", impl.MatchesOf(r, facts), facts)
	}
	checkOwnLists(t, "AllMatches", impl.AllMatches(rules, facts), facts)
}

func overwriteMatches(l []impl.Match) {
	for _, m := range l {
		for _, f := range m.Facts {
			overwrite(f.Args, "own")
		}
		overwrite(m.Facts, fact("own"))
		overwrite(m.Binding, impl.Pair{Var: "own", Value: "own"})
	}
	overwrite(l, impl.Match{Rule: "own"})
}

func TestFactsAndMatchesStayAsTheyAre(t *testing.T) {
	r := roomyRule("r 1: p(?x,?y) & not q(?x) & p(?y,?z) & ?x != ?z -> stop")
	bad := roomyRule("s 1: p(?x,?y) & q(?x) -> add q(?z)")
	rules := append([]impl.Rule{r, roomyRule("s 1: p(?y,?x) -> add q(?x)")}, bad, bad)[:2]
	facts := roomyFacts("p(a,b)", "p(b,c)", "q(b)")
	m := impl.Match{Rule: "r", Facts: roomyFacts("p(a,b)", "p(b,c)"), Binding: roomyPairs("?x=a ?y=b ?z=c")}
	calls := map[string]func(){
		"MatchesOf":         func() { overwriteMatches(impl.MatchesOf(r, facts)) },
		"MatchesOf, bad":    func() { overwriteMatches(impl.MatchesOf(bad, facts)) },
		"AllMatches":        func() { overwriteMatches(impl.AllMatches(rules, facts)) },
		"TokenCounts":       func() { overwrite(impl.TokenCounts(r, facts), -1) },
		"TokenCounts, none": func() { overwrite(impl.TokenCounts(bad, facts), -1) },
		"TokensOf": func() {
			for n := range 6 {
				overwriteMatches(matchesOf("r", impl.TokensOf(r, n, facts)))
			}
		},
		"others": func() {
			if !impl.IsMatch(r, facts, m) || !impl.SameMatch(m, m) || !impl.UsesFact(m, facts[1]) || impl.FormatMatch(m) != "r: p(a,b) p(b,c)" || impl.DeepestCond(r, facts) != 4 {
				t.Error("no match")
			}
			impl.CompareTokens(impl.Token{Facts: m.Facts, Binding: m.Binding}, impl.Token{Facts: facts})
		},
	}
	checkArguments(t, calls, func() []any {
		l := []any{wholeFacts(facts), wholeFacts(m.Facts), wholeList(m.Binding)}
		for _, x := range append(wholeList(rules), r, bad) {
			l = append(l, wholeRule(x))
		}
		return l
	})
}

// What a caller does with the one token of no conditions does not come back.
func TestTheTokenOfNoCondsIsNew(t *testing.T) {
	r := ruleOf("r 1: p(?x) -> stop")
	first := impl.TokensOf(r, 0, nil)
	overwrite(first, tokenOf("p(a); ?x=a"))
	if got := impl.TokensOf(r, 0, nil); len(first) != 1 || len(got) != 1 || !equalTokens(got[0], impl.Token{}) {
		t.Errorf("%q", got)
	}
}
