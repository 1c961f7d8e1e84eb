package tests

import (
	"math"
	"reflect"
	"regexp"
	"slices"
	"strconv"
	"strings"
	"testing"

	"loop.example/g03015/impl"
)

func adds(text string) impl.Action {
	return impl.Action{Kind: impl.ActAdd, Pattern: patternOf(text)}
}

func drops(text string) impl.Action {
	return impl.Action{Kind: impl.ActDrop, Pattern: patternOf(text)}
}

func stops() impl.Action {
	return impl.Action{Kind: impl.ActStop}
}

func condOf(text string) impl.Cond {
	if inner, ok := strings.CutPrefix(text, "not "); ok {
		return hasNot(inner)
	}
	if parts := strings.Split(text, " "); len(parts) == 3 {
		return test(map[string]int{"=": impl.CondSame, "!=": impl.CondOther, "<": impl.CondLess}[parts[1]], parts[0], parts[2])
	}
	return has(text)
}

func actionOf(text string) impl.Action {
	switch word, inner, _ := strings.Cut(text, " "); word {
	case "add":
		return adds(inner)
	case "drop":
		return drops(inner)
	}
	return stops()
}

// ruleOf reads a rule that the test has written, also one that is not valid, without the functions under test.
func ruleOf(text string) impl.Rule {
	head, body, _ := strings.Cut(text, ": ")
	name, priority, _ := strings.Cut(head, " ")
	before, behind, _ := strings.Cut(body, " -> ")
	r := impl.Rule{Name: name}
	r.Priority, _ = strconv.Atoi(priority)
	for _, part := range strings.Split(before, " & ") {
		r.If = append(r.If, condOf(part))
	}
	for _, part := range strings.Split(behind, " & ") {
		r.Then = append(r.Then, actionOf(part))
	}
	return r
}

func rulesOf(texts ...string) []impl.Rule {
	l := []impl.Rule{}
	for _, text := range texts {
		l = append(l, ruleOf(text))
	}
	return l
}

func equalActions(a impl.Action, b impl.Action) bool {
	return a.Kind == b.Kind && a.Pattern.Rel == b.Pattern.Rel && slices.Equal(a.Pattern.Args, b.Pattern.Args)
}

func equalRules(a impl.Rule, b impl.Rule) bool {
	return a.Name == b.Name && a.Priority == b.Priority && slices.EqualFunc(a.If, b.If, equalConds) && slices.EqualFunc(a.Then, b.Then, equalActions)
}

func words(text string) []string {
	return strings.Fields(text)
}

func TestLimitsAndKindsOfRules(t *testing.T) {
	got := []int{impl.ActAdd, impl.ActDrop, impl.ActStop, impl.MaxConds, impl.MaxActs, impl.MaxRules, impl.MaxPriority}
	if !slices.Equal(got, []int{1, 2, 3, 4, 2, 6, 9}) {
		t.Error(got)
	}
}

func TestValidActions(t *testing.T) {
	cases := []struct {
		action impl.Action
		text   string
	}{
		{adds("z()"), "add z()"},
		{impl.Action{Kind: impl.ActAdd, Pattern: impl.Pattern{Rel: "z", Args: []string{}}}, "add z()"},
		{adds("p(?x,1,007)"), "add p(?x,1,007)"},
		{drops("p(?x,?x)"), "drop p(?x,?x)"},
		{drops("drop(drop)"), "drop drop(drop)"},
		{adds("stop()"), "add stop()"},
		{adds("abcdefgh(?abcdefgh,abcdefgh,?12345678)"), "add abcdefgh(?abcdefgh,abcdefgh,?12345678)"},
		{stops(), "stop"},
		{impl.Action{Kind: impl.ActStop, Pattern: impl.Pattern{Args: []string{}}}, "stop"},
	}
	for _, c := range cases {
		if !impl.IsAction(c.action) {
			t.Errorf("IsAction(%+v) = false", c.action)
		}
		if got := impl.FormatAction(c.action); got != c.text {
			t.Errorf("FormatAction(%+v) = %q", c.action, got)
		}
	}
}

// noActions returns actions that are not valid.
func noActions() []impl.Action {
	l := []impl.Action{}
	for _, kind := range []int{0, 4, 5, -1, -3, 100, 1 << 32, 1<<32 + 1, math.MaxInt, math.MinInt} {
		l = append(l, impl.Action{Kind: kind}, impl.Action{Kind: kind, Pattern: patternOf("p(a)")})
	}
	for _, f := range badTuples(noTerms) {
		l = append(l, impl.Action{Kind: impl.ActAdd, Pattern: impl.Pattern(f)}, impl.Action{Kind: impl.ActDrop, Pattern: impl.Pattern(f)})
	}
	for _, p := range []impl.Pattern{pattern("p"), pattern("p", "a"), pattern("p", "?x"), pattern("P"), pattern(" "), pattern("", ""), pattern("", "a"), pattern("", "", "", "", "")} {
		l = append(l, impl.Action{Kind: impl.ActStop, Pattern: p})
	}
	return l
}

func TestInvalidActions(t *testing.T) {
	for _, a := range noActions() {
		if impl.IsAction(a) {
			t.Errorf("IsAction(%+v) = true", a)
		}
		if got := impl.FormatAction(a); got != "" {
			t.Errorf("FormatAction(%+v) = %q", a, got)
		}
		for _, then := range [][]impl.Action{{a}, {a, stops()}, {adds("p(a)"), a}} {
			checkNoRule(t, impl.Rule{Name: "r", If: []impl.Cond{has("p(?x)")}, Then: then})
		}
	}
}

var validRules = []struct {
	text     string
	bound    []string // behind each of the conditions
	vars     string
	specific int
	reads    string
	writes   string
	monotone bool
}{
	{"r1 3: on(?x,?y) & not p(?y) -> add q(?x) & stop", []string{"?x ?y", "?x ?y"}, "?x ?y", 2, "on p", "q", false},
	{"r2 0: on(?x,a) -> add p(?x)", []string{"?x"}, "?x", 2, "on", "p", true},
	{"r 9: z() -> stop", []string{""}, "", 1, "z", "", false},
	{"r 1: z() -> drop z()", []string{""}, "", 1, "z", "z", false},
	{"r 1: z() -> add z() & add y()", []string{""}, "", 1, "z", "y z", true},
	{"r 1: z() -> add z() & drop z()", []string{""}, "", 1, "z", "z", false},
	{"r 1: z() -> drop z() & add y()", []string{""}, "", 1, "z", "y z", false},
	{"r 1: z() -> stop & add z()", []string{""}, "", 1, "z", "z", false},
	{"r 1: z() -> stop & stop", []string{""}, "", 1, "z", "", false},
	{"r 1: z() & not z() -> add y()", []string{"", ""}, "", 2, "z", "y", false},
	{"abcdefgh 5: p(1,007,a) & p(1,007,a) -> add p(1,007,a)", []string{"", ""}, "", 8, "p", "p", true},
	// tests of what is bound before them, and of atoms
	{"r 1: p(?x) & ?x = a & q(?y) & ?x < ?y -> add p(?y)", []string{"?x", "?x", "?x ?y", "?x ?y"}, "?x ?y", 4, "p q", "p", true},
	{"r 1: p(?y) & q(?x) & ?x != ?y -> drop q(?x)", []string{"?y", "?x ?y", "?x ?y"}, "?x ?y", 3, "p q", "q", false},
	{"r 1: z() & 1 < 2 & a = a & 007 != 7 -> stop", []string{"", "", "", ""}, "", 4, "z", "", false},
	{"r 1: p(?x) & ?x = ?x -> add p(a)", []string{"?x", "?x"}, "?x", 2, "p", "p", true},
	// an absence with variables that are bound before it, that are not, and with both
	{"r 1: p(?x) & not q(?x) -> drop p(?x)", []string{"?x", "?x"}, "?x", 2, "p q", "p", false},
	{"r 1: p(?x) & not q(?z) -> add p(?x)", []string{"?x", "?x"}, "?x ?z", 2, "p q", "p", false},
	{"r 1: p(?x) & not q(?z,?z,1) -> add p(?x)", []string{"?x", "?x"}, "?x ?z", 3, "p q", "p", false},
	{"r 1: p(?x) & not q(?x,?z) & not q(?w,?x) & q(?y) -> add p(?y)", []string{"?x", "?x", "?x", "?x ?y"}, "?w ?x ?y ?z", 4, "p q", "p", false},
	{"r 1: p(?x) & not q(?x) & q(?x) & not q(?x) -> add q(?x)", []string{"?x", "?x", "?x", "?x"}, "?x", 4, "p q", "q", false},
	{"r 1: p(?x) & q(?y) & not q(?y) & not q(?x,?y) -> add q(?y)", []string{"?x", "?x ?y", "?x ?y", "?x ?y"}, "?x ?y", 4, "p q", "q", false},
	{"r 1: z() & not q(?x) & p(?y) & not q(?y) -> stop", []string{"", "", "?y", "?y"}, "?x ?y", 4, "p q z", "", false},
	// an action with a variable of the last condition
	{"r 1: p(?x) & ?x = 1 & not q(?x) & on(?z,?y) -> add p(?y) & drop p(?z)", []string{"?x", "?x", "?x", "?x ?y ?z"}, "?x ?y ?z", 4, "on p q", "p", false},
	// MaxVars variables
	{"r 1: p(?a,?b,?c) & p(?d,?e,?f) -> add p(?f,?a)", []string{"?a ?b ?c", "?a ?b ?c ?d ?e ?f"}, "?a ?b ?c ?d ?e ?f", 2, "p", "p", true},
	{"r 1: p(?1,?2) & not p(?3,?4,?5) & not q(?6) & ?2 = ?1 -> add q(?1)", []string{"?1 ?2", "?1 ?2", "?1 ?2", "?1 ?2"}, "?1 ?2 ?3 ?4 ?5 ?6", 4, "p q", "q", false},
	{"r 1: p(?9,?10,?a) & p(?10,?9,?b) & p(?c,?d,?9) & p(?a,?b,?c) -> stop", []string{"?10 ?9 ?a", "?10 ?9 ?a ?b", "?10 ?9 ?a ?b ?c ?d", "?10 ?9 ?a ?b ?c ?d"}, "?10 ?9 ?a ?b ?c ?d", 4, "p", "", false},
	// each atom counts as often as it is there
	{"r 1: p(a,a,a) & not q(1,?x,1) & p(a) -> add p(a,a)", []string{"", "", ""}, "?x", 9, "p q", "p", false},
	// names that are also words
	{"not 1: not(?x) & not not(?y) -> add not(?x)", []string{"?x", "?x"}, "?x ?y", 2, "not", "not", false},
	{"add 1: add(add) & stop(stop) -> add stop(add) & drop drop(stop)", []string{"", ""}, "", 4, "add stop", "drop stop", false},
	{"stop 0: stop() -> stop", []string{""}, "", 1, "stop", "", false},
	{"r 1: p(x,?x) & x != ?x -> add x(x,?x)", []string{"?x", "?x"}, "?x", 3, "p", "x", true},
}

func TestValidRulesAreWrittenAndRead(t *testing.T) {
	for _, c := range validRules {
		r := ruleOf(c.text)
		if !impl.IsRule(r) {
			t.Errorf("IsRule(%+v) = false", r)
		}
		if got := impl.FormatRule(r); got != c.text {
			t.Errorf("FormatRule(%+v) = %q", r, got)
		}
		if got, ok := impl.ParseRule(c.text); !ok || !equalRules(got, r) {
			t.Errorf("ParseRule(%q) = %+v, %v", c.text, got, ok)
		}
		if !impl.AreRules([]impl.Rule{r}) {
			t.Errorf("AreRules of %+v alone = false", r)
		}
	}
}

func TestWhatIsToldOfValidRules(t *testing.T) {
	for _, c := range validRules {
		r := ruleOf(c.text)
		if got := impl.RuleVars(r); !slices.Equal(got, words(c.vars)) {
			t.Errorf("RuleVars(%s) = %q", c.text, got)
		}
		if got := impl.Specificity(r); got != c.specific {
			t.Errorf("Specificity(%s) = %d", c.text, got)
		}
		if got := impl.ReadsOf(r); !slices.Equal(got, words(c.reads)) {
			t.Errorf("ReadsOf(%s) = %q", c.text, got)
		}
		if got := impl.WritesOf(r); !slices.Equal(got, words(c.writes)) {
			t.Errorf("WritesOf(%s) = %q", c.text, got)
		}
		if got := impl.IsMonotone(r); got != c.monotone {
			t.Errorf("IsMonotone(%s) = %v", c.text, got)
		}
	}
}

func TestBoundVars(t *testing.T) {
	for _, c := range validRules {
		r := ruleOf(c.text)
		for _, n := range []int{math.MinInt, -100, -4, -1, 0} {
			if got := impl.BoundVars(r, n); len(got) != 0 {
				t.Errorf("BoundVars(%s, %d) = %q", c.text, n, got)
			}
		}
		for i, vars := range c.bound {
			if got := impl.BoundVars(r, i+1); !slices.Equal(got, words(vars)) {
				t.Errorf("BoundVars(%s, %d) = %q", c.text, i+1, got)
			}
		}
		all := words(c.bound[len(c.bound)-1])
		for _, n := range []int{len(r.If) + 1, 5, 100, 1 << 32, math.MaxInt} {
			if got := impl.BoundVars(r, n); !slices.Equal(got, all) {
				t.Errorf("BoundVars(%s, %d) = %q", c.text, n, got)
			}
		}
	}
}

// oddRule is not valid in any of its parts.
func oddRule() impl.Rule {
	return impl.Rule{Name: "R", Priority: -1, If: []impl.Cond{
		{Kind: impl.CondNot, Pattern: pattern("n", "?n", "1")},
		{Kind: impl.CondHas, Pattern: pattern("", "?h4", "?h3", "?h2", "?h1", "A", "?", "?H", "h1"), Left: "?l", Right: "2"},
		{Kind: impl.CondSame, Pattern: pattern("s", "?s", "s"), Left: "?t", Right: "?r"},
		{Kind: 6, Pattern: pattern("six", "?k", "?abcdefghi")},
		{Kind: 0, Pattern: pattern("zero", "0", "00", "")},
		{Kind: impl.CondLess, Pattern: pattern("less"), Left: "3", Right: "?L"},
		{Kind: impl.CondHas, Pattern: pattern("B", "?h1", "?b")},
		{Kind: impl.CondNot, Pattern: pattern("B", "?o")},
	}, Then: []impl.Action{
		{Kind: impl.ActStop, Pattern: pattern("stop", "?a3", "a")},
		{Kind: 0, Pattern: pattern("zero", "?a0")},
		{Kind: impl.ActDrop, Pattern: pattern("D d", "?a2", "?b", "?", "1", "2")},
		{Kind: impl.ActAdd, Pattern: pattern("", "?a1")},
		{Kind: impl.ActAdd, Pattern: pattern("D d")},
		{Kind: 4, Pattern: pattern("four", "?a4")},
	}}
}

func TestWhatIsToldOfAnyRule(t *testing.T) {
	r := oddRule()
	h := "?h1 ?h2 ?h3 ?h4"
	for n, vars := range []string{"", "", h, h, h, h, h, "?b " + h, "?b " + h, "?b " + h} {
		if got := impl.BoundVars(r, n); !slices.Equal(got, words(vars)) {
			t.Errorf("BoundVars of %d: %q", n, got)
		}
	}
	if got := impl.RuleVars(r); !slices.Equal(got, words("?a0 ?a1 ?a2 ?a3 ?a4 ?b ?h1 ?h2 ?h3 ?h4 ?k ?l ?n ?o ?r ?s ?t")) {
		t.Errorf("RuleVars: %q", got)
	}
	if got := impl.Specificity(r); got != 8+1+1+1+2 {
		t.Errorf("Specificity: %d", got)
	}
	if got := impl.ReadsOf(r); !slices.Equal(got, []string{"", "B", "n"}) {
		t.Errorf("ReadsOf: %q", got)
	}
	if got := impl.WritesOf(r); !slices.Equal(got, []string{"", "D d"}) {
		t.Errorf("WritesOf: %q", got)
	}
	checkNoRule(t, r)
}

func TestWhatIsToldOfTheZeroRule(t *testing.T) {
	for _, r := range []impl.Rule{{}, {If: []impl.Cond{}, Then: []impl.Action{}}} {
		if len(impl.BoundVars(r, 1)) != 0 || len(impl.RuleVars(r)) != 0 || impl.Specificity(r) != 0 || len(impl.ReadsOf(r)) != 0 || len(impl.WritesOf(r)) != 0 {
			t.Errorf("%+v", r)
		}
		checkNoRule(t, r)
	}
}

func checkNoRule(t *testing.T, r impl.Rule) {
	t.Helper()
	if impl.IsRule(r) {
		t.Errorf("IsRule(%+v) = true", r)
	}
	if impl.IsMonotone(r) {
		t.Errorf("IsMonotone(%+v) = true", r)
	}
	if got := impl.FormatRule(r); got != "" {
		t.Errorf("FormatRule(%+v) = %q", r, got)
	}
	if impl.AreRules([]impl.Rule{r}) || impl.AreRules([]impl.Rule{ruleOf("other 1: z() -> stop"), r}) {
		t.Errorf("AreRules with %+v", r)
	}
}

func checkNoRuleText(t *testing.T, s string) {
	t.Helper()
	if r, ok := impl.ParseRule(s); ok || !equalRules(r, impl.Rule{}) {
		t.Errorf("ParseRule(%q) = %+v, %v", s, r, ok)
	}
}

// Texts in the form of a rule, each of which breaks one of its laws.
var lawlessRules = []string{
	// the Name and the Priority
	"R 3: p(?x) -> stop", "1 3: p(?x) -> stop", "007 3: p(?x) -> stop", "?r 3: p(?x) -> stop", "abcdefghi 3: p(?x) -> stop", "r-1 3: p(?x) -> stop", " 3: p(?x) -> stop",
	"r 10: p(?x) -> stop", "r 11: p(?x) -> stop", "r 9999: p(?x) -> stop", "r -1: p(?x) -> stop", "r -9: p(?x) -> stop",
	// how many conditions and actions there are, and the first condition
	"r 3: p(a) & p(b) & p(c) & p(d) & p(e) -> stop", "r 3: p(?x) & ?x = a & ?x = b & ?x = c & ?x = d -> stop",
	"r 3: p(?x) -> stop & stop & stop", "r 3: p(?x) -> add p(a) & add p(b) & add p(c)",
	"r 3: not p(a) -> stop", "r 3: not p(?x) -> stop", "r 3: not p(?x) & q(?y) -> stop", "r 3: a = a -> stop", "r 3: 1 < 2 & p(?x) -> stop", "r 3: a != b & p(a) & not p(b) -> add p(b)",
	// a test before its variable is bound: nowhere, behind it, or in an absence
	"r 3: p(?x) & ?y < 2 -> stop", "r 3: p(?x) & 2 < ?y -> stop", "r 3: p(?x) & ?x = ?y -> stop", "r 3: p(?x) & ?y = ?x -> stop", "r 3: p(?x) & ?y != ?y -> stop", "r 3: p(a) & ?x = ?x -> stop",
	"r 3: p(?x) & ?y = a & q(?y) -> stop", "r 3: p(?x) & ?y != ?x & q(?y) -> add q(?y)", "r 3: p(?x) & ?x < ?y & q(?y) & r(?y) -> stop",
	"r 3: p(?x) & not q(?y) & ?y = a -> stop", "r 3: p(?x) & not q(?y) & ?x = ?y -> stop", "r 3: p(?x) & ?y = a & not q(?y) -> stop", "r 3: p(?x) & not q(?y) & ?y = a & q(?y) -> stop",
	"r 3: p(?x) & ?y = a & ?y = b -> stop",
	// a variable of an absence that is not bound before it, and occurs elsewhere
	"r 3: p(?x) & not on(?x,?z) & q(?z) -> stop", "r 3: p(?x) & not q(?z) & q(?z) -> add p(?z)", "r 3: p(?x) & not q(?z) & p(?x) & q(a,?z) -> stop",
	"r 3: p(?x) & not q(?z) & not q(?z) -> stop", "r 3: p(?x) & not q(?z) & not r(?x,?z) -> stop", "r 3: p(?x) & not q(?z,?x) & p(?x) & not r(?z) -> stop", "r 3: p(a) & not q(?x,?y) & not q(?z,?y) -> stop",
	"r 3: p(?x) & not q(?z) & q(?z) & not q(?z) -> stop",
	"r 3: p(?x) & not q(?z) -> add p(?z)", "r 3: p(?x) & not q(?z) -> add p(?x) & drop q(?z)", "r 3: p(?x) & not q(?x,?z) -> drop q(?x,?z)",
	// an action with a variable that no presence has
	"r 3: p(?x) -> add q(?y)", "r 3: p(?x) -> drop q(?y)", "r 3: p(?x) -> stop & add q(?x,?y)", "r 3: p(?x) -> add q(?x) & drop q(?y)", "r 3: p(a) -> add p(?a)", "r 3: p(x) & q(x) -> add p(?x)",
	// one variable too many, of presences and of absences
	"r 3: p(?a,?b,?c) & p(?d,?e,?f) & p(?g) -> stop", "r 3: p(?a,?b,?c) & p(?d,?e,?f) & not p(?g) -> stop", "r 3: p(?a) & not p(?b,?c,?d) & not p(?e,?f,?g) -> stop",
	"r 3: p(?a,?b,?c) & p(?d,?e,?f) & p(?g,?h,?i) & p(?j,?k,?l) -> add p(?a)", "r 3: p(?a,?b) & p(?c,?d) & p(?e,?f) & p(?a,?g) -> add p(?g)",
}

func TestLawlessRules(t *testing.T) {
	for _, text := range lawlessRules {
		checkNoRule(t, ruleOf(text))
		checkNoRuleText(t, text)
	}
}

func TestInvalidPartsOfRules(t *testing.T) {
	conds, acts := []impl.Cond{has("p(?x)")}, []impl.Action{adds("p(?x)")}
	for _, name := range noNames {
		checkNoRule(t, impl.Rule{Name: name, If: conds, Then: acts})
	}
	for _, priority := range []int{-1, 10, 11, -9, 100, 1 << 32, 1<<32 + 3, math.MaxInt, math.MinInt} {
		checkNoRule(t, impl.Rule{Name: "r", Priority: priority, If: conds, Then: acts})
	}
	for _, x := range noConds() {
		checkNoRule(t, impl.Rule{Name: "r", If: []impl.Cond{x}, Then: []impl.Action{stops()}})
		checkNoRule(t, impl.Rule{Name: "r", If: []impl.Cond{has("p(?x)"), x}, Then: acts})
		checkNoRule(t, impl.Rule{Name: "r", If: []impl.Cond{has("p(?x)"), has("p(?x)"), has("p(?x)"), x}, Then: acts})
	}
	for _, l := range [][]impl.Cond{nil, {}, make([]impl.Cond, 4), slices.Repeat(conds, 5), slices.Repeat(conds, 1000)} {
		checkNoRule(t, impl.Rule{Name: "r", If: l, Then: []impl.Action{stops()}})
	}
	for _, l := range [][]impl.Action{nil, {}, make([]impl.Action, 2), slices.Repeat(acts, 3), slices.Repeat(acts, 1000)} {
		checkNoRule(t, impl.Rule{Name: "r", If: conds, Then: l})
	}
}

func TestLimitsOfRules(t *testing.T) {
	conds, acts := []impl.Cond{has("p(?x)")}, []impl.Action{adds("p(?x)")}
	for priority := -3; priority < 13; priority++ {
		r := impl.Rule{Name: "r", Priority: priority, If: conds, Then: acts}
		text := "r " + strconv.Itoa(priority) + ": p(?x) -> add p(?x)"
		checkRule(t, r, text, priority >= 0 && priority <= 9)
	}
	for n := range 7 {
		r := impl.Rule{Name: "r", If: slices.Repeat(conds, n), Then: acts}
		text := "r 0: " + strings.Repeat("p(?x) & ", max(n-1, 0)) + strings.Repeat("p(?x)", min(n, 1)) + " -> add p(?x)"
		checkRule(t, r, text, n >= 1 && n <= 4)
	}
	for n := range 5 {
		r := impl.Rule{Name: "r", If: conds, Then: slices.Repeat(acts, n)}
		text := "r 0: p(?x) -> " + strings.Repeat("add p(?x) & ", max(n-1, 0)) + strings.Repeat("add p(?x)", min(n, 1))
		checkRule(t, r, text, n >= 1 && n <= 2)
	}
}

// checkRule checks that a rule is valid and has this text, or that neither of both is.
func checkRule(t *testing.T, r impl.Rule, text string, valid bool) {
	t.Helper()
	if !valid {
		checkNoRule(t, r)
		checkNoRuleText(t, text)
		return
	}
	if !impl.IsRule(r) || impl.FormatRule(r) != text {
		t.Errorf("%+v: IsRule = %v, FormatRule = %q", r, impl.IsRule(r), impl.FormatRule(r))
	}
	if got, ok := impl.ParseRule(text); !ok || !equalRules(got, r) {
		t.Errorf("ParseRule(%q) = %+v, %v", text, got, ok)
	}
}

// usesBound tells again which rules of valid parts use their variables as they may: variable by variable,
// by the places in which each one stands. The place behind all conditions is that of the actions.
func usesBound(r impl.Rule) bool {
	places := map[string][]int{}
	note := func(place int, texts ...string) {
		for _, text := range texts {
			if strings.HasPrefix(text, "?") && !slices.Contains(places[text], place) {
				places[text] = append(places[text], place)
			}
		}
	}
	for i, x := range r.If {
		note(i, append(slices.Clone(x.Pattern.Args), x.Left, x.Right)...)
	}
	if len(places) > 6 {
		return false
	}
	for _, a := range r.Then {
		note(len(r.If), a.Pattern.Args...)
	}
	for _, l := range places {
		if !mayStandIn(r, l) {
			return false
		}
	}
	return true
}

// mayStandIn goes through the places of one variable, which are in order. The variable may stand in one
// absence alone, or else in a presence first, since whatever stands before that would break a law.
func mayStandIn(r impl.Rule, places []int) bool {
	if places[0] == len(r.If) {
		return false
	}
	first := r.If[places[0]].Kind
	return first == impl.CondHas || first == impl.CondNot && len(places) == 1
}

func TestRulesUseOnlyWhatIsBound(t *testing.T) {
	conds := []string{"p(a)", "p(?x)", "p(?y)", "p(?x,?y)", "not p(a)", "not p(?x)", "not p(?y)", "not p(?y,?x)", "a = a", "?x = a", "a != ?y", "?y < ?x"}
	acts := [][]string{{"stop"}, {"add p(?x)"}, {"drop p(?y)"}, {"stop", "add p(?y,?x)"}}
	valid := 0
	for _, texts := range tuples(4, conds...) {
		for _, then := range acts {
			text := "r 0: " + strings.Join(texts, " & ") + " -> " + strings.Join(then, " & ")
			if len(texts) == 0 {
				continue
			}
			r := ruleOf(text)
			want := r.If[0].Kind == impl.CondHas && usesBound(r)
			got := impl.IsRule(r)
			if got != want {
				t.Fatalf("IsRule(%s) = %v", text, got)
			}
			if got != (impl.FormatRule(r) == text) {
				t.Fatalf("FormatRule(%s) = %q", text, impl.FormatRule(r))
			}
			if got {
				valid++
			}
		}
	}
	if valid < 1000 {
		t.Errorf("only %d valid rules were tried", valid)
	}
}

// Seven variables in the places of three patterns, of which some are not there: each number of variables
// in presences and in absences.
func TestNumberOfVars(t *testing.T) {
	vars := strings.Split("?1 ?2 ?3 ?4 ?5 ?6 ?7 ?8 ?9", " ")
	for first := range 4 {
		for second := range 4 {
			for third := range 4 {
				count := first + second + third
				l := vars[:count]
				r := impl.Rule{Name: "r", If: []impl.Cond{
					{Kind: impl.CondHas, Pattern: pattern("p", l[:first]...)},
					{Kind: impl.CondNot, Pattern: pattern("p", l[first:first+second]...)},
					{Kind: impl.CondHas, Pattern: pattern("p", l[first+second:]...)},
				}, Then: []impl.Action{stops()}}
				if got := impl.IsRule(r); got != (count <= 6) {
					t.Errorf("IsRule(%+v) = %v", r, got)
				}
				if got := impl.RuleVars(r); !slices.Equal(got, l) {
					t.Errorf("RuleVars(%+v) = %q", r, got)
				}
			}
		}
	}
}

// What chapter 5 says of the text of a rule, but for its variables, told a second time as a regular expression.
var ruleText = func() *regexp.Regexp {
	bare := func(x *regexp.Regexp) string {
		return strings.TrimSuffix(strings.TrimPrefix(x.String(), `\A`), `\z`)
	}
	tuple, cond := bare(patternText), bare(condText)
	action := `((add|drop) ` + tuple + `|stop)`
	return regexp.MustCompile(`\A[a-z][a-z0-9]{0,7} [0-9]: ` + tuple + `( & ` + cond + `){0,3} -> ` + action + `( & ` + action + `)?\z`)
}()

func checkParseRule(t *testing.T, s string) {
	t.Helper()
	if !ruleText.MatchString(s) {
		checkNoRuleText(t, s)
		return
	}
	want := ruleOf(s)
	checkRule(t, want, s, usesBound(want))
}

func TestParseRuleOfTextsNearRules(t *testing.T) {
	for _, s := range []string{
		"r1 3: on(?x,?y) & not p(?y) -> add q(?x) & stop",
		"r 0: p(?x) & ?x < 2 -> drop p(?x)",
		"abcdefgh 9: z() -> stop & add z()",
		"r 1: p(?x) & not q(?z,?y) & ?x != a & q(?w) -> stop",
	} {
		checkRule(t, ruleOf(s), s, true)
		nearTexts(s, func(near string) { checkParseRule(t, near) })
	}
}

func TestParseRuleOfShortParts(t *testing.T) {
	shortTexts("r1 :", 6, func(s string) { checkParseRule(t, s+"p(?x) -> add p(?x)") })
	shortTexts("a? &->", 5, func(s string) { checkParseRule(t, "r 1: p(?x)"+s+"p(?x) -> stop") })
	shortTexts("add ?p", 5, func(s string) { checkParseRule(t, "r 1: p(?x) -> "+s+"(?x)") })
	shortTexts("stop &", 5, func(s string) { checkParseRule(t, "r 1: p(?x) -> stop"+s) })
}

var noRuleTexts = []string{
	"", " ", "-", "r", "r ", "r 1", "r 1:", "r 1: ", ":", ": ", "->", " -> ", " & ", "p(?x) -> stop", ": p(?x) -> stop", "r: p(?x) -> stop", "1: p(?x) -> stop", "r1: p(?x) -> stop", "r : p(?x) -> stop",
	// blanks
	" r 1: p(?x) -> stop", "r  1: p(?x) -> stop", "r 1 : p(?x) -> stop", "r 1:  p(?x) -> stop", "r 1:p(?x) -> stop", "r 1: p(?x)  -> stop", "r 1: p(?x) ->  stop", "r 1: p(?x) -> stop ", "r 1: p(?x)-> stop", "r 1: p(?x) ->stop", "r 1: p(?x)->stop",
	"r 1: p(?x) &  p(?x) -> stop", "r 1: p(?x)  & p(?x) -> stop", "r 1: p(?x)& p(?x) -> stop", "r 1: p(?x) &p(?x) -> stop", "r 1: p(?x)&p(?x) -> stop", "r 1: p(?x) -> stop&stop", "r 1: p(?x) -> stop & stop ", "r 1: p(?x) -> stop  & stop",
	"r 1: p(?x) -> add  p(?x)", "r 1: p(?x) -> addp(?x)", "r 1: p(?x) ->  add p(?x)", "r 1: p(?x) -> add p(?x) ", "r 1: p( ?x) -> stop", "r 1: p(?x) & not  q(a) -> stop", "r 1: p(?x) & ?x  = a -> stop", "r 1: p(?x) & ?x= a -> stop",
	"r\t1: p(?x) -> stop", "r 1:\tp(?x) -> stop", "r 1: p(?x) -> stop\n", "\nr 1: p(?x) -> stop", "r 1: p(?x)\u00a0-> stop", "r 1:\u00a0p(?x) -> stop",
	// the Priority
	"r 01: p(?x) -> stop", "r 00: p(?x) -> stop", "r 001: p(?x) -> stop", "r +1: p(?x) -> stop", "r -0: p(?x) -> stop", "r +0: p(?x) -> stop", "r a: p(?x) -> stop", "r ?1: p(?x) -> stop", "r 1.0: p(?x) -> stop", "r 1 1: p(?x) -> stop", "r 0x1: p(?x) -> stop", "r 18446744073709551617: p(?x) -> stop", "r \u0661: p(?x) -> stop",
	// the colon, the arrow and the ampersand out of place
	"r 1; p(?x) -> stop", "r 1:: p(?x) -> stop", "r 1: : p(?x) -> stop", "r: 1: p(?x) -> stop", "r 1: p(?x): q(?x) -> stop", "r 1: p(?x) -> stop: ", "r: 1 p(?x) -> stop",
	"r 1: p(?x)", "r 1: p(?x) stop", "r 1: p(?x) -> ", "r 1: p(?x) ->", "r 1: -> stop", "r 1:  -> stop", "r 1 -> stop", "-> stop", "r 1: p(?x) -> -> stop", "r 1: p(?x) -> stop -> stop", "r 1: p(?x) -> q(?x) -> stop", "r 1: p(?x) -> stop -> ", "r 1: -> p(?x) -> stop", "r 1: p(?x) <- stop", "r 1: p(?x) => stop", "r 1: p(?x) - > stop", "r 1: p(?x) & stop", "r 1 -> p(?x): stop", "r -> 1: p(?x) -> stop", "stop -> r 1: p(?x)",
	"r 1: & p(?x) -> stop", "r 1:  & p(?x) -> stop", "r 1: p(?x) & -> stop", "r 1: p(?x) &  -> stop", "r 1: p(?x) & & p(?x) -> stop", "r 1: p(?x) &  & p(?x) -> stop", "r 1: p(?x) -> & stop", "r 1: p(?x) ->  & stop", "r 1: p(?x) -> stop &", "r 1: p(?x) -> stop & ", "r 1: p(?x) -> stop &  & stop", "r 1 & p(?x) -> stop", "r & s 1: p(?x) -> stop", "r 1 & 2: p(?x) -> stop", "r 1: p(?x) && p(?x) -> stop", "r 1: p(?x) and p(?x) -> stop", "r 1: p(?x), p(?x) -> stop", "r 1: p(?x) p(?x) -> stop", "r 1: p(?x & ?y) -> stop", "r 1: p(?x) -> stop stop",
	// actions
	"r 1: p(?x) -> p(?x)", "r 1: p(?x) -> not p(?x)", "r 1: p(?x) -> add not p(?x)", "r 1: p(?x) -> ?x = a", "r 1: p(?x) -> add", "r 1: p(?x) -> add ", "r 1: p(?x) -> drop", "r 1: p(?x) -> drop ", "r 1: p(?x) -> stop p(?x)", "r 1: p(?x) -> stop ()", "r 1: p(?x) -> stop()", "r 1: p(?x) -> stop stop()", "r 1: p(?x) -> Stop", "r 1: p(?x) -> STOP", "r 1: p(?x) -> Add p(?x)", "r 1: p(?x) -> put p(?x)", "r 1: p(?x) -> remove p(?x)", "r 1: p(?x) -> add p", "r 1: p(?x) -> add p(?x) p(?x)", "r 1: p(?x) -> add add p(?x)", "r 1: p(?x) -> drop stop", "r 1: p(?x) -> add p(A)", "r 1: p(?x) -> drop p(a,b,c,d)", "r 1: p(?x) -> add ?x(a)",
	// conditions
	"r 1: add p(?x) -> stop", "r 1: stop -> stop", "r 1: p -> stop", "r 1: p(A) -> stop", "r 1: p(a,b,c,d) -> stop", "r 1: p(?x) & not -> stop", "r 1: p(?x) & not not q(a) -> stop", "r 1: p(?x) & ?x = -> stop", "r 1: p(?x) & ?x > a -> stop", "r 1: p(?x) & ?x == a -> stop", "r 1: p(?x) & not ?x = a -> stop",
	// bytes
	"r 1: p(\u00e9) -> stop", "\u00e9 1: p(?x) -> stop", "\xff 1: p(?x) -> stop", "r 1: p(?x) -> stop\x00", "\x00r 1: p(?x) -> stop", "r1 1: p(?x) -> stop\xff",
}

func TestParseRuleRefusesOtherTexts(t *testing.T) {
	for _, s := range noRuleTexts {
		checkNoRuleText(t, s)
	}
	for _, s := range []string{
		strings.Repeat("r 1: ", 10000), strings.Repeat(" -> ", 10000), strings.Repeat(" & ", 10000), strings.Repeat(": -> & ", 10000),
		"r 1: " + strings.Repeat("p(?x) & ", 10000) + "p(?x) -> stop", "r 1: p(?x) -> " + strings.Repeat("stop & ", 10000) + "stop", "r " + strings.Repeat("1", 10000) + ": p(?x) -> stop",
	} {
		checkNoRuleText(t, s)
	}
}

func TestFindRule(t *testing.T) {
	l := []impl.Rule{{Name: "b"}, ruleOf("a 1: z() -> stop"), {Name: "b", Priority: 1}, {Name: "A B"}, {}, ruleOf("a 2: z() -> stop"), {Name: "ab"}, {}}
	for name, want := range map[string]int{"b": 0, "a": 1, "A B": 3, "": 4, "ab": 6, "c": -1, "B": -1, "abc": -1, "A": -1, "\x00": -1} {
		if got := impl.FindRule(l, name); got != want {
			t.Errorf("FindRule of %q = %d", name, got)
		}
	}
	if impl.FindRule(nil, "") != -1 || impl.FindRule([]impl.Rule{}, "a") != -1 {
		t.Error("found in an empty list")
	}
}

func TestAreRules(t *testing.T) {
	six := rulesOf("a 1: z() -> stop", "b 1: z() -> stop", "c 1: z() -> stop", "aa 1: z() -> stop", "ab 1: z() -> stop", "a1 1: z() -> stop")
	for n := range 7 {
		if !impl.AreRules(six[:n]) {
			t.Errorf("AreRules of %d rules = false", n)
		}
	}
	seven := append(slices.Clone(six), ruleOf("seven 1: z() -> stop"))
	if !impl.AreRules(nil) || impl.AreRules(seven) || impl.AreRules(slices.Repeat(seven, 100)) {
		t.Error("the number of rules")
	}
	for i := range six {
		for j := range six {
			l := slices.Clone(six)
			l[j] = ruleOf(six[i].Name + " 2: p(?x) -> add q(?x)")
			if got := impl.AreRules(l); got != (i == j) {
				t.Errorf("rule %d has the Name of rule %d: %v", j, i, got)
			}
			l[j] = ruleOf("other 2: p(?x) -> add q(?y)")
			if impl.AreRules(l) {
				t.Errorf("rule %d is not valid", j)
			}
		}
	}
	if !impl.AreRules(rulesOf("b 1: z() -> stop", "a 9: z() -> stop")) || impl.AreRules(rulesOf("a 1: z() -> stop", "a 1: z() -> stop")) {
		t.Error("two rules")
	}
}

func TestSameRule(t *testing.T) {
	l := append(rulesOf(
		"r 1: p(?x) & ?x = a -> add p(?x) & stop", "s 1: p(?x) & ?x = a -> add p(?x) & stop", "r 2: p(?x) & ?x = a -> add p(?x) & stop",
		"r 1: p(?y) & ?x = a -> add p(?x) & stop", "r 1: p(?x) & ?x != a -> add p(?x) & stop", "r 1: p(?x) & ?y = a -> add p(?x) & stop", "r 1: p(?x) & ?x = b -> add p(?x) & stop",
		"r 1: ?x = a & p(?x) -> add p(?x) & stop", "r 1: p(?x) -> add p(?x) & stop", "r 1: p(?x) & ?x = a & ?x = a -> add p(?x) & stop", "r 1: not p(?x) & ?x = a -> add p(?x) & stop",
		"r 1: p(?x) & ?x = a -> drop p(?x) & stop", "r 1: p(?x) & ?x = a -> add q(?x) & stop", "r 1: p(?x) & ?x = a -> add p(?y) & stop", "r 1: p(?x) & ?x = a -> add p() & stop",
		"r 1: p(?x) & ?x = a -> stop & add p(?x)", "r 1: p(?x) & ?x = a -> add p(?x)", "r 1: p(?x) & ?x = a -> stop", "r 1: p(?x) & ?x = a -> add p(?x) & stop & stop",
	), impl.Rule{}, impl.Rule{Name: "?"}, impl.Rule{Priority: -1}, impl.Rule{Priority: 10}, impl.Rule{If: make([]impl.Cond, 1)}, impl.Rule{If: make([]impl.Cond, 2)}, impl.Rule{If: []impl.Cond{{Left: "A"}}}, impl.Rule{If: []impl.Cond{{Right: "A"}}},
		impl.Rule{Then: make([]impl.Action, 1)}, impl.Rule{Then: make([]impl.Action, 5)}, impl.Rule{Then: []impl.Action{{Kind: 7}}}, impl.Rule{Then: []impl.Action{{Pattern: pattern("", "")}}}, oddRule())
	for i, a := range l {
		for j, b := range l {
			if got := impl.SameRule(a, copyRule(b)); got != (i == j) {
				t.Errorf("SameRule(%+v, %+v) = %v", a, b, got)
			}
		}
	}
	empty := impl.Rule{If: []impl.Cond{}, Then: []impl.Action{}}
	if !impl.SameRule(empty, impl.Rule{}) || !impl.SameRule(impl.Rule{}, empty) {
		t.Error("nil and empty lists differ")
	}
	z := ruleOf("r 1: z() -> add z()")
	z.If[0].Pattern.Args, z.Then[0].Pattern.Args = []string{}, []string{}
	if !impl.SameRule(z, ruleOf("r 1: z() -> add z()")) || !impl.IsRule(z) {
		t.Error("nil and empty Args differ")
	}
}

func copyRule(r impl.Rule) impl.Rule {
	r.If, r.Then = slices.Clone(r.If), slices.Clone(r.Then)
	for i := range r.If {
		r.If[i].Pattern.Args = slices.Clone(r.If[i].Pattern.Args)
	}
	for i := range r.Then {
		r.Then[i].Pattern.Args = slices.Clone(r.Then[i].Pattern.Args)
	}
	return r
}

// roomyRule returns a rule whose lists have spare capacity, which holds other parts.
func roomyRule(text string) impl.Rule {
	r := ruleOf(text)
	for i := range r.If {
		r.If[i].Pattern.Args = roomyTexts(r.If[i].Pattern.Args...)
	}
	for i := range r.Then {
		r.Then[i].Pattern.Args = roomyTexts(r.Then[i].Pattern.Args...)
	}
	r.If = append(r.If, has("spare(?s)"), has("room(?r)"), has("behind(?b)"))[:len(r.If)]
	r.Then = append(r.Then, adds("spare(?s)"), adds("room(?r)"))[:len(r.Then)]
	return r
}

// wholeRule is a deep copy of a rule and its lists up to their capacities.
func wholeRule(r impl.Rule) impl.Rule {
	r.If, r.Then = wholeList(r.If), wholeList(r.Then)
	for i := range r.If {
		r.If[i].Pattern.Args = wholeList(r.If[i].Pattern.Args)
	}
	for i := range r.Then {
		r.Then[i].Pattern.Args = wholeList(r.Then[i].Pattern.Args)
	}
	return r
}

func TestRulesStayAsTheyAre(t *testing.T) {
	r := roomyRule("r 1: p(?y,?x) & not q(?z,?y) & ?x = a -> add q(?y) & drop p(?y,?x)")
	bad := roomyRule("r 1: p(?y,?x) & not q(?z,?y) & q(?z) -> add q(?w)")
	none := roomyRule("r 1: z() -> stop")
	rules := append([]impl.Rule{r, none}, bad, bad)[:2]
	calls := map[string]func(){
		"BoundVars":       func() { overwrite(impl.BoundVars(r, 1), "own") },
		"BoundVars, all":  func() { overwrite(impl.BoundVars(r, 9), "own") },
		"BoundVars, none": func() { overwrite(impl.BoundVars(none, 1), "own") },
		"RuleVars":        func() { overwrite(impl.RuleVars(r), "own") },
		"RuleVars, none":  func() { overwrite(impl.RuleVars(none), "own") },
		"ReadsOf":         func() { overwrite(impl.ReadsOf(r), "own") },
		"WritesOf":        func() { overwrite(impl.WritesOf(r), "own") },
		"WritesOf, none":  func() { overwrite(impl.WritesOf(none), "own") },
		"others": func() {
			impl.IsAction(r.Then[0])
			impl.FormatAction(r.Then[0])
			for _, x := range []impl.Rule{r, bad, none} {
				impl.IsRule(x)
				impl.IsMonotone(x)
				impl.Specificity(x)
				impl.FormatRule(x)
				impl.SameRule(x, r)
				impl.FindRule(rules, x.Name)
			}
			impl.AreRules(rules)
		},
	}
	checkArguments(t, calls, func() []any {
		l := []any{}
		for _, x := range append(wholeList(rules), r, bad, none) {
			l = append(l, wholeRule(x))
		}
		return l
	})
}

func TestReadRulesHaveTheirOwnMemory(t *testing.T) {
	const text = "r 1: p(?x,a) & p(?x,a) & not p(?x,a) -> add p(?x,a) & add p(?x,a)"
	first, ok := impl.ParseRule(text)
	if !ok {
		t.Fatal(text)
	}
	lists := []*[]string{}
	for i := range first.If {
		lists = append(lists, &first.If[i].Pattern.Args)
	}
	for i := range first.Then {
		lists = append(lists, &first.Then[i].Pattern.Args)
	}
	for i, l := range lists {
		overwrite(*l, "own"+strconv.Itoa(i))
	}
	for i, l := range lists {
		if own := "own" + strconv.Itoa(i); !reflect.DeepEqual(*l, []string{own, own}) {
			t.Errorf("%d shares its memory: %q", i, *l)
		}
	}
	if second, ok := impl.ParseRule(text); !ok || !equalRules(second, ruleOf(text)) {
		t.Error(second, ok)
	}
}
