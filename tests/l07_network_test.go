package tests

import (
	"math"
	"math/rand"
	"slices"
	"strconv"
	"strings"
	"testing"

	"loop.example/g03015/impl"
)

func equalAlphas(a impl.Alpha, b impl.Alpha) bool {
	return a.Shape.Rel == b.Shape.Rel && slices.Equal(a.Shape.Args, b.Shape.Args) && equalFacts(a.Facts, b.Facts)
}

func equalNodes(a impl.Node, b impl.Node) bool {
	return a.Parent == b.Parent && equalConds(a.Cond, b.Cond) && a.Alpha == b.Alpha && slices.EqualFunc(a.Tokens, b.Tokens, equalTokens)
}

// equalNetworks compares without the functions under test; nil and empty lists are equal.
func equalNetworks(a impl.Network, b impl.Network) bool {
	return slices.EqualFunc(a.Rules, b.Rules, equalRules) && slices.Equal(a.Ends, b.Ends) && slices.EqualFunc(a.Alphas, b.Alphas, equalAlphas) &&
		slices.EqualFunc(a.Nodes, b.Nodes, equalNodes) && equalFacts(a.Facts, b.Facts) && a.Tries == b.Tries
}

func copyFacts(l []impl.Fact) []impl.Fact {
	l = slices.Clone(l)
	for i := range l {
		l[i].Args = slices.Clone(l[i].Args)
	}
	return l
}

func copyNetwork(n impl.Network) impl.Network {
	n.Rules, n.Ends, n.Alphas, n.Nodes, n.Facts = slices.Clone(n.Rules), slices.Clone(n.Ends), slices.Clone(n.Alphas), slices.Clone(n.Nodes), copyFacts(n.Facts)
	for i := range n.Rules {
		n.Rules[i] = copyRule(n.Rules[i])
	}
	for i := range n.Alphas {
		n.Alphas[i].Shape.Args = slices.Clone(n.Alphas[i].Shape.Args)
		n.Alphas[i].Facts = copyFacts(n.Alphas[i].Facts)
	}
	for i := range n.Nodes {
		node := &n.Nodes[i]
		node.Cond.Pattern.Args, node.Tokens = slices.Clone(node.Cond.Pattern.Args), slices.Clone(node.Tokens)
		for j, x := range node.Tokens {
			node.Tokens[j] = impl.Token{Facts: copyFacts(x.Facts), Binding: slices.Clone(x.Binding)}
		}
	}
	return n
}

// structure is what the network of some rules must look like: of each node but node 0 its Parent, its Alpha and its Cond.
type structure struct {
	rules  []string
	ends   []int
	shapes string
	nodes  []string
	shared int
}

var twoRules = structure{[]string{"r1 1: on(?x,?y) & p(?y) -> add p(?x)", "r2 1: on(?u,?v) & not p(?v) -> add q(?v)"}, []int{2, 3}, "on(?1,?2) p(?1)", []string{"0 0 on(?1,?2)", "1 1 p(?2)", "1 1 not p(?2)"}, 1}

var withTests = structure{[]string{"r 1: p(?x) & ?x = a & q(?y) & ?y < ?x -> stop", "s 1: p(?y) & ?y = a & q(?y) -> stop", "t 1: p(?y) & a = ?y -> stop", "u 1: p(?x) & ?x != a & ?x = a -> stop"}, []int{4, 5, 6, 8}, "p(?1) q(?1)", []string{"0 0 p(?1)", "1 -1 ?1 = a", "2 1 q(?2)", "3 -1 ?2 < ?1", "2 1 q(?1)", "1 -1 a = ?1", "1 -1 ?1 != a", "7 -1 ?1 = a"}, 4}

var structures = []structure{
	{},
	{[]string{"r 1: p(?x) -> stop"}, []int{1}, "p(?1)", []string{"0 0 p(?1)"}, 0},
	{[]string{"r 1: z() -> stop"}, []int{1}, "z()", []string{"0 0 z()"}, 0},
	{[]string{"r 1: p(a,?x,a) & q(?y) -> stop"}, []int{2}, "p(a,?1,a) q(?1)", []string{"0 0 p(a,?1,a)", "1 1 q(?2)"}, 0},
	twoRules,
	// rules whose conditions differ in their names for variables only, also in plain names in another order
	{[]string{"r 1: p(?x,?y) & q(?y) -> stop", "s 9: p(?b,?a) & q(?a) -> add q(?b)", "t 0: p(?2,?1) & q(?1) -> drop q(?2)"}, []int{2, 2, 2}, "p(?1,?2) q(?1)", []string{"0 0 p(?1,?2)", "1 1 q(?2)"}, 4},
	{[]string{"a 1: p(?2,?1) & q(?2) & ?1 != ?2 -> stop", "b 1: p(?1,?2) & q(?1) & ?2 != ?1 -> stop", "c 1: p(?1,?2) & q(?2) & ?1 != ?2 -> stop"}, []int{3, 3, 5}, "p(?1,?2) q(?1)", []string{"0 0 p(?1,?2)", "1 1 q(?1)", "2 -1 ?2 != ?1", "1 1 q(?2)", "4 -1 ?1 != ?2"}, 4},
	{[]string{"f 1: z() -> stop", "e 2: z() -> stop", "d 3: z() -> stop", "c 4: z() -> stop", "b 5: z() -> stop", "a 6: z() -> stop"}, []int{1, 1, 1, 1, 1, 1}, "z()", []string{"0 0 z()"}, 5},
	// rules that begin alike, and then differ
	{[]string{"r 1: p(?x) & q(?x) & p(a) -> stop", "s 1: p(?y) & q(?y) & p(b) -> stop", "t 1: p(?y) & q(?z) & p(a) -> stop"}, []int{3, 4, 6}, "p(?1) q(?1) p(a) p(b)", []string{"0 0 p(?1)", "1 1 q(?1)", "2 2 p(a)", "2 3 p(b)", "1 1 q(?2)", "5 2 p(a)"}, 3},
	{[]string{"r 1: p(?x) & q(?x) -> stop", "s 1: q(?x) & p(?x) -> stop"}, []int{2, 4}, "p(?1) q(?1)", []string{"0 0 p(?1)", "1 1 q(?1)", "0 1 q(?1)", "3 0 p(?1)"}, 0},
	{[]string{"r 1: p(?x,?x) -> stop", "s 1: p(?x,?y) -> stop", "t 1: p(?y,?y) & p(?x,?y) -> stop"}, []int{1, 2, 3}, "p(?1,?1) p(?1,?2)", []string{"0 0 p(?1,?1)", "0 1 p(?1,?2)", "1 1 p(?2,?1)"}, 1},
	{[]string{"r 1: p() -> stop", "s 1: p(?x) -> stop", "t 1: p(?x,?y) -> stop", "u 1: q() -> stop"}, []int{1, 2, 3, 4}, "p() p(?1) p(?1,?2) q()", []string{"0 0 p()", "0 1 p(?1)", "0 2 p(?1,?2)", "0 3 q()"}, 0},
	// the same condition behind different nodes, of one rule and of several; also behind itself
	{[]string{"r 1: p(?x) & z() -> stop", "s 1: q(?x) & z() -> stop", "t 1: z() -> stop"}, []int{2, 4, 5}, "p(?1) z() q(?1)", []string{"0 0 p(?1)", "1 1 z()", "0 2 q(?1)", "3 1 z()", "0 1 z()"}, 0},
	{[]string{"r 1: z() & z() & z() -> stop", "s 1: z() & z() & p(?x) & z() -> stop"}, []int{3, 5}, "z() p(?1)", []string{"0 0 z()", "1 0 z()", "2 0 z()", "2 1 p(?1)", "4 0 z()"}, 2},
	{[]string{"r 1: p(?x) & p(?x) & p(?y) & p(?x) -> stop"}, []int{4}, "p(?1)", []string{"0 0 p(?1)", "1 0 p(?1)", "2 0 p(?2)", "3 0 p(?1)"}, 0},
	// a rule that is the beginning of another one, before it and behind it
	{[]string{"r 1: p(?x) & q(?x) -> stop", "s 1: p(?y) -> stop", "t 1: p(?z) & q(?z) & ?z != a -> stop"}, []int{2, 1, 3}, "p(?1) q(?1)", []string{"0 0 p(?1)", "1 1 q(?1)", "2 -1 ?1 != a"}, 3},
	// tests
	withTests,
	{[]string{"r 1: z() & 1 < 2 -> stop", "s 1: z() & 1 < 2 & 1 != 2 -> stop", "t 1: z() & 1 = 2 -> stop"}, []int{2, 3, 4}, "z()", []string{"0 0 z()", "1 -1 1 < 2", "2 -1 1 != 2", "1 -1 1 = 2"}, 3},
	// conditions with one Shape, of which some must not hold
	{[]string{"r 1: p(?x) & not p(a) & not p(?y) -> stop", "s 1: p(?x) & p(a) -> stop", "t 1: p(a) & not p(?x) -> stop"}, []int{3, 4, 6}, "p(?1) p(a)", []string{"0 0 p(?1)", "1 1 not p(a)", "2 0 not p(?2)", "1 1 p(a)", "0 1 p(a)", "5 0 not p(?1)"}, 1},
	{[]string{"r 1: p(?x,?y) & not p(?y,?x) & not p(?y,?z) & p(?x,?x) -> stop"}, []int{4}, "p(?1,?2) p(?1,?1)", []string{"0 0 p(?1,?2)", "1 0 not p(?2,?1)", "2 0 not p(?2,?3)", "3 1 p(?1,?1)"}, 0},
	// a variable occurs first in an absence, before the presences behind it
	{[]string{"r 1: p(a) & not p(?z,b) & p(?x,?a) & p(?x) -> stop"}, []int{4}, "p(a) p(?1,b) p(?1,?2) p(?1)", []string{"0 0 p(a)", "1 1 not p(?1,b)", "2 2 p(?2,?3)", "3 3 p(?2)"}, 0},
	// MaxVars variables and MaxConds conditions
	{[]string{"r 1: p(?f,?e,?d) & p(?c,?b,?a) & not q(?a) & ?a < ?f -> stop", "s 1: p(?6,?5,?4) & p(?3,?2,?1) & not q(?6) -> stop"}, []int{4, 5}, "p(?1,?2,?3) q(?1)", []string{"0 0 p(?1,?2,?3)", "1 0 p(?4,?5,?6)", "2 1 not q(?6)", "3 -1 ?6 < ?1", "2 1 not q(?1)"}, 2},
}

// pathIn returns the conditions on the path to a node of a network that the test has made.
func pathIn(n impl.Network, node int) []impl.Cond {
	if node == 0 {
		return []impl.Cond{}
	}
	return append(pathIn(n, n.Nodes[node].Parent), n.Nodes[node].Cond)
}

// networkFrom makes the network with a structure and the contents that the facts give it, without the functions under test.
func networkFrom(s structure, facts []impl.Fact) impl.Network {
	n := impl.Network{Rules: rulesOf(s.rules...), Ends: slices.Clone(s.ends), Nodes: []impl.Node{{Parent: -1, Alpha: -1}}, Facts: facts}
	for _, text := range strings.Fields(s.shapes) {
		n.Alphas = append(n.Alphas, impl.Alpha{Shape: patternOf(text)})
	}
	for _, text := range s.nodes {
		parts := strings.SplitN(text, " ", 3)
		node := impl.Node{Cond: condOf(parts[2])}
		node.Parent, _ = strconv.Atoi(parts[0])
		node.Alpha, _ = strconv.Atoi(parts[1])
		n.Nodes = append(n.Nodes, node)
	}
	return filled(n, facts)
}

// filled gives a network that the test has made the contents that the facts give it.
func filled(n impl.Network, facts []impl.Fact) impl.Network {
	n = copyNetwork(n)
	n.Facts = facts
	for i, alpha := range n.Alphas {
		n.Alphas[i].Facts = matching(alpha.Shape, nil, facts)
	}
	for i := range n.Nodes {
		n.Nodes[i].Tokens = tokensAgain(pathIn(n, i), facts)
	}
	return n
}

func TestStructuresOfNetworks(t *testing.T) {
	for _, s := range structures {
		rules, want := rulesOf(s.rules...), networkFrom(s, nil)
		got, ok := impl.EmptyNetwork(rules)
		if !ok || !equalNetworks(got, want) {
			t.Errorf("EmptyNetwork(%q) = %+v, %v", s.rules, got, ok)
		}
		if got := impl.SharedNodes(rules); got != s.shared {
			t.Errorf("SharedNodes(%q) = %d, not %d", s.rules, got, s.shared)
		}
		for _, text := range factsToMatch {
			checkNetwork(t, networkFrom(s, listOf(text)))
		}
	}
}

// checkNetwork checks all that chapter 7 says of a network that the test has made.
func checkNetwork(t *testing.T, n impl.Network) {
	t.Helper()
	if got, ok := impl.EmptyNetwork(n.Rules); !ok || !equalNetworks(got, filled(n, nil)) {
		t.Fatalf("EmptyNetwork(%+v) = %+v, %v", n.Rules, got, ok)
	}
	if !impl.IsNetwork(n) {
		t.Fatalf("IsNetwork(%+v) = false", n)
	}
	matches, size, conds := []impl.Match{}, 0, 0
	for _, r := range n.Rules {
		matches = append(matches, matchesOf(r.Name, tokensAgain(r.If, n.Facts))...)
		conds += len(r.If)
	}
	if got := impl.ConflictSet(n); !slices.EqualFunc(got, matches, equalMatches) {
		t.Fatalf("ConflictSet(%+v) = %q, not %q", n, got, matches)
	}
	if got := impl.AllMatches(n.Rules, n.Facts); !slices.EqualFunc(got, matches, equalMatches) {
		t.Fatalf("AllMatches(%+v, %q) = %q, not %q", n.Rules, n.Facts, got, matches)
	}
	for _, alpha := range n.Alphas {
		size += len(alpha.Facts)
	}
	for i, node := range n.Nodes {
		size += len(node.Tokens)
		if got := impl.PathOf(n, i); !slices.EqualFunc(got, pathIn(n, i), equalConds) {
			t.Fatalf("PathOf(%+v, %d) = %+v", n, i, got)
		}
	}
	if got := impl.NetworkSize(n); got != size {
		t.Fatalf("NetworkSize(%+v) = %d", n, got)
	}
	if got := impl.SharedNodes(n.Rules); got != conds-len(n.Nodes)+1 {
		t.Fatalf("SharedNodes(%+v) = %d", n.Rules, got)
	}
	if !impl.SameMemories(n, copyNetwork(n)) {
		t.Fatalf("SameMemories(%+v) of its copy = false", n)
	}
}

// plainAgain gives the variables of a list of texts plain names a second time; others stay.
func plainAgain(texts []string, names map[string]string) []string {
	l := []string{}
	for _, text := range texts {
		if varText.MatchString(text) {
			if names[text] == "" {
				names[text] = "?" + strconv.Itoa(len(names)+1)
			}
			text = names[text]
		}
		l = append(l, text)
	}
	return l
}

func plainCondsAgain(conds []impl.Cond, names map[string]string) []impl.Cond {
	l := []impl.Cond{}
	for _, x := range conds {
		x.Pattern.Args = plainAgain(x.Pattern.Args, names)
		sides := plainAgain([]string{x.Left, x.Right}, names)
		x.Left, x.Right = sides[0], sides[1]
		l = append(l, x)
	}
	return l
}

// networkAgain makes the network of some rules a second time: its nodes are the different beginnings of the plain conditions.
func networkAgain(rules []impl.Rule, facts []impl.Fact) impl.Network {
	n, beginnings := impl.Network{Rules: rules}, [][]impl.Cond{{}}
	placeOf := func(conds []impl.Cond) int {
		return slices.IndexFunc(beginnings, func(l []impl.Cond) bool { return slices.EqualFunc(l, conds, equalConds) })
	}
	for _, r := range rules {
		conds := plainCondsAgain(r.If, map[string]string{})
		for i := range conds {
			if placeOf(conds[:i+1]) < 0 {
				beginnings = append(beginnings, conds[:i+1])
			}
		}
		n.Ends = append(n.Ends, placeOf(conds))
	}
	for i, conds := range beginnings {
		node := impl.Node{Parent: -1, Alpha: -1}
		if i > 0 {
			node.Parent, node.Cond = placeOf(conds[:len(conds)-1]), conds[len(conds)-1]
		}
		if node.Cond.Kind == impl.CondHas || node.Cond.Kind == impl.CondNot {
			shape := impl.Alpha{Shape: impl.Pattern{Rel: node.Cond.Pattern.Rel, Args: plainAgain(node.Cond.Pattern.Args, map[string]string{})}}
			node.Alpha = slices.IndexFunc(n.Alphas, func(x impl.Alpha) bool { return equalAlphas(x, shape) })
			if node.Alpha < 0 {
				node.Alpha = len(n.Alphas)
				n.Alphas = append(n.Alphas, shape)
			}
		}
		n.Nodes = append(n.Nodes, node)
	}
	return filled(n, facts)
}

func withNames(x impl.Cond, names map[string]string) impl.Cond {
	sides := replaced([]string{x.Left, x.Right}, names)
	return impl.Cond{Kind: x.Kind, Pattern: pattern(x.Pattern.Rel, replaced(x.Pattern.Args, names)...), Left: sides[0], Right: sides[1]}
}

// withOtherNames gives the variables of a rule other names, in any order.
func withOtherNames(random *rand.Rand, r impl.Rule) impl.Rule {
	others := strings.Fields("?1 ?2 ?3 ?4 ?5 ?6 ?a ?x ?y ?z")
	random.Shuffle(len(others), func(i int, j int) { others[i], others[j] = others[j], others[i] })
	names := map[string]string{}
	for _, v := range strings.Fields("?w ?x ?y ?z") {
		names[v] = others[len(names)]
	}
	r = copyRule(r)
	for i, x := range r.If {
		r.If[i] = withNames(x, names)
	}
	return r
}

// someRules returns up to four rules of conditions of which many are alike.
func someRules(random *rand.Rand) []impl.Rule {
	rules := []impl.Rule{}
	for range random.Intn(5) {
		conds, want := []string{}, 1+random.Intn(3)
		for len(conds) < want {
			more := append(slices.Clone(conds), condsToMatch[random.Intn(len(condsToMatch))])
			if len(conds) == 0 {
				more[0] = condsToMatch[random.Intn(7)]
			}
			if _, ok := validRule(more); ok {
				conds = more
			}
		}
		r, _ := validRule(conds)
		r = withOtherNames(random, r)
		r.Name = string(rune('z' - len(rules)))
		rules = append(rules, r)
	}
	return rules
}

func TestNetworksHoldWhatPlainMatchingFinds(t *testing.T) {
	random := rand.New(rand.NewSource(7))
	shared := 0
	for i := range 3000 {
		rules := someRules(random)
		n := networkAgain(rules, someFacts(random, 6))
		checkNetwork(t, n)
		if impl.SharedNodes(rules) > 1 {
			shared++
		}
		if i%20 > 0 {
			continue
		}
		for name, x := range wrongNetworks(n) {
			if impl.IsNetwork(x) {
				t.Fatalf("IsNetwork = true: %s: %+v", name, x)
			}
		}
	}
	if shared < 200 {
		t.Errorf("only %d networks of rules that share more than one node", shared)
	}
}

// The rules of a network may change where their conditions stay the same but for the names for variables.
func TestNetworksOfRulesWithOtherNames(t *testing.T) {
	s := structure{[]string{"r 1: p(?x,?y) & not p(?y,?z) -> stop", "s 1: p(?2,?1) & ?1 = a -> add p(?2)"}, []int{2, 3}, "p(?1,?2)", []string{"0 0 p(?1,?2)", "1 0 not p(?2,?3)", "1 -1 ?2 = a"}, 1}
	n := networkFrom(s, factsOf("p(a,b)", "p(b,1)", "p(b,a)"))
	checkNetwork(t, n)
	n.Rules = rulesOf("s 9: p(?b,?a) & not p(?a,?1) -> drop p(?a,?b) & stop", "r 0: p(?x,?z) & ?z = a -> stop")
	checkNetwork(t, n)
	n.Rules = rulesOf("r 1: p(?x,?y) & not p(?y,?z) -> stop", "s 1: p(?1,?2) & ?1 = a -> add p(?2)")
	if impl.IsNetwork(n) || len(impl.ConflictSet(n)) != 0 {
		t.Error("rules with other conditions")
	}
}

func TestShapeOf(t *testing.T) {
	many := []string{}
	for i := range 12 {
		many = append(many, "?v"+strconv.Itoa(i))
	}
	cases := []struct{ p, want impl.Pattern }{
		{patternOf("on(?x,?y)"), patternOf("on(?1,?2)")},
		{patternOf("on(?y,?x)"), patternOf("on(?1,?2)")},
		{patternOf("on(?y,?y)"), patternOf("on(?1,?1)")},
		{patternOf("on(?y,?x,?y)"), patternOf("on(?1,?2,?1)")},
		{patternOf("on(?x,?y,?y)"), patternOf("on(?1,?2,?2)")},
		{patternOf("on(?2,?1)"), patternOf("on(?1,?2)")},
		{patternOf("on(?3,?1,?2)"), patternOf("on(?1,?2,?3)")},
		{patternOf("on(?2,?2,?1)"), patternOf("on(?1,?1,?2)")},
		{patternOf("on(?1,?2)"), patternOf("on(?1,?2)")},
		{patternOf("on(a,?x,1)"), patternOf("on(a,?1,1)")},
		{patternOf("on(x,?x)"), patternOf("on(x,?1)")},
		{patternOf("on(1,?y,2)"), patternOf("on(1,?1,2)")},
		{patternOf("on(a,b)"), patternOf("on(a,b)")},
		{patternOf("z()"), patternOf("z()")},
		{impl.Pattern{Rel: "z", Args: []string{}}, patternOf("z()")},
		{impl.Pattern{}, impl.Pattern{}},
		{pattern("?x", "?x"), pattern("?x", "?1")}, // the Rel stays
		{pattern("A", "?", "?x", "?abcdefghi", "", "?X", "A", "?y", "?", "? ", "?x", "??y", "x?"), pattern("A", "?", "?1", "?abcdefghi", "", "?X", "A", "?2", "?", "? ", "?1", "??y", "x?")},
		{pattern("p", many...), pattern("p", "?1", "?2", "?3", "?4", "?5", "?6", "?7", "?8", "?9", "?10", "?11", "?12")},
		{pattern("p", append([]string{"?10"}, many[:9]...)...), pattern("p", "?1", "?2", "?3", "?4", "?5", "?6", "?7", "?8", "?9", "?10")},
		{pattern("p", "?abcdefgh", "?12345678", "?0"), pattern("p", "?1", "?2", "?3")},
	}
	for _, c := range cases {
		if got := impl.ShapeOf(c.p); got.Rel != c.want.Rel || !slices.Equal(got.Args, c.want.Args) {
			t.Errorf("ShapeOf(%q) = %q, not %q", c.p, got, c.want)
		}
	}
	for _, f := range append(badTuples(noAtoms), badTuples(noTerms)...) {
		if got, want := impl.ShapeOf(impl.Pattern(f)), plainAgain(f.Args, map[string]string{}); got.Rel != f.Rel || !slices.Equal(got.Args, want) {
			t.Errorf("ShapeOf(%q) = %q", f, got)
		}
	}
}

// Patterns with one Shape are the same but for the names for variables: each covers the other one.
func TestPatternsWithOneShapeCoverEachOther(t *testing.T) {
	l := tuples(3, "?x", "?y", "?1", "?2", "a", "1")
	for _, a := range l {
		shape := impl.ShapeOf(pattern("p", a...))
		if again := impl.ShapeOf(shape); !slices.Equal(again.Args, shape.Args) {
			t.Errorf("ShapeOf(%q) = %q", shape, again)
		}
		for _, b := range l {
			p, q := pattern("p", a...), pattern("p", b...)
			same := slices.Equal(shape.Args, impl.ShapeOf(q).Args)
			if same != (impl.CoversPattern(p, q) && impl.CoversPattern(q, p)) {
				t.Errorf("%q and %q: one Shape: %v", p, q, same)
			}
		}
	}
}

// full is a condition of any Kind with all fields.
func full(kind int, left string, right string, args ...string) impl.Cond {
	return impl.Cond{Kind: kind, Pattern: pattern("p", args...), Left: left, Right: right}
}

func TestPlainNames(t *testing.T) {
	manyArgs, manyConds, plain := []string{}, []impl.Cond{}, []string{}
	for i := range 12 {
		v := "?v" + strconv.Itoa(20-i)
		manyArgs, manyConds = append(manyArgs, v), append(manyConds, test(9, v, "?v20"))
		plain = append(plain, v+"=?"+strconv.Itoa(i+1))
	}
	many := strings.Join(plain, " ")
	cases := []struct {
		conds []impl.Cond
		names string // in the order of the plain names
	}{
		{nil, "-"},
		{[]impl.Cond{}, "-"},
		{ruleOf("r 1: z() & p(a,1) & 1 < 2 -> add p(?x)").If, "-"},
		{ruleOf("r 1: on(?x,?y) & p(?y) -> stop").If, "?x=?1 ?y=?2"},
		{ruleOf("r 1: on(?y,?x) & p(?y) -> stop").If, "?y=?1 ?x=?2"},
		{ruleOf("r 1: on(?x,?x) & p(?y,?x) -> stop").If, "?x=?1 ?y=?2"},
		{ruleOf("r 1: p(?2,?1) & q(?1) -> stop").If, "?2=?1 ?1=?2"},
		{ruleOf("r 1: p(?3,?1) & q(?2) & ?1 != ?2 -> stop").If, "?3=?1 ?1=?2 ?2=?3"},
		{ruleOf("r 1: p(?1,?2) & ?2 != ?1 -> stop").If, "?1=?1 ?2=?2"},
		{ruleOf("r 1: p(a) & not q(?z,?x) & q(?y) -> stop").If, "?z=?1 ?x=?2 ?y=?3"},
		{ruleOf("r 1: p(?f,?e,?d) & p(?c,?b,?a) & ?a < ?f -> stop").If, "?f=?1 ?e=?2 ?d=?3 ?c=?4 ?b=?5 ?a=?6"},
		// first in Left, in Right or in Args, where the rule is not valid
		{ruleOf("r 1: ?b < ?a & p(?a,?b,?c) -> stop").If, "?b=?1 ?a=?2 ?c=?3"},
		{ruleOf("r 1: p(?c) & ?b = ?a & p(?d) & 1 != ?e & ?f < 1 & p(?a) -> stop").If, "?c=?1 ?b=?2 ?a=?3 ?d=?4 ?e=?5 ?f=?6"},
		{ruleOf("r 1: ?x = ?x & not p(?y) -> stop").If, "?x=?1 ?y=?2"},
		{[]impl.Cond{full(impl.CondHas, "?b", "?a", "?d", "?c")}, "?d=?1 ?c=?2 ?b=?3 ?a=?4"},
		{[]impl.Cond{full(impl.CondNot, "?b", "?c", "?a"), full(impl.CondSame, "?d", "?a", "?e")}, "?a=?1 ?b=?2 ?c=?3 ?e=?4 ?d=?5"},
		{[]impl.Cond{full(0, "?b", "?d", "?a"), full(-1, "", "?c", "?a", "?a"), full(6, "?2", "?1")}, "?a=?1 ?b=?2 ?d=?3 ?c=?4 ?2=?5 ?1=?6"},
		{[]impl.Cond{full(impl.CondLess, "?", "?X", "", "A", "?abcdefghi", "x", "?z"), full(impl.CondHas, "a", "??a", " ?a")}, "?z=?1"},
		{[]impl.Cond{full(impl.CondHas, "", "", manyArgs...)}, many},
		{manyConds, "?v20=?1 ?v19=?2 ?v18=?3 ?v17=?4 ?v16=?5 ?v15=?6 ?v14=?7 ?v13=?8 ?v12=?9 ?v11=?10 ?v10=?11 ?v9=?12"},
		{oddRule().If, "?n=?1 ?h4=?2 ?h3=?3 ?h2=?4 ?h1=?5 ?l=?6 ?s=?7 ?t=?8 ?r=?9 ?k=?10 ?b=?11 ?o=?12"},
	}
	for _, c := range cases {
		checkPlainNames(t, impl.Rule{Name: "r", If: c.conds, Then: []impl.Action{adds("p(?w,?x)")}}, pairsOf(c.names))
		checkPlainNames(t, impl.Rule{If: c.conds}, pairsOf(c.names))
	}
	checkPlainNames(t, impl.Rule{}, nil)
}

// checkPlainNames checks PlainConds, too: with the plain names, all else stays.
func checkPlainNames(t *testing.T, r impl.Rule, want []impl.Pair) {
	t.Helper()
	if got := impl.PlainNames(r); !slices.Equal(got, want) {
		t.Errorf("PlainNames(%+v) = %q, not %q", r, got, want)
	}
	conds := plainCondsAgain(r.If, mapOf(want))
	if got := impl.PlainConds(r); !slices.EqualFunc(got, conds, equalConds) {
		t.Errorf("PlainConds(%+v) = %+v, not %+v", r, got, conds)
	}
}

func TestPlainConds(t *testing.T) {
	cases := []struct{ rule, want string }{
		{"r 1: on(?x,?y) & not p(?y) & ?y != ?x & ?x = a -> add q(?x)", "r 1: on(?1,?2) & not p(?2) & ?2 != ?1 & ?1 = a -> stop"},
		{"r 1: p(?2,?1) & q(?1,?2) & ?1 < ?2 -> stop", "r 1: p(?1,?2) & q(?2,?1) & ?2 < ?1 -> stop"},
		{"r 1: p(?3,?1,?2) & q(?1,?2,?3) -> stop", "r 1: p(?1,?2,?3) & q(?2,?3,?1) -> stop"},
		{"r 1: ?b < ?a & p(?a,?b,?c) & ?c = ?a -> stop", "r 1: ?1 < ?2 & p(?2,?1,?3) & ?3 = ?2 -> stop"},
		{"r 1: z() & p(x,1,?x) & 1 < 2 -> stop", "r 1: z() & p(x,1,?1) & 1 < 2 -> stop"},
		{"r 1: p(?a,?b) & p(?c,?d) & p(?e,?f) & p(?g,?h) & p(?i,?j) & q(?a,?j) -> stop", "r 1: p(?1,?2) & p(?3,?4) & p(?5,?6) & p(?7,?8) & p(?9,?10) & q(?1,?10) -> stop"},
	}
	for _, c := range cases {
		if got := impl.PlainConds(ruleOf(c.rule)); !slices.EqualFunc(got, ruleOf(c.want).If, equalConds) {
			t.Errorf("PlainConds(%s) = %+v", c.rule, got)
		}
	}
	odd := []impl.Cond{full(7, "?", "?y", "A", "?y", "", "?x"), {}, full(impl.CondNot, "?x", "B")}
	if got := impl.PlainConds(impl.Rule{If: odd}); !slices.EqualFunc(got, []impl.Cond{full(7, "?", "?1", "A", "?1", "", "?2"), {}, full(impl.CondNot, "?2", "B")}, equalConds) {
		t.Errorf("PlainConds of %+v: %+v", odd, got)
	}
}

// noRules returns lists for which AreRules is false.
func noRules() [][]impl.Rule {
	one := ruleOf("r 1: p(?x) -> stop")
	seven := rulesOf("a 1: z() -> stop", "b 1: z() -> stop", "c 1: z() -> stop", "d 1: z() -> stop", "e 1: z() -> stop", "f 1: z() -> stop", "g 1: z() -> stop")
	l := [][]impl.Rule{seven, slices.Repeat(seven, 10), {one, one}, {one, seven[0], one}, {{}}, {one, {}}, {oddRule()}, {oddRule(), one}}
	for _, text := range lawlessRules {
		l = append(l, rulesOf(text), []impl.Rule{seven[0], ruleOf(text)}, []impl.Rule{ruleOf(text), seven[0]})
	}
	return l
}

func TestNoNetworkOfRulesThatAreNotValid(t *testing.T) {
	for _, rules := range noRules() {
		if n, ok := impl.EmptyNetwork(rules); ok || !equalNetworks(n, impl.Network{}) {
			t.Errorf("EmptyNetwork(%+v) = %+v, %v", rules, n, ok)
		}
		if got := impl.SharedNodes(rules); got != -1 {
			t.Errorf("SharedNodes(%+v) = %d", rules, got)
		}
		// whatever else the network has
		for _, n := range []impl.Network{{Rules: rules}, networkAgain(rulesOf("r 1: p(?x) -> stop"), nil)} {
			n.Rules = rules
			if impl.IsNetwork(n) || len(impl.ConflictSet(n)) != 0 {
				t.Errorf("IsNetwork(%+v) = true", n)
			}
		}
	}
}

// The structure and the contents may be right where only the rules are not.
func TestOnlyTheRulesOfANetworkAreNotValid(t *testing.T) {
	facts := factsOf("p(a)", "p(b)")
	for _, texts := range [][]string{
		{"r 10: p(?x) -> stop"}, {"r -1: p(?x) -> stop"}, {"R 1: p(?x) -> stop"}, {"r 1: p(?x) -> add p(?y)"}, {"r 1: p(?x) -> stop & stop & stop"},
		{"r 1: p(?x) -> stop", "r 2: p(?x) -> stop"}, {"r 1: p(?x) -> stop", "s 1: p(?x) & p(a) -> stop", "r 1: p(?x) & p(b) -> stop"},
		{"a 1: p(?x) -> stop", "b 1: p(?x) -> stop", "c 1: p(?x) -> stop", "d 1: p(?x) -> stop", "e 1: p(?x) -> stop", "f 1: p(?x) -> stop", "g 1: p(?x) -> stop"},
		{"r 1: p(?x) & p(a) & p(b) & p(a) & p(?x) -> stop"}, {"r 1: not p(1) & p(?x) -> stop"}, {"r 1: p(?x) & not p(?y,?z) & not p(?y) -> stop"},
	} {
		n := networkAgain(rulesOf(texts...), facts)
		if impl.IsNetwork(n) || len(impl.ConflictSet(n)) != 0 {
			t.Errorf("IsNetwork of %q = true", texts)
		}
	}
}

func TestNetworkOfNoRules(t *testing.T) {
	for _, none := range [][]impl.Rule{nil, {}} {
		n, ok := impl.EmptyNetwork(none)
		if !ok || len(n.Nodes) != 1 || len(n.Nodes[0].Tokens) != 1 || len(n.Alphas) != 0 || len(n.Ends) != 0 || !impl.IsNetwork(n) {
			t.Errorf("EmptyNetwork of no rules: %+v, %v", n, ok)
		}
		if len(impl.ConflictSet(n)) != 0 || impl.NetworkSize(n) != 1 || impl.NodeLine(n, 0) != "0: [1]" || impl.SharedNodes(none) != 0 || len(impl.PathOf(n, 0)) != 0 {
			t.Errorf("%+v", n)
		}
		// facts that no alpha sees
		for _, facts := range factSets() {
			n.Facts = facts
			if !impl.IsNetwork(n) || len(impl.ConflictSet(n)) != 0 || impl.NetworkSize(n) != 1 {
				t.Errorf("IsNetwork with the Facts %q = false", facts)
			}
		}
		for name, facts := range noFactSets() {
			n.Facts = facts
			if impl.IsNetwork(n) {
				t.Errorf("IsNetwork = true: %s", name)
			}
		}
	}
	if impl.IsNetwork(impl.Network{}) || impl.SharedNodes(rulesOf("r 1: p(?x) & p(?x) -> stop")) != 0 {
		t.Error("the zero Network, or one rule")
	}
}

func TestTriesOfNetworks(t *testing.T) {
	n := networkFrom(twoRules, factsOf("on(a,b)", "on(b,a)", "p(b)"))
	for _, tries := range []int{0, 1, 2, 1000, 1 << 40, math.MaxInt} {
		n.Tries = tries
		if !impl.IsNetwork(n) || len(impl.ConflictSet(n)) != 2 {
			t.Errorf("IsNetwork with %d Tries = false", tries)
		}
	}
	for _, tries := range []int{-1, -2, -1 << 40, math.MinInt} {
		n.Tries = tries
		if impl.IsNetwork(n) || len(impl.ConflictSet(n)) != 0 {
			t.Errorf("IsNetwork with %d Tries = true", tries)
		}
	}
}

// changes collects networks that differ from one in one place each.
type changes struct {
	from impl.Network
	made map[string]impl.Network
}

func (c changes) add(name string, change func(n *impl.Network)) {
	n := copyNetwork(c.from)
	change(&n)
	c.made[name] = n
}

// wrongNetworks returns networks of which one field alone is not that of a valid network.
func wrongNetworks(n impl.Network) map[string]impl.Network {
	c := changes{n, map[string]impl.Network{}}
	c.add("Rules: one more", func(n *impl.Network) { n.Rules = append(n.Rules, ruleOf("more 1: p(?x) -> stop")) })
	c.add("Rules: one of another kind in front", func(n *impl.Network) { n.Rules = append(rulesOf("more 1: y() -> stop"), n.Rules...) })
	c.add("Ends: one more", func(n *impl.Network) { n.Ends = append(n.Ends, 0) })
	c.add("Alphas: one more", func(n *impl.Network) { n.Alphas = append(n.Alphas, impl.Alpha{Shape: patternOf("y()")}) })
	c.add("Alphas: a zero one more", func(n *impl.Network) { n.Alphas = append(n.Alphas, impl.Alpha{}) })
	c.add("Nodes: one more", func(n *impl.Network) {
		n.Nodes = append(n.Nodes, impl.Node{Parent: 0, Alpha: -1, Cond: condOf("2 < 1")})
	})
	c.add("Nodes: node 0 twice", func(n *impl.Network) { n.Nodes = append(n.Nodes, n.Nodes[0]) })
	c.add("Nodes: none", func(n *impl.Network) { n.Nodes = nil })
	c.add("Nodes: node 0 has a Cond", func(n *impl.Network) { n.Nodes[0].Cond = has("z()") })
	c.add("Nodes: node 0 has Left", func(n *impl.Network) { n.Nodes[0].Cond.Left = "a" })
	c.add("Nodes: node 0 has a Parent", func(n *impl.Network) { n.Nodes[0].Parent = 0 })
	c.add("Nodes: node 0 has an Alpha", func(n *impl.Network) { n.Nodes[0].Alpha = 0 })
	c.add("Tries: negative", func(n *impl.Network) { n.Tries = -1 })
	c.add("Facts: one that is not valid", func(n *impl.Network) { n.Facts = append(n.Facts, fact("zz", "?x")) })
	c.add("Facts: the same twice", func(n *impl.Network) { n.Facts = append(n.Facts, fact("zz"), fact("zz")) })
	c.add("Facts: too many", func(n *impl.Network) {
		for i := range 30 {
			n.Facts = append(n.Facts, fact("zz", strconv.Itoa(i)))
		}
	})
	if len(n.Facts) > 0 {
		c.add("Facts: out of order", func(n *impl.Network) { n.Facts = append(n.Facts, fact("a")) })
	}
	for i := range n.Rules {
		c.wrongRules(i)
	}
	for i := range n.Alphas {
		c.wrongAlphas(i)
	}
	for i := range n.Nodes {
		c.wrongTokens(i)
		if i > 0 {
			c.wrongNodes(i)
		}
	}
	return c.made
}

func (c changes) wrongRules(i int) {
	at := " " + strconv.Itoa(i)
	c.add("Rules: missing"+at, func(n *impl.Network) { n.Rules = slices.Delete(n.Rules, i, i+1) })
	c.add("Rules: no Name"+at, func(n *impl.Network) { n.Rules[i].Name = "" })
	c.add("Rules: the Priority"+at, func(n *impl.Network) { n.Rules[i].Priority = 10 })
	c.add("Rules: a condition more"+at, func(n *impl.Network) { n.Rules[i].If = append(n.Rules[i].If, has("y()")) })
	c.add("Rules: another condition"+at, func(n *impl.Network) { n.Rules[i].If[0] = has("y()") })
	c.add("Rules: no action"+at, func(n *impl.Network) { n.Rules[i].Then = nil })
	c.add("Ends: missing"+at, func(n *impl.Network) { n.Ends = slices.Delete(n.Ends, i, i+1) })
	for _, end := range []int{-1, 0, c.from.Ends[i] + 1, c.from.Ends[i] - 1, len(c.from.Nodes), math.MaxInt, math.MinInt} {
		c.add("Ends: "+strconv.Itoa(end)+at, func(n *impl.Network) { n.Ends[i] = end })
	}
}

func (c changes) wrongAlphas(i int) {
	at := " " + strconv.Itoa(i)
	c.add("Alphas: missing"+at, func(n *impl.Network) { n.Alphas = slices.Delete(n.Alphas, i, i+1) })
	c.add("Alphas: twice"+at, func(n *impl.Network) { n.Alphas = slices.Insert(n.Alphas, i, n.Alphas[i]) })
	c.add("Alphas: another Rel"+at, func(n *impl.Network) { n.Alphas[i].Shape.Rel = "y" })
	c.add("Alphas: another Arg"+at, func(n *impl.Network) { n.Alphas[i].Shape.Args = append(n.Alphas[i].Shape.Args, "y") })
	c.add("Alphas: no plain names"+at, func(n *impl.Network) {
		n.Alphas[i].Shape.Args = append(plainAgain(n.Alphas[i].Shape.Args, mapOf(pairsOf("?1=?x"))), "?y")
	})
	c.add("Alphas: a fact more"+at, func(n *impl.Network) { n.Alphas[i].Facts = append(n.Alphas[i].Facts, fact("p", "z")) })
	if i > 0 {
		c.add("Alphas: exchanged"+at, func(n *impl.Network) { n.Alphas[i], n.Alphas[0] = n.Alphas[0], n.Alphas[i] })
	}
	for j := range c.from.Alphas[i].Facts {
		c.add("Alphas: a fact missing"+at, func(n *impl.Network) { n.Alphas[i].Facts = slices.Delete(n.Alphas[i].Facts, j, j+1) })
		c.add("Alphas: another fact"+at, func(n *impl.Network) { n.Alphas[i].Facts[j].Args = []string{"z"} })
		if j > 0 {
			c.add("Alphas: facts exchanged"+at, func(n *impl.Network) {
				l := n.Alphas[i].Facts
				l[j], l[j-1] = l[j-1], l[j]
			})
		}
	}
}

func (c changes) wrongTokens(i int) {
	at := " " + strconv.Itoa(i)
	c.add("Nodes: a token more"+at, func(n *impl.Network) {
		n.Nodes[i].Tokens = append(n.Nodes[i].Tokens, tokenOf("p(z) p(z) p(z) p(z); ?1=z"))
	})
	c.add("Nodes: an empty token more"+at, func(n *impl.Network) { n.Nodes[i].Tokens = append(n.Nodes[i].Tokens, impl.Token{}) })
	for j := range c.from.Nodes[i].Tokens {
		c.add("Nodes: a token missing"+at, func(n *impl.Network) { n.Nodes[i].Tokens = slices.Delete(n.Nodes[i].Tokens, j, j+1) })
		c.add("Nodes: a token twice"+at, func(n *impl.Network) { n.Nodes[i].Tokens = slices.Insert(n.Nodes[i].Tokens, j, n.Nodes[i].Tokens[j]) })
		c.add("Nodes: a pair more"+at, func(n *impl.Network) {
			n.Nodes[i].Tokens[j].Binding = append(n.Nodes[i].Tokens[j].Binding, impl.Pair{Var: "?9", Value: "a"})
		})
		c.add("Nodes: a fact more"+at, func(n *impl.Network) {
			n.Nodes[i].Tokens[j].Facts = append(n.Nodes[i].Tokens[j].Facts, fact("p", "a"))
		})
		if j > 0 {
			c.add("Nodes: tokens exchanged"+at, func(n *impl.Network) {
				l := n.Nodes[i].Tokens
				l[j], l[j-1] = l[j-1], l[j]
			})
		}
		if len(c.from.Nodes[i].Tokens[j].Binding) > 0 {
			c.add("Nodes: another Value"+at, func(n *impl.Network) { n.Nodes[i].Tokens[j].Binding[0].Value = "y" })
			c.add("Nodes: another Var"+at, func(n *impl.Network) { n.Nodes[i].Tokens[j].Binding[0].Var = "?0" })
			c.add("Nodes: no Binding"+at, func(n *impl.Network) { n.Nodes[i].Tokens[j].Binding = nil })
		}
		if i > 0 {
			c.add("Nodes: another fact"+at, func(n *impl.Network) { n.Nodes[i].Tokens[j].Facts[0] = fact("y") })
			c.add("Nodes: no Facts"+at, func(n *impl.Network) { n.Nodes[i].Tokens[j].Facts = nil })
		}
	}
}

func (c changes) wrongNodes(i int) {
	at := " " + strconv.Itoa(i)
	node := c.from.Nodes[i]
	c.add("Nodes: missing"+at, func(n *impl.Network) { n.Nodes = slices.Delete(n.Nodes, i, i+1) })
	c.add("Nodes: twice"+at, func(n *impl.Network) { n.Nodes = slices.Insert(n.Nodes, i, n.Nodes[i]) })
	c.add("Nodes: the Kind"+at, func(n *impl.Network) { n.Nodes[i].Cond.Kind++ })
	c.add("Nodes: the Rel"+at, func(n *impl.Network) { n.Nodes[i].Cond.Pattern.Rel = "y" })
	c.add("Nodes: an Arg"+at, func(n *impl.Network) { n.Nodes[i].Cond.Pattern.Args = append(n.Nodes[i].Cond.Pattern.Args, "?1") })
	c.add("Nodes: Left"+at, func(n *impl.Network) { n.Nodes[i].Cond.Left = "?0" })
	c.add("Nodes: Right"+at, func(n *impl.Network) { n.Nodes[i].Cond.Right = "?0" })
	for _, parent := range []int{-1, node.Parent + 1, node.Parent - 1, i, len(c.from.Nodes), math.MaxInt, math.MinInt} {
		c.add("Nodes: the Parent "+strconv.Itoa(parent)+at, func(n *impl.Network) { n.Nodes[i].Parent = parent })
	}
	for _, alpha := range []int{node.Alpha + 1, node.Alpha - 1, len(c.from.Alphas), math.MaxInt, math.MinInt} {
		c.add("Nodes: the Alpha "+strconv.Itoa(alpha)+at, func(n *impl.Network) { n.Nodes[i].Alpha = alpha })
	}
	if own := withNames(node.Cond, mapOf(pairsOf("?1=?u ?2=?v ?3=?w ?4=?x ?5=?y ?6=?z"))); !equalConds(own, node.Cond) {
		c.add("Nodes: no plain names"+at, func(n *impl.Network) { n.Nodes[i].Cond = own })
	}
}

func TestNetworksOfWhichOneFieldIsWrong(t *testing.T) {
	names := map[string]bool{}
	for _, s := range structures {
		for _, text := range factsToMatch {
			n := networkFrom(s, listOf(text))
			for name, x := range wrongNetworks(n) {
				names[name] = true
				if impl.IsNetwork(x) {
					t.Errorf("IsNetwork = true: %s: %+v", name, x)
				}
				if got := impl.ConflictSet(x); len(got) != 0 {
					t.Errorf("ConflictSet: %s: %q", name, got)
				}
			}
		}
	}
	if len(names) < 200 {
		t.Errorf("only %d different changes", len(names))
	}
}

// Facts that are missing or too many, with contents of which each is right for the others.
func TestNetworksWithOtherFacts(t *testing.T) {
	s := twoRules
	facts := factsOf("on(a,b)", "on(b,a)", "p(a)", "q(a)")
	n := networkFrom(s, facts)
	for _, other := range [][]impl.Fact{nil, facts[:1], facts[:2], facts[1:], factsOf("on(a,b)", "on(b,a)", "p(b)", "q(a)"), factsOf("on(a,b)", "on(b,a)", "p(a)", "p(b)", "q(a)")} {
		x := copyNetwork(n)
		x.Facts = other
		if impl.IsNetwork(x) {
			t.Errorf("IsNetwork with the Facts %q = true", other)
		}
		if !impl.IsNetwork(networkFrom(s, other)) {
			t.Errorf("IsNetwork with all that follows from %q = false", other)
		}
	}
	// a fact that no Shape matches is not missed, but it is none of the same memories
	for _, other := range [][]impl.Fact{facts[:3], factsOf("on(a,b)", "on(b,a)", "p(a)", "p(a,b)", "z()")} {
		x := copyNetwork(n)
		x.Facts = other
		if !impl.IsNetwork(x) || impl.SameMemories(x, n) {
			t.Errorf("IsNetwork with the Facts %q = false", other)
		}
	}
	// in no order
	for name, other := range noFactSets() {
		x := filled(n, other)
		if impl.IsNetwork(x) || len(impl.ConflictSet(x)) != 0 {
			t.Errorf("IsNetwork = true: %s", name)
		}
	}
	x := filled(n, factsOf("p(a)", "on(a,b)"))
	if impl.IsNetwork(x) {
		t.Error("IsNetwork with Facts out of order = true")
	}
}

func TestPathOf(t *testing.T) {
	n := networkFrom(twoRules, nil)
	for node, want := range [][]impl.Cond{{}, {has("on(?1,?2)")}, {has("on(?1,?2)"), has("p(?2)")}, {has("on(?1,?2)"), hasNot("p(?2)")}} {
		if got := impl.PathOf(n, node); !slices.EqualFunc(got, want, equalConds) {
			t.Errorf("PathOf node %d: %+v", node, got)
		}
	}
	for _, node := range []int{-1, -2, 4, 5, 100, 1 << 32, 1<<32 + 1, math.MaxInt, math.MinInt} {
		if got := impl.PathOf(n, node); len(got) != 0 {
			t.Errorf("PathOf node %d: %+v", node, got)
		}
		if got := impl.PathOf(impl.Network{}, node); len(got) != 0 {
			t.Errorf("PathOf node %d of the zero Network: %+v", node, got)
		}
	}
	if got := impl.PathOf(impl.Network{}, 0); len(got) != 0 {
		t.Errorf("PathOf node 0 of the zero Network: %+v", got)
	}
}

// In any network the way up ends where the Parent is less than 1, or not less than the node's own index.
func TestPathOfAnyNetwork(t *testing.T) {
	n := impl.Network{}
	for i, parent := range []int{3, 0, 1, 3, 3, 9, 5, -1, 7, -5, 9, 100, 11, math.MinInt, 13, math.MaxInt, 15, 16, 2, 18, 1} {
		n.Nodes = append(n.Nodes, impl.Node{Parent: parent, Cond: full(i, "a", "?", strconv.Itoa(i)), Alpha: 9})
	}
	// node 0 has no path, whatever its Parent is; node 3 is its own Parent, that of node 5 stands behind it
	for node, want := range []string{"", "1", "1 2", "3", "3 4", "5", "5 6", "7", "7 8", "9", "9 10", "11", "11 12", "13", "13 14", "15", "15 16", "15 16 17", "1 2 18", "1 2 18 19", "1 20"} {
		got := []string{}
		for _, x := range impl.PathOf(n, node) {
			if !equalConds(x, full(x.Kind, "a", "?", strconv.Itoa(x.Kind))) {
				t.Errorf("PathOf node %d: %+v", node, x)
			}
			got = append(got, strconv.Itoa(x.Kind))
		}
		if strings.Join(got, " ") != want {
			t.Errorf("PathOf node %d: %q, not %q", node, got, want)
		}
	}
	if got := impl.PathOf(n, 21); len(got) != 0 {
		t.Errorf("PathOf a node that is not there: %+v", got)
	}
}

func TestConflictSet(t *testing.T) {
	rules := rulesOf("s 1: p(?y,?x) & q(?y) -> stop", "r 9: p(?a,?b) & q(?a) -> stop", "t 5: p(?2,?1) & not q(?1) -> stop", "u 0: q(?z) -> stop", "a 0: z() & q(?b) & not p(?b,?a) -> stop")
	n := networkAgain(rules, factsOf("p(a,b)", "p(b,1)", "q(a)", "q(b)", "z()"))
	want := []impl.Match{
		matchOf("s", "p(a,b) q(a); ?x=b ?y=a"), matchOf("s", "p(b,1) q(b); ?x=1 ?y=b"),
		matchOf("r", "p(a,b) q(a); ?a=a ?b=b"), matchOf("r", "p(b,1) q(b); ?a=b ?b=1"),
		matchOf("t", "p(b,1); ?1=1 ?2=b"),
		matchOf("u", "q(a); ?z=a"), matchOf("u", "q(b); ?z=b"),
	}
	if got := impl.ConflictSet(n); !slices.EqualFunc(got, want, equalMatches) {
		t.Errorf("ConflictSet = %q", got)
	}
	n = networkAgain(rules, factsOf("q(b)", "z()"))
	want = []impl.Match{matchOf("u", "q(b); ?z=b"), matchOf("a", "z() q(b); ?b=b")}
	if got := impl.ConflictSet(n); !slices.EqualFunc(got, want, equalMatches) {
		t.Errorf("ConflictSet = %q", got)
	}
	six := networkAgain(rulesOf("r 1: p(?f,?b,?d) & q(?a,?e,?c) -> stop"), factsOf("p(a,b,1)", "q(b,1,a)"))
	want = []impl.Match{matchOf("r", "p(a,b,1) q(b,1,a); ?a=b ?b=b ?c=a ?d=1 ?e=1 ?f=a")}
	if got := impl.ConflictSet(six); !slices.EqualFunc(got, want, equalMatches) {
		t.Errorf("ConflictSet = %q", got)
	}
}

// The variables have names that are in the order of their bytes another one than in that of their first places.
func TestConflictSetHasBindings(t *testing.T) {
	for _, vars := range [][]string{{"?9", "?10"}, {"?10", "?9"}, {"?b", "?a"}, {"?a1", "?a"}, {"?2", "?1"}, {"?a", "?1"}, {"?1", "?2"}} {
		n := networkAgain(rulesOf("r 1: p("+vars[0]+") & q("+vars[1]+") -> stop"), factsOf("p(a)", "q(b)"))
		m := impl.ConflictSet(n)
		if len(m) != 1 || !impl.IsBinding(m[0].Binding) || !impl.IsMatch(n.Rules[0], n.Facts, m[0]) || mapOf(m[0].Binding)[vars[0]] != "a" || mapOf(m[0].Binding)[vars[1]] != "b" {
			t.Errorf("%q: %q", vars, m)
		}
	}
}

// As many facts as there may be.
func TestNetworkOfAFullFactSet(t *testing.T) {
	rules := rulesOf("r 1: n(?x) & n(?y) & ?y < ?x & not n(?y,?x) -> stop", "s 1: n(?b) & n(?a) & n(?a) -> stop")
	n, ok := impl.EmptyNetwork(rules)
	if !ok || impl.SharedNodes(rules) != 2 {
		t.Fatal(n, ok)
	}
	n.Facts = numbered(24)
	n.Alphas[0].Facts = numbered(24)
	pairs, less, threes := []impl.Token{}, []impl.Token{}, []impl.Token{}
	for i := range 24 {
		x := strconv.Itoa(i)
		n.Nodes[1].Tokens = append(n.Nodes[1].Tokens, tokenOf("n("+x+"); ?1="+x))
		for j := range 24 {
			y := strconv.Itoa(j)
			pairs = append(pairs, tokenOf("n("+x+") n("+y+"); ?1="+x+" ?2="+y))
			if j < i {
				less = append(less, pairs[len(pairs)-1])
			}
			threes = append(threes, tokenOf("n("+x+") n("+y+") n("+y+"); ?1="+x+" ?2="+y))
		}
	}
	n.Nodes[2].Tokens, n.Nodes[3].Tokens, n.Nodes[4].Tokens, n.Nodes[5].Tokens = pairs, less, less, threes
	if !impl.IsNetwork(n) || impl.NetworkSize(n) != 24+1+24+576+276+276+576 || len(impl.ConflictSet(n)) != 276+576 {
		t.Error(impl.IsNetwork(n), impl.NetworkSize(n))
	}
	n.Nodes[5].Tokens = threes[:575]
	if impl.IsNetwork(n) {
		t.Error("IsNetwork without the last token = true")
	}
}

func TestNetworkSize(t *testing.T) {
	n := networkFrom(twoRules, factsOf("on(a,b)", "on(b,a)", "on(b,b)", "p(b)", "q(a)"))
	// 3 and 1 facts, 1 token of node 0, 3 tokens, 2 of p and 1 of not p
	if got := impl.NetworkSize(n); got != 3+1+1+3+2+1 {
		t.Errorf("NetworkSize = %d", got)
	}
	odd := impl.Network{
		Rules: rulesOf("r 1: p(?x) -> stop"), Ends: []int{1, 2, 3}, Facts: numbered(40), Tries: -7,
		Alphas: []impl.Alpha{{Facts: make([]impl.Fact, 30)}, {}, {Facts: make([]impl.Fact, 2)}},
		Nodes:  []impl.Node{{}, {Tokens: make([]impl.Token, 100)}, {Parent: 9, Alpha: 9, Tokens: []impl.Token{{Facts: numbered(3)}}}},
	}
	if got := impl.NetworkSize(odd); got != 30+2+100+1 {
		t.Errorf("NetworkSize of any network = %d", got)
	}
	if got := impl.NetworkSize(impl.Network{}); got != 0 {
		t.Errorf("NetworkSize of the zero Network = %d", got)
	}
}

// otherNetworks returns networks that differ from one, and of which no two are equal but for Tries.
func otherNetworks(n impl.Network) map[string]impl.Network {
	c := changes{n, map[string]impl.Network{}}
	last := len(n.Nodes) - 1
	c.add("the Name of a rule", func(n *impl.Network) { n.Rules[1].Name = "x" })
	c.add("the Priority of a rule", func(n *impl.Network) { n.Rules[0].Priority++ })
	c.add("an action", func(n *impl.Network) { n.Rules[0].Then = []impl.Action{drops("p(?x)")} })
	c.add("a condition", func(n *impl.Network) { n.Rules[0].If[1].Kind = impl.CondNot })
	c.add("a rule more", func(n *impl.Network) { n.Rules = append(n.Rules, impl.Rule{}) })
	c.add("no rules", func(n *impl.Network) { n.Rules = nil })
	c.add("the order of the rules", func(n *impl.Network) { slices.Reverse(n.Rules) })
	c.add("an end", func(n *impl.Network) { n.Ends[1]++ })
	c.add("an end more", func(n *impl.Network) { n.Ends = append(n.Ends, 0) })
	c.add("no ends", func(n *impl.Network) { n.Ends = nil })
	c.add("the Rel of a Shape", func(n *impl.Network) { n.Alphas[0].Shape.Rel = "x" })
	c.add("the Args of a Shape", func(n *impl.Network) { n.Alphas[1].Shape.Args = []string{"?2"} })
	c.add("a fact of an alpha", func(n *impl.Network) { n.Alphas[0].Facts[0].Args[0] = "x" })
	c.add("a fact of an alpha more", func(n *impl.Network) { n.Alphas[1].Facts = append(n.Alphas[1].Facts, impl.Fact{}) })
	c.add("no facts of an alpha", func(n *impl.Network) { n.Alphas[0].Facts = nil })
	c.add("an alpha more", func(n *impl.Network) { n.Alphas = append(n.Alphas, impl.Alpha{}) })
	c.add("no alphas", func(n *impl.Network) { n.Alphas = nil })
	c.add("a Parent", func(n *impl.Network) { n.Nodes[last].Parent = -1 })
	c.add("the Kind of a Cond", func(n *impl.Network) { n.Nodes[last].Cond.Kind = 7 })
	c.add("the Rel of a Cond", func(n *impl.Network) { n.Nodes[last].Cond.Pattern.Rel = "x" })
	c.add("the Args of a Cond", func(n *impl.Network) { n.Nodes[last].Cond.Pattern.Args = nil })
	c.add("Left of a Cond", func(n *impl.Network) { n.Nodes[last].Cond.Left = "x" })
	c.add("Right of a Cond", func(n *impl.Network) { n.Nodes[last].Cond.Right = "x" })
	c.add("the Alpha of a node", func(n *impl.Network) { n.Nodes[last].Alpha = -1 })
	c.add("a fact of a token", func(n *impl.Network) { n.Nodes[1].Tokens[0].Facts[0].Rel = "x" })
	c.add("the Facts of a token", func(n *impl.Network) { n.Nodes[1].Tokens[0].Facts = nil })
	c.add("a Var of a token", func(n *impl.Network) { n.Nodes[1].Tokens[0].Binding[0].Var = "?x" })
	c.add("a Value of a token", func(n *impl.Network) { n.Nodes[1].Tokens[0].Binding[1].Value = "x" })
	c.add("the Binding of a token", func(n *impl.Network) { n.Nodes[1].Tokens[0].Binding = nil })
	c.add("the order of the tokens", func(n *impl.Network) { slices.Reverse(n.Nodes[1].Tokens) })
	c.add("a token more", func(n *impl.Network) { n.Nodes[last].Tokens = append(n.Nodes[last].Tokens, impl.Token{}) })
	c.add("no tokens of node 0", func(n *impl.Network) { n.Nodes[0].Tokens = nil })
	c.add("a node more", func(n *impl.Network) { n.Nodes = append(n.Nodes, impl.Node{}) })
	c.add("no nodes", func(n *impl.Network) { n.Nodes = nil })
	c.add("a fact", func(n *impl.Network) { n.Facts[2].Args = nil })
	c.add("a fact more", func(n *impl.Network) { n.Facts = append(n.Facts, impl.Fact{}) })
	c.add("no facts", func(n *impl.Network) { n.Facts = nil })
	c.add("the order of the facts", func(n *impl.Network) { slices.Reverse(n.Facts) })
	return c.made
}

func TestSameMemories(t *testing.T) {
	n := networkFrom(twoRules, factsOf("on(a,b)", "on(b,a)", "p(b)"))
	all := otherNetworks(n)
	all["unchanged"], all["zero"] = n, impl.Network{}
	for name, a := range all {
		for other, b := range all {
			b = copyNetwork(b)
			if got := impl.SameMemories(a, b); got != (name == other) {
				t.Errorf("SameMemories of %q and %q = %v", name, other, got)
			}
			// Tries play no part
			b.Tries = a.Tries - 1
			if got := impl.SameMemories(a, b); got != (name == other) {
				t.Errorf("SameMemories of %q and %q with other Tries = %v", name, other, got)
			}
		}
	}
	for _, tries := range []int{0, 1, -1, math.MaxInt, math.MinInt} {
		b := copyNetwork(n)
		b.Tries = tries
		if !impl.SameMemories(n, b) || !impl.SameMemories(b, n) {
			t.Errorf("SameMemories with %d Tries = false", tries)
		}
	}
	empty := impl.Network{Rules: []impl.Rule{}, Ends: []int{}, Alphas: []impl.Alpha{}, Nodes: []impl.Node{}, Facts: []impl.Fact{}}
	if !impl.SameMemories(empty, impl.Network{}) || !impl.SameMemories(impl.Network{}, empty) {
		t.Error("nil and empty lists differ")
	}
	a := impl.Network{Alphas: make([]impl.Alpha, 1), Nodes: []impl.Node{{Tokens: make([]impl.Token, 1)}}}
	b := impl.Network{Alphas: []impl.Alpha{{Shape: pattern("", []string{}...), Facts: []impl.Fact{}}}, Nodes: []impl.Node{{Tokens: []impl.Token{{Facts: []impl.Fact{}, Binding: []impl.Pair{}}}}}}
	if !impl.SameMemories(a, b) || !impl.SameMemories(b, a) {
		t.Error("nil and empty lists within differ")
	}
}

// A network with empty lists in place of nil ones is as valid.
func TestNilAndEmptyListsOfNetworksAreEqual(t *testing.T) {
	n := networkFrom(structures[2], factsOf("z()"))
	n.Nodes[0].Tokens[0] = impl.Token{Facts: []impl.Fact{}, Binding: []impl.Pair{}}
	n.Nodes[0].Cond.Pattern.Args, n.Alphas[0].Shape.Args, n.Facts[0].Args = []string{}, []string{}, []string{}
	if m := impl.ConflictSet(n); !impl.IsNetwork(n) || len(m) != 1 {
		t.Error("empty lists", m)
	}
	n.Nodes[0].Tokens[0] = impl.Token{}
	n.Nodes[0].Cond.Pattern.Args, n.Alphas[0].Shape.Args, n.Facts[0].Args = nil, nil, nil
	if m := impl.ConflictSet(n); !impl.IsNetwork(n) || len(m) != 1 {
		t.Error("nil lists", m)
	}
}

func TestNodeLine(t *testing.T) {
	n := networkFrom(withTests, factsOf("p(a)", "p(b)", "p(1)", "q(1)", "q(a)"))
	for node, want := range []string{"0: [1]", "1 <- 0: p(?1) [3]", "2 <- 1: ?1 = a [1]", "3 <- 2: q(?2) [2]", "4 <- 3: ?2 < ?1 [0]", "5 <- 2: q(?1) [1]", "6 <- 1: a = ?1 [1]", "7 <- 1: ?1 != a [2]", "8 <- 7: ?1 = a [0]"} {
		if got := impl.NodeLine(n, node); got != want {
			t.Errorf("NodeLine of node %d: %q, not %q", node, got, want)
		}
	}
	n = networkFrom(twoRules, factsOf("on(a,b)", "on(b,a)", "on(b,b)", "p(b)"))
	for node, want := range []string{"0: [1]", "1 <- 0: on(?1,?2) [3]", "2 <- 1: p(?2) [2]", "3 <- 1: not p(?2) [1]"} {
		if got := impl.NodeLine(n, node); got != want {
			t.Errorf("NodeLine of node %d: %q, not %q", node, got, want)
		}
	}
	for _, node := range []int{-1, -2, 4, 5, 100, 1 << 32, 1<<32 + 1, math.MaxInt, math.MinInt} {
		if got := impl.NodeLine(n, node); got != "" {
			t.Errorf("NodeLine of node %d: %q", node, got)
		}
	}
	if got := impl.NodeLine(impl.Network{}, 0); got != "" {
		t.Errorf("NodeLine of no node: %q", got)
	}
}

func TestNodeLineOfAnyNetwork(t *testing.T) {
	n := impl.Network{Nodes: []impl.Node{
		{Parent: 7, Cond: has("p(a)"), Alpha: 3, Tokens: make([]impl.Token, 12)}, // node 0 has the short form, whatever it holds
		{Parent: 1, Cond: hasNot("p(?x,?x)"), Alpha: -9, Tokens: make([]impl.Token, 100)},
		{Parent: -5, Cond: test(impl.CondLess, "?x", "1")},
		{Parent: math.MinInt, Cond: impl.Cond{Kind: 9}},
		{Parent: 12, Cond: has("p(A)"), Tokens: make([]impl.Token, 1)},
		{},
	}}
	for node, want := range []string{"0: [12]", "1 <- 1: not p(?x,?x) [100]", "2 <- -5: ?x < 1 [0]", "3 <- -9223372036854775808:  [0]", "4 <- 12:  [1]", "5 <- 0:  [0]", ""} {
		if got := impl.NodeLine(n, node); got != want {
			t.Errorf("NodeLine of node %d: %q, not %q", node, got, want)
		}
	}
}

// argsIn returns all lists of texts in a network.
func argsIn(n impl.Network) [][]string {
	l, facts := [][]string{}, slices.Clone(n.Facts)
	for _, r := range n.Rules {
		for _, x := range r.If {
			l = append(l, x.Pattern.Args)
		}
		for _, a := range r.Then {
			l = append(l, a.Pattern.Args)
		}
	}
	for _, alpha := range n.Alphas {
		l, facts = append(l, alpha.Shape.Args), append(facts, alpha.Facts...)
	}
	for _, node := range n.Nodes {
		l = append(l, node.Cond.Pattern.Args)
		for _, x := range node.Tokens {
			facts = append(facts, x.Facts...)
		}
	}
	for _, f := range facts {
		l = append(l, f.Args)
	}
	return l
}

func overwriteConds(l []impl.Cond) {
	for _, x := range l {
		overwrite(x.Pattern.Args, "own")
	}
	overwrite(l, has("own()"))
}

func overwriteNetwork(n impl.Network) {
	for _, args := range argsIn(n) {
		overwrite(args, "own")
	}
	for _, r := range n.Rules {
		overwrite(r.If, has("own()"))
		overwrite(r.Then, adds("own()"))
	}
	for _, alpha := range n.Alphas {
		overwrite(alpha.Facts, fact("own"))
	}
	for _, node := range n.Nodes {
		for _, x := range node.Tokens {
			overwrite(x.Facts, fact("own"))
			overwrite(x.Binding, impl.Pair{Var: "own"})
		}
		overwrite(node.Tokens, tokenOf("own(); own=own"))
	}
	overwrite(n.Rules, impl.Rule{Name: "own"})
	overwrite(n.Ends, -7)
	overwrite(n.Alphas, impl.Alpha{Shape: pattern("own")})
	overwrite(n.Nodes, impl.Node{Parent: -7})
	overwrite(n.Facts, fact("own"))
}

// wholeNetwork is a deep copy of a network and its lists up to their capacities.
func wholeNetwork(n impl.Network) impl.Network {
	n.Rules, n.Ends, n.Alphas, n.Nodes, n.Facts = wholeList(n.Rules), wholeList(n.Ends), wholeList(n.Alphas), wholeList(n.Nodes), wholeFacts(n.Facts)
	for i, r := range n.Rules {
		n.Rules[i] = wholeRule(r)
	}
	for i, alpha := range n.Alphas {
		n.Alphas[i] = impl.Alpha{Shape: impl.Pattern{Rel: alpha.Shape.Rel, Args: wholeList(alpha.Shape.Args)}, Facts: wholeFacts(alpha.Facts)}
	}
	for i := range n.Nodes {
		node := &n.Nodes[i]
		node.Cond.Pattern.Args, node.Tokens = wholeList(node.Cond.Pattern.Args), wholeList(node.Tokens)
		for j, x := range node.Tokens {
			node.Tokens[j] = impl.Token{Facts: wholeFacts(x.Facts), Binding: wholeList(x.Binding)}
		}
	}
	return n
}

// roomyNetwork returns the network with a structure whose lists have spare capacity, which holds other parts.
func roomyNetwork(s structure, facts []impl.Fact) impl.Network {
	n := copyNetwork(networkFrom(s, facts))
	for i, text := range s.rules {
		n.Rules[i] = roomyRule(text)
	}
	for i := range n.Alphas {
		alpha := &n.Alphas[i]
		alpha.Shape.Args = roomyTexts(alpha.Shape.Args...)
		alpha.Facts = append(alpha.Facts, fact("spare"))[:len(alpha.Facts)]
	}
	for i := range n.Nodes {
		node := &n.Nodes[i]
		node.Cond.Pattern.Args = roomyTexts(node.Cond.Pattern.Args...)
		for j := range node.Tokens {
			x := &node.Tokens[j]
			x.Facts, x.Binding = append(x.Facts, fact("spare"))[:len(x.Facts)], append(x.Binding, impl.Pair{Var: "spare"})[:len(x.Binding)]
		}
		node.Tokens = append(node.Tokens, tokenOf("spare(); spare=s"))[:len(node.Tokens)]
	}
	n.Rules, n.Ends = append(n.Rules, oddRule())[:len(n.Rules)], append(n.Ends, -7)[:len(n.Ends)]
	n.Alphas, n.Nodes = append(n.Alphas, impl.Alpha{})[:len(n.Alphas)], append(n.Nodes, impl.Node{Parent: -7})[:len(n.Nodes)]
	n.Facts = append(n.Facts, fact("spare"))[:len(n.Facts)]
	return n
}

func TestNetworksStayAsTheyAre(t *testing.T) {
	facts := factsOf("on(a,b)", "on(b,a)", "p(b)")
	n, wrong := roomyNetwork(twoRules, facts), roomyNetwork(twoRules, facts)
	wrong.Tries = -1
	if !impl.IsNetwork(n) || impl.IsNetwork(wrong) {
		t.Fatal(n, wrong)
	}
	p := pattern("p", roomyTexts("?y", "?x", "a")...)
	ground := pattern("p", roomyTexts("a", "b")...)
	bad := append(slices.Clone(n.Rules), n.Rules[0])
	calls := map[string]func(){
		"ShapeOf":            func() { overwrite(impl.ShapeOf(p).Args, "own") },
		"ShapeOf, no vars":   func() { overwrite(impl.ShapeOf(ground).Args, "own") },
		"PlainNames":         func() { overwrite(impl.PlainNames(n.Rules[0]), impl.Pair{Var: "own"}) },
		"PlainConds":         func() { overwriteConds(impl.PlainConds(n.Rules[1])) },
		"EmptyNetwork":       func() { x, _ := impl.EmptyNetwork(n.Rules); overwriteNetwork(x) },
		"EmptyNetwork, bad":  func() { x, _ := impl.EmptyNetwork(bad); overwriteNetwork(x) },
		"ConflictSet":        func() { overwriteMatches(impl.ConflictSet(n)) },
		"ConflictSet, wrong": func() { overwriteMatches(impl.ConflictSet(wrong)) },
		"PathOf": func() {
			for node := range 5 {
				overwriteConds(impl.PathOf(n, node))
			}
		},
		"others": func() {
			for _, x := range []impl.Network{n, wrong} {
				impl.IsNetwork(x)
				impl.NetworkSize(x)
				impl.SameMemories(x, n)
				impl.SharedNodes(x.Rules)
				for node := range 5 {
					impl.NodeLine(x, node)
				}
			}
			impl.SharedNodes(bad)
		},
	}
	checkArguments(t, calls, func() []any {
		l := []any{wholeNetwork(n), wholeNetwork(wrong), wholeList(p.Args), wholeList(ground.Args)}
		for _, x := range bad {
			l = append(l, wholeRule(x))
		}
		return l
	})
}

func TestNetworksShareNoMemory(t *testing.T) {
	for _, s := range structures {
		rules := rulesOf(s.rules...)
		n, _ := impl.EmptyNetwork(rules)
		if shared(append(argsIn(n), argsIn(impl.Network{Rules: rules})...)) {
			t.Errorf("lists of texts share memory: %+v", n)
		}
		conds, actions := [][]impl.Cond{}, [][]impl.Action{}
		for _, r := range append(slices.Clone(n.Rules), rules...) {
			conds, actions = append(conds, r.If), append(actions, r.Then)
		}
		if shared(conds) || shared(actions) || shared([][]impl.Rule{n.Rules, rules}) {
			t.Errorf("rules share memory: %+v", n)
		}
		overwriteNetwork(n)
		if again, ok := impl.EmptyNetwork(rules); !ok || !equalNetworks(again, networkFrom(s, nil)) {
			t.Errorf("EmptyNetwork(%q) a second time: %+v, %v", s.rules, again, ok)
		}
	}
}

func TestConflictSetsShareNoMemory(t *testing.T) {
	facts := roomyFacts("p(a,b)", "p(b,a)", "p(b,b)")
	n := networkAgain(rulesOf("r 1: p(?x,?y) -> stop", "s 1: p(?y,?x) -> stop", "t 1: p(?y,?x) & p(?x,?x) & not p(a,a) -> stop"), facts)
	matches := impl.ConflictSet(n)
	if len(matches) != 3+3+2 {
		t.Errorf("%q", matches)
	}
	checkOwnLists(t, "ConflictSet", matches, facts)
}

func TestConflictSetsOfRulesWithOneEndShareNoMemory(t *testing.T) {
	n := networkAgain(rulesOf("r 1: z() -> stop", "s 1: z() -> stop"), factsOf("z()"))
	n.Nodes[1].Tokens[0].Facts = roomyFacts("z()")
	checkOwnLists(t, "ConflictSet", impl.ConflictSet(n), n.Nodes[1].Tokens[0].Facts)
}

func TestPlainCondsAndPathsShareNoMemory(t *testing.T) {
	r := ruleOf("r 1: p(?x) & p(?x) & not p(?x) -> stop")
	n := networkAgain([]impl.Rule{r}, nil)
	for _, conds := range [][]impl.Cond{impl.PlainConds(r), impl.PathOf(n, 3)} {
		if len(conds) != 3 || shared([][]string{conds[0].Pattern.Args, conds[1].Pattern.Args, conds[2].Pattern.Args, r.If[0].Pattern.Args}) {
			t.Errorf("%+v", conds)
		}
	}
}
