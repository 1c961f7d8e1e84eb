package tests

import (
	"math"
	"math/rand"
	"slices"
	"strconv"
	"strings"
	"testing"

	"loop.example/g03015/impl"
)

// changedFacts tells a second time what AddFact and RemoveFact do to a fact set; false if they fail.
func changedFacts(l []impl.Fact, f impl.Fact, put bool) ([]impl.Fact, bool) {
	i := slices.IndexFunc(l, func(g impl.Fact) bool { return equalFacts([]impl.Fact{g}, []impl.Fact{f}) })
	if put != (i < 0) || put && (len(l) == 24 || !impl.IsFact(f)) {
		return l, false
	}
	l = slices.Clone(l)
	if !put {
		return slices.Delete(l, i, i+1), true
	}
	l = append(l, f)
	slices.SortFunc(l, impl.CompareFacts)
	return l, true
}

// triesAgain counts the tries between two networks a second time, node by node.
func triesAgain(before impl.Network, after impl.Network, f impl.Fact) int {
	tries := 0
	for _, node := range after.Nodes[1:] {
		kept, come := 0, 0
		for _, x := range after.Nodes[node.Parent].Tokens {
			if slices.ContainsFunc(before.Nodes[node.Parent].Tokens, func(y impl.Token) bool { return equalTokens(x, y) }) {
				kept++
			} else {
				come++
			}
		}
		if node.Alpha < 0 {
			tries += come
			continue
		}
		alpha := after.Alphas[node.Alpha]
		tries += come * len(alpha.Facts)
		if len(matching(alpha.Shape, nil, []impl.Fact{f})) == 1 {
			tries += kept
		}
	}
	return tries
}

// matchesIn tells the conflict set of a valid network a second time.
func matchesIn(n impl.Network) []impl.Match {
	l := []impl.Match{}
	for _, r := range n.Rules {
		l = append(l, matchesOf(r.Name, tokensAgain(r.If, n.Facts))...)
	}
	return l
}

// onlyIn returns the matches of one list that are not in the other one.
func onlyIn(l []impl.Match, other []impl.Match) []impl.Match {
	return slices.DeleteFunc(slices.Clone(l), func(m impl.Match) bool {
		return slices.ContainsFunc(other, func(x impl.Match) bool { return equalMatches(x, m) })
	})
}

func putOrTake(n impl.Network, f impl.Fact, put bool) (impl.Network, bool) {
	if put {
		return impl.PutInNetwork(n, f)
	}
	return impl.TakeFromNetwork(n, f)
}

// checkChange checks all that chapter 8 says of one fact that comes to a valid network or leaves it, and returns what it becomes.
func checkChange(t *testing.T, n impl.Network, f impl.Fact, put bool) impl.Network {
	t.Helper()
	want := n
	facts, valid := changedFacts(n.Facts, f, put)
	come, leave := []impl.Match{}, []impl.Match{}
	if valid {
		want = filled(n, facts)
		want.Tries = n.Tries + triesAgain(n, want, f)
		before, after := matchesIn(n), matchesIn(want)
		come, leave = onlyIn(after, before), onlyIn(before, after)
	}
	got, ok := putOrTake(n, f, put)
	if ok != valid || !equalNetworks(got, want) {
		t.Fatalf("%q, put %v, %v: %+v becomes %+v, not %+v", f, put, ok, n, got, want)
	}
	in, out := impl.ChangesOf(n, f, put)
	if !slices.EqualFunc(in, come, equalMatches) || !slices.EqualFunc(out, leave, equalMatches) {
		t.Fatalf("ChangesOf(%+v, %q, %v) = %q, %q, not %q, %q", n, f, put, in, out, come, leave)
	}
	return got
}

// history is what happens to the empty network of some rules: each line has a fact that comes (+) or leaves (-), Tries
// afterwards, and the numbers of the Tokens of the nodes behind node 0.
type history struct {
	name  string
	rules []string
	lines []string
}

var histories = []history{
	{"no rules", nil, []string{"+p(a) 0 -", "+p(b) 0 -", "-p(a) 0 -"}},
	{"one presence", []string{"r 1: p(?x) -> stop"}, []string{"+p(a) 1 1", "+p(1) 2 2", "-p(a) 3 1", "-p(1) 4 0", "+p(a) 5 1"}},
	{"a fact that no Shape matches", []string{"r 1: p(?x) & not q(?x) & ?x != b -> stop"}, []string{"+z() 0 0,0,0", "+p(a) 2 1,1,1", "+p() 2 1,1,1", "+p(a,a) 2 1,1,1", "+r(a) 2 1,1,1", "-z() 2 1,1,1", "-p(a,a) 2 1,1,1"}},
	{"an absence: tokens go when a fact comes, and come back when it leaves", []string{"r 1: on(?x,?y) & not p(?y) -> stop"},
		[]string{"+on(a,b) 1 1,1", "+p(b) 2 1,0", "+p(a) 3 1,0", "-p(b) 4 1,1", "+on(b,a) 6 2,1", "-on(a,b) 7 1,0", "-p(a) 8 1,1", "+z() 8 1,1"}},
	{"an absence of any fact: the last one that leaves brings the tokens back", []string{"r 1: on(?x,?y) & not p(?z) -> stop"},
		[]string{"+p(a) 0 0,0", "+on(a,b) 2 1,0", "+p(b) 3 1,0", "-p(a) 4 1,0", "-p(b) 5 1,1", "+on(b,a) 6 2,2", "+p(1) 8 2,0"}},
	{"a fact that two conditions of one rule match", []string{"r 1: p(?x) & p(?y) -> stop"}, []string{"+p(a) 2 1,1", "+p(b) 6 2,4", "-p(a) 8 1,1", "-p(b) 9 0,0"}},
	{"a presence and an absence of one Shape", []string{"r 1: p(?x,?y) & not p(?y,?x) -> stop"}, []string{"+p(a,b) 2 1,1", "+p(b,a) 6 2,0", "-p(a,b) 8 1,1", "+p(a,a) 12 2,1"}},
	{"a fact that the Shape of an alpha matches and no token uses", []string{"r 1: p(?x) & q(?x) -> stop"}, []string{"+q(b) 0 0,0", "+p(a) 2 1,0", "+q(1) 3 1,0", "+p(b) 6 2,1", "-q(1) 8 2,1", "-p(b) 9 1,0"}},
	{"one of two Shapes of one Rel", []string{"r 1: p(?x,?x) & p(?x,?y) -> stop"}, []string{"+p(a,b) 0 0,0", "+p(a,a) 3 1,2", "+p(b,a) 4 1,2", "-p(a,b) 5 1,1", "-p(a,a) 6 0,0"}},
	{"a test", []string{"r 1: p(?x) & ?x != a & q(?x) -> stop"}, []string{"+p(b) 2 1,1,0", "+p(a) 4 2,1,0", "+q(b) 5 2,1,1", "+q(a) 6 2,1,1", "+p(1) 10 3,2,1", "-p(b) 11 2,1,0", "-p(a) 12 1,1,0"}},
	{"a test behind an absence", []string{"r 1: p(?x) & not q() & ?x != 5 -> stop"}, []string{"+p(1) 2 1,1,1", "+q() 3 1,0,0", "+p(a) 5 2,0,0", "-q() 9 2,2,2", "-p(1) 10 1,1,1"}},
	{"tokens of the Parent that stay, come and go", []string{"r 1: p(?x) & not q(?x) & p(?y) & not q(?y) -> stop"}, []string{"+p(a) 2 1,1,1,1", "+p(b) 6 2,2,4,4", "+q(a) 10 2,1,2,1", "-q(a) 16 2,2,4,4", "-p(b) 18 1,1,1,1"}},
	{"as many tokens of the Parent come as go", []string{"r 1: p(?x,?y) & not p(?y,?z) & ?x = a -> stop"}, []string{"+p(a,b) 3 1,1,1", "+p(b,1) 8 2,1,0", "-p(b,1) 11 1,1,1"}},
	{"as many come as go, behind them a presence", []string{"r 1: p(?x,?y) & not p(?y,?z) & q(?x) -> stop"}, []string{"+q(b) 0 0,0,0", "+p(a,b) 3 1,1,0", "+p(b,1) 8 2,1,1", "-p(b,1) 11 1,1,0"}},
	{"as many come as go, behind them an absence", []string{"r 1: p(?x,?y) & not p(?y,?z) & not q(?x) -> stop"}, []string{"+q(b) 0 0,0,0", "+p(a,b) 3 1,1,1", "+p(b,1) 8 2,1,0", "-p(b,1) 11 1,1,1"}},
	{"a node that two rules share", []string{"r 1: p(?x) & q(?x) -> stop", "s 1: p(?y) & q(?y) & not z() -> stop"}, []string{"+p(a) 1 1,0,0", "+q(a) 2 1,1,1", "+z() 3 1,1,0", "-q(a) 4 1,0,0"}},
	{"the same conditions, not shared", []string{"r 1: p(?x) & q(?x) -> stop", "s 1: q(?y) & p(?y) -> stop"}, []string{"+p(a) 1 1,0,0,0", "+q(a) 4 1,1,1,1", "+p(b) 7 2,1,1,1"}},
	{"one end of two rules", []string{"r 1: z() -> stop", "s 9: z() -> drop z()"}, []string{"+z() 1 1", "-z() 2 0"}},
	{"an alpha that two nodes have", []string{"r 1: p(?x) & q(a) -> stop", "s 1: z() & q(a) -> stop"}, []string{"+p(a) 1 1,0,0,0", "+z() 2 1,0,1,0", "+q(a) 4 1,1,1,1", "+q(b) 4 1,1,1,1"}},
}

func TestHistoriesOfNetworks(t *testing.T) {
	for _, h := range histories {
		rules := rulesOf(h.rules...)
		n, ok := impl.EmptyNetwork(rules)
		if !ok {
			t.Fatal(h.name)
		}
		come := []impl.Fact{}
		for _, line := range h.lines {
			parts := strings.Fields(line)
			f := listOf(parts[0][1:])[0]
			put := parts[0][0] == '+'
			n = checkChange(t, n, f, put)
			come, _ = changedFacts(come, f, put)
			counts := []string{}
			for _, node := range n.Nodes[1:] {
				counts = append(counts, strconv.Itoa(len(node.Tokens)))
			}
			if got := strings.Join(counts, ","); strconv.Itoa(n.Tries) != parts[1] || got != strings.TrimPrefix(parts[2], "-") {
				t.Errorf("%s: %s: Tries %d, tokens %s", h.name, line, n.Tries, got)
			}
			again := networkAgain(rules, come)
			again.Tries = n.Tries
			if !equalNetworks(n, again) {
				t.Errorf("%s: %s: %+v", h.name, line, n)
			}
		}
	}
}

// Tokens, and not only their number: with plain names, in order.
func TestTokensThatComeAndGo(t *testing.T) {
	n, _ := impl.EmptyNetwork(rulesOf("r 1: on(?y,?x) & not p(?x) -> stop"))
	for _, step := range []struct {
		fact string
		put  bool
		want []string
	}{
		{"on(b,a)", true, []string{"on(b,a); ?1=b ?2=a"}},
		{"on(a,b)", true, []string{"on(a,b); ?1=a ?2=b", "on(b,a); ?1=b ?2=a"}},
		{"on(a,1)", true, []string{"on(a,1); ?1=a ?2=1", "on(a,b); ?1=a ?2=b", "on(b,a); ?1=b ?2=a"}},
		{"p(b)", true, []string{"on(a,1); ?1=a ?2=1", "on(b,a); ?1=b ?2=a"}},
		{"p(1)", true, []string{"on(b,a); ?1=b ?2=a"}},
		{"on(b,a)", false, []string{}},
		{"p(1)", false, []string{"on(a,1); ?1=a ?2=1"}},
		{"p(b)", false, []string{"on(a,1); ?1=a ?2=1", "on(a,b); ?1=a ?2=b"}},
	} {
		n = checkChange(t, n, listOf(step.fact)[0], step.put)
		if got := n.Nodes[2].Tokens; !slices.EqualFunc(got, tokensOf(step.want), equalTokens) {
			t.Errorf("%s: %q", step.fact, got)
		}
	}
}

func TestChangesOf(t *testing.T) {
	rules := rulesOf("s 1: p(?y) & not q(?y) -> stop", "r 9: q(?b) & p(?a) -> stop", "a 5: p(?x) & q(?x) -> stop", "u 0: z() & not p(?z) -> stop")
	n := networkAgain(rules, factsOf("p(a)", "p(b)", "q(b)", "z()"))
	cases := []struct {
		fact        string
		put         bool
		come, leave []impl.Match
	}{
		{"q(a)", true, []impl.Match{matchOf("r", "q(a) p(a); ?a=a ?b=a"), matchOf("r", "q(a) p(b); ?a=b ?b=a"), matchOf("a", "p(a) q(a); ?x=a")}, []impl.Match{matchOf("s", "p(a); ?y=a")}},
		{"p(1)", true, []impl.Match{matchOf("s", "p(1); ?y=1"), matchOf("r", "q(b) p(1); ?a=1 ?b=b")}, nil},
		{"q(b)", false, []impl.Match{matchOf("s", "p(b); ?y=b")}, []impl.Match{matchOf("r", "q(b) p(a); ?a=a ?b=b"), matchOf("r", "q(b) p(b); ?a=b ?b=b"), matchOf("a", "p(b) q(b); ?x=b")}},
		{"p(b)", false, nil, []impl.Match{matchOf("r", "q(b) p(b); ?a=b ?b=b"), matchOf("a", "p(b) q(b); ?x=b")}},
		{"p(a)", false, nil, []impl.Match{matchOf("s", "p(a); ?y=a"), matchOf("r", "q(b) p(a); ?a=a ?b=b")}},
		{"z()", false, nil, nil},
		{"x(a)", true, nil, nil},
		// these fail
		{"p(a)", true, nil, nil},
		{"p(1)", false, nil, nil},
		{"x(a)", false, nil, nil},
	}
	for _, c := range cases {
		come, leave := impl.ChangesOf(n, listOf(c.fact)[0], c.put)
		if !slices.EqualFunc(come, c.come, equalMatches) || !slices.EqualFunc(leave, c.leave, equalMatches) {
			t.Errorf("ChangesOf(%s, %v) = %q, %q", c.fact, c.put, come, leave)
		}
		checkChange(t, n, listOf(c.fact)[0], c.put)
	}
	n = networkAgain(rules, factsOf("p(a)", "z()"))
	come, leave := impl.ChangesOf(n, fact("p", "a"), false)
	if len(come) != 1 || !equalMatches(come[0], matchOf("u", "z(); -")) || len(leave) != 1 || !equalMatches(leave[0], matchOf("s", "p(a); ?y=a")) {
		t.Errorf("ChangesOf = %q, %q", come, leave)
	}
}

// The facts with which the test histories deal, among them some that no condition matches.
func poolOfFacts() []impl.Fact {
	all := factsOf("z()", "p(1,1,1)")
	for _, args := range tuples(2, "1", "a", "b") {
		all = append(all, fact("p", args...))
	}
	return all
}

func TestFactsThatComeAndGoKeepTheNetworkRight(t *testing.T) {
	random := rand.New(rand.NewSource(8))
	pool := poolOfFacts()
	puts, takes, failed := 0, 0, 0
	for range 220 {
		n, ok := impl.EmptyNetwork(someRules(random))
		if !ok {
			t.Fatal(n)
		}
		for range 14 {
			f, put := pool[random.Intn(len(pool))], random.Intn(3) > 0
			// Facts are mostly taken that are there, and no more than six of them come.
			if len(n.Facts) > 0 && (len(n.Facts) == 6 || !put && random.Intn(4) > 0) {
				f, put = n.Facts[random.Intn(len(n.Facts))], false
			}
			before := len(n.Facts)
			n = checkChange(t, n, f, put)
			switch len(n.Facts) - before {
			case 1:
				puts++
			case -1:
				takes++
			default:
				failed++
			}
		}
		if !impl.IsNetwork(n) || !impl.SameMemories(n, networkAgain(n.Rules, n.Facts)) || !impl.SameMemories(impl.RebuildNetwork(n), n) {
			t.Fatalf("at the end: %+v", n)
		}
	}
	if puts < 700 || takes < 400 || failed < 100 {
		t.Errorf("only %d facts came, %d left, and %d did not", puts, takes, failed)
	}
}

func TestWhatComesAndLeavesAgainChangesOnlyTries(t *testing.T) {
	random := rand.New(rand.NewSource(9))
	for range 300 {
		n := networkAgain(someRules(random), someFacts(random, 5))
		n.Tries = random.Intn(100)
		for _, f := range poolOfFacts() {
			_, isThere := changedFacts(n.Facts, f, false)
			x, ok := putOrTake(n, f, !isThere)
			y, back := putOrTake(x, f, isThere)
			if !ok || !back || !impl.SameMemories(y, n) || y.Tries < x.Tries || x.Tries < n.Tries {
				t.Fatalf("%q and back: %+v, %+v", f, n, y)
			}
		}
	}
}

// In each order the same network, but for Tries; also if other facts come and go in between.
func TestFactsInAnyOrder(t *testing.T) {
	rules := rulesOf("r 1: on(?x,?y) & p(?y) & not p(?x) -> stop", "s 1: on(?u,?v) & on(?v,?w) & ?u != ?w -> stop", "t 1: p(?x) & not on(?x,?y) & on(?z,?x) -> stop")
	facts := factsOf("on(a,b)", "on(b,1)", "p(1)", "p(b)", "q(a)")
	want, tries := networkAgain(rules, facts), map[int]bool{}
	permute(slices.Clone(facts), 0, func(order []impl.Fact) {
		n, _ := impl.EmptyNetwork(rules)
		x, count := impl.FeedNetwork(n, order)
		tries[x.Tries] = true
		if count != len(facts) || !impl.SameMemories(x, want) || x.Tries < 1 || !impl.IsNetwork(x) {
			t.Fatalf("FeedNetwork with %q: %d, %+v", order, count, x)
		}
		for i, f := range order {
			n, _ = impl.PutInNetwork(n, f)
			n, _ = impl.PutInNetwork(n, fact("p", "a"))
			n, _ = impl.TakeFromNetwork(n, order[i/2])
			n, _ = impl.TakeFromNetwork(n, fact("p", "a"))
			n, _ = impl.PutInNetwork(n, order[i/2])
		}
		if !impl.SameMemories(n, want) || n.Tries <= x.Tries {
			t.Fatalf("%q, and others in between: %+v", order, n)
		}
	})
	if len(tries) < 2 {
		t.Error("Tries do not depend on the order")
	}
}

func TestFactsComeToEachStructure(t *testing.T) {
	for _, s := range structures {
		for _, text := range append([]string{"on(a,b) on(b,a) p(a) p(b) q(a) z()", "p(a,b) p(b,a) q(a) q(b) z()"}, factsToMatch...) {
			facts, rules := listOf(text), rulesOf(s.rules...)
			n, tries := networkFrom(s, nil), 0
			for _, f := range facts {
				n = checkChange(t, n, f, true)
			}
			tries = n.Tries
			n.Tries = 0
			if !equalNetworks(n, networkFrom(s, facts)) || tries != impl.TriesFor(rules, facts) {
				t.Fatalf("%q with %s: Tries %d, %+v", s.rules, text, tries, n)
			}
			for _, f := range facts {
				n = checkChange(t, n, f, false)
			}
			n.Tries = 0
			if !equalNetworks(n, networkFrom(s, nil)) {
				t.Fatalf("%q without %s: %+v", s.rules, text, n)
			}
		}
	}
}

func TestTriesAreKept(t *testing.T) {
	n := networkFrom(twoRules, factsOf("on(a,b)", "on(b,a)", "p(b)"))
	for _, tries := range []int{0, 1, 5, 1 << 40, math.MaxInt - 3} {
		n.Tries = tries
		// both tokens of node 1 are tried again, at node 2 and at node 3
		if x, _ := impl.PutInNetwork(n, fact("p", "a")); x.Tries-tries != 4 {
			t.Errorf("Tries %d become %d", tries, x.Tries)
		}
		if x, _ := impl.TakeFromNetwork(n, fact("on", "a", "b")); x.Tries != tries+1 {
			t.Errorf("Tries %d become %d", tries, x.Tries)
		}
		if x, count := impl.FeedNetwork(n, factsOf("on(a,1)", "z()")); count != 2 || x.Tries != tries+1+1+1 {
			t.Errorf("Tries %d become %d", tries, x.Tries)
		}
		if x, ok := impl.PutInNetwork(n, fact("p", "b")); ok || x.Tries != tries {
			t.Errorf("Tries %d become %d", tries, x.Tries)
		}
	}
}

// Tries wrap around beyond the range of int, and then the network is not valid.
func TestTriesWrapAround(t *testing.T) {
	n := networkFrom(twoRules, factsOf("on(a,b)", "on(b,a)", "p(b)"))
	n.Tries = math.MaxInt
	f := fact("p", "a")
	want := filled(n, factsOf("on(a,b)", "on(b,a)", "p(a)", "p(b)"))
	want.Tries = math.MinInt + 3
	got, ok := impl.PutInNetwork(n, f)
	if !ok || !equalNetworks(got, want) || impl.IsNetwork(got) {
		t.Errorf("PutInNetwork = %+v, %v", got, ok)
	}
	if got, count := impl.FeedNetwork(n, []impl.Fact{fact("z"), f, fact("y"), fact("p", "1"), f}); count != 2 || got.Tries != math.MinInt+3 || len(got.Facts) != 5 {
		t.Errorf("FeedNetwork = %+v, %d", got, count)
	}
	got, ok = impl.TakeFromNetwork(n, fact("p", "b"))
	if !ok || got.Tries != math.MinInt+3 || len(got.Facts) != 2 {
		t.Errorf("TakeFromNetwork = %+v, %v", got, ok)
	}
	// the conflict set of a network that is not valid is empty
	come, leave := impl.ChangesOf(n, f, true)
	if len(come) != 0 || !slices.EqualFunc(leave, impl.ConflictSet(n), equalMatches) || len(leave) != 2 {
		t.Errorf("ChangesOf = %q, %q", come, leave)
	}
	if got := impl.RebuildNetwork(n); !impl.SameMemories(got, n) || got.Tries < 1 || got.Tries > 20 {
		t.Errorf("RebuildNetwork: Tries %d", got.Tries)
	}
	// without work there is nothing to wrap around
	got, ok = impl.PutInNetwork(n, fact("z"))
	if !ok || got.Tries != math.MaxInt || !impl.IsNetwork(got) {
		t.Errorf("PutInNetwork = %+v, %v", got, ok)
	}
}

func TestFeedNetwork(t *testing.T) {
	rules := rulesOf("r1 1: on(?x,?y) & p(?y) -> add p(?x)", "r2 1: on(?u,?v) & not p(?v) -> add q(?v)")
	bad := fact("p", "?x")
	cases := []struct {
		before, l, after string
		count, tries     int
	}{
		{"-", "-", "-", 0, 0},
		{"-", "on(a,b)", "on(a,b)", 1, 1},
		{"-", "on(a,b) p(b)", "on(a,b) p(b)", 2, 3},
		{"-", "p(b) on(a,b) p(b)", "on(a,b) p(b)", 2, 3},
		{"-", "p(b) p(b) p(a) on(a,b) p(a) z()", "on(a,b) p(a) p(b) z()", 4, 5},
		{"-", "z() q(a) p(a,b)", "p(a,b) q(a) z()", 3, 0},
		{"on(a,b)", "on(a,b) on(a,b)", "on(a,b)", 0, 0},
		{"on(a,b) p(a)", "p(b) p(a) on(b,a)", "on(a,b) on(b,a) p(a) p(b)", 2, 7},
	}
	for _, c := range cases {
		n := networkAgain(rules, listOf(c.before))
		for name, l := range map[string][]impl.Fact{
			"as it is":                   listOf(c.l),
			"with facts that are none":   append(append([]impl.Fact{bad, {}}, listOf(c.l)...), fact("A"), bad),
			"with the facts before":      append(listOf(c.before), listOf(c.l)...),
			"with all of the list twice": append(listOf(c.l), listOf(c.l)...),
		} {
			want := networkAgain(rules, listOf(c.after))
			n.Tries, want.Tries = 100, 100+c.tries
			if got, count := impl.FeedNetwork(n, l); count != c.count || !equalNetworks(got, want) {
				t.Errorf("FeedNetwork with %q, %s: %d, %+v", l, name, count, got)
			}
		}
	}
}

func TestFeedNetworkIsPutInNetworkForEachFact(t *testing.T) {
	random := rand.New(rand.NewSource(10))
	pool := append(poolOfFacts(), fact("p", "?x"), fact("P"), impl.Fact{})
	for range 200 {
		n := networkAgain(someRules(random), someFacts(random, 3))
		n.Tries = random.Intn(9)
		l := []impl.Fact{}
		for range random.Intn(9) {
			l = append(l, pool[random.Intn(len(pool))])
		}
		want, come := n, 0
		for _, f := range l {
			x, ok := impl.PutInNetwork(want, f)
			if ok {
				want, come = x, come+1
			}
		}
		if got, count := impl.FeedNetwork(n, l); count != come || !equalNetworks(got, want) {
			t.Fatalf("FeedNetwork(%+v, %q) = %+v, %d", n, l, got, count)
		}
	}
}

// As many facts as there may be: one more does not come.
func TestNetworkThatIsFull(t *testing.T) {
	rules := rulesOf("r 1: n(?x) & n(?y) & ?y < ?x -> stop", "s 1: n(?x) & not n(7) -> stop")
	empty, _ := impl.EmptyNetwork(rules)
	n, count := impl.FeedNetwork(empty, numbered(40))
	if count != 24 || !equalFacts(n.Facts, numbered(24)) || !impl.IsNetwork(n) || len(impl.ConflictSet(n)) != 276 {
		t.Fatalf("%d facts came: %q", count, n.Facts)
	}
	for _, f := range []impl.Fact{fact("n", "24"), fact("a"), fact("z", "z")} {
		if got, ok := impl.PutInNetwork(n, f); ok || !equalNetworks(got, n) {
			t.Errorf("%q came to a full network", f)
		}
		if come, leave := impl.ChangesOf(n, f, true); len(come) != 0 || len(leave) != 0 {
			t.Errorf("ChangesOf a full network: %q, %q", come, leave)
		}
	}
	come, leave := impl.ChangesOf(n, fact("n", "7"), false)
	if len(come) != 23 || len(leave) != 23 || come[0].Rule != "s" || leave[0].Rule != "r" {
		t.Errorf("ChangesOf = %q, %q", come, leave)
	}
	n, ok := impl.TakeFromNetwork(n, fact("n", "7"))
	if !ok || len(n.Facts) != 23 || len(impl.ConflictSet(n)) != 253+23 {
		t.Errorf("TakeFromNetwork: %q", n.Facts)
	}
	n, count = impl.FeedNetwork(n, numbered(40))
	if count != 1 || !equalFacts(n.Facts, numbered(24)) || !impl.IsNetwork(n) {
		t.Errorf("FeedNetwork: %d, %q", count, n.Facts)
	}
}

// checkUnchanged checks that nothing comes to a network or leaves it.
func checkUnchanged(t *testing.T, name string, n impl.Network, f impl.Fact) {
	t.Helper()
	for _, put := range []bool{true, false} {
		if got, ok := putOrTake(n, f, put); ok || !equalNetworks(got, n) {
			t.Errorf("%s: %q, put %v, %v: %+v", name, f, put, ok, got)
		}
		if come, leave := impl.ChangesOf(n, f, put); len(come) != 0 || len(leave) != 0 {
			t.Errorf("%s: ChangesOf(%q, %v) = %q, %q", name, f, put, come, leave)
		}
	}
	if got, count := impl.FeedNetwork(n, []impl.Fact{f, fact("new"), f}); !impl.IsNetwork(n) && (count != 0 || !equalNetworks(got, n)) {
		t.Errorf("%s: FeedNetwork with %q = %+v, %d", name, f, got, count)
	}
}

func TestNetworksThatAreNotValidStay(t *testing.T) {
	for _, s := range []structure{twoRules, withTests, structures[0], structures[5]} {
		n := networkFrom(s, factsOf("on(a,b)", "p(a)", "p(a,b)", "z()"))
		n.Tries = 5
		for name, x := range wrongNetworks(n) {
			if impl.IsNetwork(x) {
				t.Fatal(name)
			}
			for _, f := range factsOf("on(a,b)", "p(b)", "y()") {
				checkUnchanged(t, name, x, f)
			}
			if got := impl.RebuildNetwork(x); !equalNetworks(got, impl.Network{}) {
				t.Errorf("RebuildNetwork: %s: %+v", name, got)
			}
		}
	}
	for _, rules := range noRules() {
		n := networkAgain(rulesOf("r 1: p(?x) -> stop"), factsOf("p(a)"))
		n.Rules = rules
		checkUnchanged(t, "no rules", n, fact("p", "a"))
		checkUnchanged(t, "no rules", n, fact("p", "b"))
		if got := impl.RebuildNetwork(n); !equalNetworks(got, impl.Network{}) {
			t.Errorf("RebuildNetwork of %+v: %+v", rules, got)
		}
	}
	for _, facts := range noFactSets() {
		n := networkAgain(rulesOf("r 1: x(?x) -> stop"), facts)
		checkUnchanged(t, "no fact set", n, facts[0])
		checkUnchanged(t, "no fact set", n, fact("p", "b"))
	}
	for _, f := range []impl.Fact{fact("p", "a"), {}} {
		checkUnchanged(t, "zero", impl.Network{}, f)
		checkUnchanged(t, "odd", impl.Network{Rules: []impl.Rule{oddRule()}, Ends: []int{-1, 7}, Nodes: []impl.Node{{Parent: 5, Alpha: 7}, {Parent: -9}}, Tries: -3}, f)
	}
	if got := impl.RebuildNetwork(impl.Network{}); !equalNetworks(got, impl.Network{}) {
		t.Errorf("RebuildNetwork of the zero Network: %+v", got)
	}
}

func TestFactsThatAreNotValidDoNotCome(t *testing.T) {
	n := networkFrom(twoRules, factsOf("on(a,b)", "on(b,a)", "p(b)"))
	n.Tries = 7
	for _, f := range append(badTuples(noAtoms), fact("p", "?x"), fact("on", "?1", "?2"), fact("on", "A", "b")) {
		checkUnchanged(t, "no fact", n, f)
	}
	none := impl.Network{Nodes: []impl.Node{{Parent: -1, Alpha: -1, Tokens: make([]impl.Token, 1)}}}
	if !impl.IsNetwork(none) {
		t.Error("the network of no rules is not valid")
	}
	checkUnchanged(t, "no fact", none, impl.Fact{})
	if got, ok := impl.PutInNetwork(n, fact("on", "b", "a")); ok || !equalNetworks(got, n) {
		t.Errorf("a fact that is there came: %+v", got)
	}
	if got, ok := impl.TakeFromNetwork(n, fact("on", "b")); ok || !equalNetworks(got, n) {
		t.Errorf("a fact that is not there left: %+v", got)
	}
}

func TestRebuildNetwork(t *testing.T) {
	facts := factsOf("on(a,b)", "on(b,a)", "p(b)")
	n := networkFrom(twoRules, facts)
	for _, tries := range []int{0, 1, 8, 100, math.MaxInt} {
		n.Tries = tries
		want := networkFrom(twoRules, facts)
		want.Tries = 1 + 1 + 2 + 2
		if got := impl.RebuildNetwork(n); !equalNetworks(got, want) || !impl.IsNetwork(got) {
			t.Errorf("RebuildNetwork with %d Tries = %+v", tries, got)
		}
	}
	for _, s := range structures {
		for _, text := range factsToMatch {
			n := networkFrom(s, listOf(text))
			want := filled(n, n.Facts)
			want.Tries = impl.TriesFor(n.Rules, n.Facts)
			n.Tries = want.Tries + 1
			if got := impl.RebuildNetwork(n); !equalNetworks(got, want) {
				t.Errorf("RebuildNetwork(%+v) = %+v", n, got)
			}
		}
	}
}

// plainTriesAgain counts a second time how often plain matching looks.
func plainTriesAgain(rules []impl.Rule, facts []impl.Fact) int {
	tries := 0
	for _, r := range rules {
		for i, x := range r.If {
			looks := 1
			if x.Kind == impl.CondHas || x.Kind == impl.CondNot {
				looks = len(facts)
			}
			tries += looks * len(tokensAgain(r.If[:i], facts))
		}
	}
	return tries
}

func TestTriesForAndPlainTries(t *testing.T) {
	cases := []struct {
		rules        []string
		facts        string
		tries, plain int
	}{
		{nil, "-", 0, 0},
		{nil, "p(a) p(b)", 0, 0},
		{[]string{"r 1: p(?x) -> stop"}, "-", 0, 0},
		{[]string{"r 1: p(?x) & ?x = a & not q(?x) -> stop"}, "-", 0, 0},
		{[]string{"r 1: p(?x) -> stop"}, "p(a)", 1, 1},
		{[]string{"r 1: p(?x) -> stop"}, "q(a) z()", 0, 2},
		{[]string{"r 1: p(?x) -> stop"}, "p(a) p(b) q(a)", 2, 3},
		{[]string{"r1 1: on(?x,?y) & p(?y) -> add p(?x)", "r2 1: on(?u,?v) & not p(?v) -> add q(?v)"}, "on(a,b) p(b)", 3, 8},
		{[]string{"r 1: p(?x) & p(?y) -> stop"}, "p(a) p(b)", 6, 2 + 2*2},
		{[]string{"r 1: p(?x) & ?x != a & q(?x) -> stop"}, "p(a) p(b) q(a) q(b)", 2 + 2 + 1 + 1, 4 + 2 + 4},
		{[]string{"r 1: p(?x) & 1 < 2 & 2 < 3 -> stop"}, "p(a) z()", 1 + 1 + 1, 2 + 1 + 1},
		{[]string{"r 1: p(?x) & not q(?x) & p(?y) & not q(?y) -> stop"}, "p(a) p(b) q(a)", 10, 3 + 2*3 + 1*3 + 2*3},
		{[]string{"r 1: z() -> stop", "s 1: z() -> stop", "t 1: z() -> stop"}, "z()", 1, 3},
		{[]string{"r 1: p(a) & p(b) & p(1) -> stop"}, "p(1) p(a) p(b)", 1 + 1 + 1, 9},
		{[]string{"r 1: n(?x) & n(?y) & n(?z) -> stop"}, "n(1) n(2) n(3)", 3 + 9 + 27, 3 + 9 + 27},
	}
	for _, c := range cases {
		rules, facts := rulesOf(c.rules...), listOf(c.facts)
		if got := impl.TriesFor(rules, facts); got != c.tries {
			t.Errorf("TriesFor(%q, %s) = %d, not %d", c.rules, c.facts, got, c.tries)
		}
		if got := impl.PlainTries(rules, facts); got != c.plain || plainTriesAgain(rules, facts) != c.plain {
			t.Errorf("PlainTries(%q, %s) = %d, not %d", c.rules, c.facts, got, c.plain)
		}
	}
}

func TestTriesForAndPlainTriesOfManyRules(t *testing.T) {
	random := rand.New(rand.NewSource(11))
	for range 600 {
		rules, facts := someRules(random), someFacts(random, 6)
		n, tries := networkAgain(rules, nil), 0
		for i, f := range facts {
			after := filled(n, facts[:i+1])
			tries += triesAgain(n, after, f)
			n = after
		}
		if got := impl.TriesFor(rules, facts); got != tries {
			t.Fatalf("TriesFor(%+v, %q) = %d, not %d", rules, facts, got, tries)
		}
		if got, want := impl.PlainTries(rules, facts), plainTriesAgain(rules, facts); got != want {
			t.Fatalf("PlainTries(%+v, %q) = %d, not %d", rules, facts, got, want)
		}
	}
}

func TestNoTries(t *testing.T) {
	rules, facts := rulesOf(twoRules.rules...), factsOf("on(a,b)", "p(b)")
	check := func(name string, rules []impl.Rule, facts []impl.Fact) {
		t.Helper()
		if a, b := impl.TriesFor(rules, facts), impl.PlainTries(rules, facts); a != -1 || b != -1 {
			t.Errorf("%s: TriesFor(%+v, %q) = %d, PlainTries %d", name, rules, facts, a, b)
		}
	}
	for _, bad := range noRules() {
		check("no rules", bad, facts)
		check("no rules", bad, nil)
	}
	for name, bad := range noFactSets() {
		check(name, rules, bad)
		check(name, nil, bad)
		check(name, []impl.Rule{{}}, bad)
	}
	check("out of order", rules, factsOf("p(b)", "on(a,b)"))
}

// listsIn are all lists of some networks, by what they hold.
type listsIn struct {
	texts    [][]string
	rules    [][]impl.Rule
	conds    [][]impl.Cond
	actions  [][]impl.Action
	ends     [][]int
	alphas   [][]impl.Alpha
	nodes    [][]impl.Node
	facts    [][]impl.Fact
	tokens   [][]impl.Token
	bindings [][]impl.Pair
}

func (l *listsIn) add(n impl.Network) {
	l.texts, l.rules, l.ends = append(l.texts, argsIn(n)...), append(l.rules, n.Rules), append(l.ends, n.Ends)
	l.alphas, l.nodes, l.facts = append(l.alphas, n.Alphas), append(l.nodes, n.Nodes), append(l.facts, n.Facts)
	for _, r := range n.Rules {
		l.conds, l.actions = append(l.conds, r.If), append(l.actions, r.Then)
	}
	for _, alpha := range n.Alphas {
		l.facts = append(l.facts, alpha.Facts)
	}
	for _, node := range n.Nodes {
		l.tokens = append(l.tokens, node.Tokens)
		for _, x := range node.Tokens {
			l.facts, l.bindings = append(l.facts, x.Facts), append(l.bindings, x.Binding)
		}
	}
}

func (l *listsIn) shared() bool {
	return shared(l.texts) || shared(l.rules) || shared(l.conds) || shared(l.actions) || shared(l.ends) || shared(l.alphas) ||
		shared(l.nodes) || shared(l.facts) || shared(l.tokens) || shared(l.bindings)
}

func TestNetworksThatAreKeptShareNoMemory(t *testing.T) {
	check := func(name string, f impl.Fact, networks ...impl.Network) {
		t.Helper()
		l := listsIn{texts: [][]string{f.Args}}
		for _, n := range networks {
			l.add(n)
		}
		if l.shared() {
			t.Errorf("%s: lists share memory: %+v", name, networks)
		}
	}
	for _, s := range structures {
		for _, text := range []string{"p(a,b) p(b,a) q(a) q(b) z()", "on(b,a) p(a)", "-"} {
			n, _ := impl.EmptyNetwork(rulesOf(s.rules...))
			n, _ = impl.FeedNetwork(n, listOf(text))
			for _, f := range roomyFacts("p(a,a)", "on(a,b)", "q(1)", "p(b)", "z()", "q(a)") {
				put, _ := impl.PutInNetwork(n, f)
				take, _ := impl.TakeFromNetwork(put, f)
				failed, _ := impl.TakeFromNetwork(n, fact("x"))
				fed, _ := impl.FeedNetwork(take, []impl.Fact{f, f})
				check(strings.Join(s.rules, "; "), f, n, put, take, failed, fed, impl.RebuildNetwork(put))
			}
		}
	}
}

func TestKeptNetworksStayAsTheyAre(t *testing.T) {
	n, wrong := roomyNetwork(twoRules, factsOf("on(a,b)", "on(b,a)", "p(b)")), roomyNetwork(twoRules, factsOf("on(a,b)", "p(b)"))
	wrong.Tries = -1
	if !impl.IsNetwork(n) || impl.IsNetwork(wrong) {
		t.Fatal(n, wrong)
	}
	comes, leaves, bad := fact("p", roomyTexts("a")...), fact("on", roomyTexts("a", "b")...), fact("p", roomyTexts("?x")...)
	l, set := roomyFacts("p(b)", "on(a,b)", "p(a)", "p(b)"), roomyFacts("on(a,b)", "p(a)", "p(b)")
	calls := map[string]func(){
		"RebuildNetwork":      func() { overwriteNetwork(impl.RebuildNetwork(n)) },
		"RebuildNetwork, bad": func() { overwriteNetwork(impl.RebuildNetwork(wrong)) },
		"FeedNetwork":         func() { x, _ := impl.FeedNetwork(n, l); overwriteNetwork(x) },
		"FeedNetwork, none":   func() { x, _ := impl.FeedNetwork(n, nil); overwriteNetwork(x) },
		"FeedNetwork, bad":    func() { x, _ := impl.FeedNetwork(wrong, l); overwriteNetwork(x) },
		"FeedNetwork, own":    func() { x, _ := impl.FeedNetwork(n, n.Facts); overwriteNetwork(x) },
		"TriesFor":            func() { impl.TriesFor(n.Rules, set) },
		"PlainTries":          func() { impl.PlainTries(n.Rules, set) },
		"no tries":            func() { impl.TriesFor(n.Rules, l); impl.PlainTries(n.Rules, l) },
	}
	for name, f := range map[string]impl.Fact{"comes": comes, "leaves": leaves, "bad": bad} {
		for _, x := range []impl.Network{n, wrong} {
			for _, put := range []bool{true, false} {
				calls[name+" "+strconv.FormatBool(put)+strconv.Itoa(x.Tries)] = func() {
					got, _ := putOrTake(x, f, put)
					overwriteNetwork(got)
					come, leave := impl.ChangesOf(x, f, put)
					overwriteMatches(come)
					overwriteMatches(leave)
				}
			}
		}
	}
	checkArguments(t, calls, func() []any {
		return []any{wholeNetwork(n), wholeNetwork(wrong), wholeFacts(l), wholeFacts(set), wholeList(comes.Args), wholeList(leaves.Args), wholeList(bad.Args)}
	})
}

func TestChangesShareNoMemory(t *testing.T) {
	facts := roomyFacts("p(a,b)", "p(b,a)")
	n := networkAgain(rulesOf("r 1: p(?x,?y) & not z() -> stop", "s 1: p(?y,?x) & not z() -> stop", "t 1: z() -> stop", "u 1: z() & p(?a,?b) -> stop"), facts)
	for _, f := range []impl.Fact{fact("z"), fact("p", roomyTexts("b", "b")...)} {
		come, leave := impl.ChangesOf(n, f, true)
		if len(come) < 2 {
			t.Errorf("%q", come)
		}
		checkOwnLists(t, "ChangesOf", append(come, leave...), append(slices.Clone(facts), f))
	}
}
