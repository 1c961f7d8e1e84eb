package tests

import (
	"math"
	"math/rand"
	"slices"
	"strconv"
	"strings"
	"testing"

	"loop.example/g03015/impl"
)

// stampsOf reads stamps that the test has written, each a fact, `@` and its Time, separated by blanks (`-` for none).
func stampsOf(text string) []impl.Stamp {
	l := []impl.Stamp{}
	if text == "-" {
		return l
	}
	for _, part := range strings.Split(text, " ") {
		f, time, _ := strings.Cut(part, "@")
		n, err := strconv.Atoi(time)
		if err != nil {
			panic(part)
		}
		l = append(l, impl.Stamp{Fact: listOf(f)[0], Time: n})
	}
	return l
}

// stamped gives each fact its Time.
func stamped(facts []impl.Fact, times ...int) []impl.Stamp {
	l := []impl.Stamp{}
	for i, f := range facts {
		l = append(l, impl.Stamp{Fact: f, Time: times[i]})
	}
	return l
}

// factsOfStamps is FactsIn a second time.
func factsOfStamps(l []impl.Stamp) []impl.Fact {
	facts := []impl.Fact{}
	for _, s := range l {
		facts = append(facts, s.Fact)
	}
	return facts
}

// upTo returns the numbers from first to last.
func upTo(first int, last int) []int {
	l := []int{}
	for n := first; n <= last; n++ {
		l = append(l, n)
	}
	return l
}

func choice(m impl.Match, priority int, times []int, specific int, order int) impl.Choice {
	return impl.Choice{Match: m, Priority: priority, Times: times, Specific: specific, Order: order}
}

func equalChoices(a impl.Choice, b impl.Choice) bool {
	return equalMatches(a.Match, b.Match) && a.Priority == b.Priority && slices.Equal(a.Times, b.Times) && a.Specific == b.Specific && a.Order == b.Order
}

func TestLimitOfTimes(t *testing.T) {
	if impl.MaxTime != 200 {
		t.Error(impl.MaxTime)
	}
}

// Stamps of which one thing keeps them from being a memory.
func noMemories() map[string][]impl.Stamp {
	l := map[string][]impl.Stamp{
		"Time 0":                stampsOf("p(a)@0"),
		"Time MaxTime + 1":      stampsOf("p(a)@201"),
		"a negative Time":       stampsOf("p(a)@-1"),
		"Time 0 in front":       stampsOf("p(a)@0 p(b)@1"),
		"Time 0 behind":         stampsOf("p(a)@1 p(b)@0"),
		"a great Time behind":   stampsOf("p(a)@1 p(b)@2 z()@201"),
		"the least int":         stamped(factsOf("p(a)"), math.MinInt),
		"the greatest int":      stamped(factsOf("p(a)"), math.MaxInt),
		"1 beyond 32 bits":      stamped(factsOf("p(a)"), 1<<32+1),
		"1 beyond 8 bits":       stampsOf("p(a)@257"),
		"equal Times":           stampsOf("p(a)@7 p(b)@7"),
		"equal Times apart":     stampsOf("p(a)@7 p(b)@3 z()@7"),
		"equal Times 1":         stampsOf("p(a)@1 p(b)@2 z()@1"),
		"equal Times MaxTime":   stampsOf("p(a)@200 p(b)@200"),
		"one fact, two Times":   stampsOf("p(a)@1 p(a)@2"),
		"out of order":          stampsOf("p(b)@1 p(a)@2"),
		"numbers out of order":  stampsOf("p(10)@1 p(9)@2"),
		"out of order and Time": stampsOf("p(b)@0 p(a)@201"),
		"a wrong Fact and Time": {{}},
	}
	for name, facts := range noFactSets() {
		l["no fact set: "+name] = stamped(facts, upTo(1, len(facts))...)
	}
	return l
}

// Memories, also with Times in any order.
func memories() [][]impl.Stamp {
	l := [][]impl.Stamp{
		stampsOf("p(a)@1"), stampsOf("p(a)@200"), stampsOf("p(a)@1 p(b)@200"), stampsOf("p(a)@200 p(b)@1"), stampsOf("p(a)@7 p(b)@3 z()@5"), stampsOf("p(9)@2 p(10)@1 p(007)@3"),
	}
	for _, facts := range factSets() {
		l = append(l, stamped(facts, upTo(1, len(facts))...), stamped(facts, upTo(201-len(facts), 200)...))
		falling := upTo(100, 99+len(facts))
		slices.Reverse(falling)
		l = append(l, stamped(facts, falling...))
	}
	return l
}

func TestIsMemory(t *testing.T) {
	if !impl.IsMemory(nil) || !impl.IsMemory([]impl.Stamp{}) {
		t.Error("no stamps are no memory")
	}
	for _, l := range memories() {
		if !impl.IsMemory(l) {
			t.Errorf("IsMemory(%v) = false", l)
		}
	}
	for name, l := range noMemories() {
		if impl.IsMemory(l) {
			t.Errorf("%s: IsMemory(%v) = true", name, l)
		}
	}
}

func TestIsMemoryOfEachTime(t *testing.T) {
	facts := numbered(24)
	for i := range facts {
		for time := -3; time < 260; time++ {
			l := stamped(facts, upTo(50, 73)...)
			l[i].Time = time
			want := 1 <= time && time <= 200 && (time < 50 || time > 73 || time == 50+i)
			if got := impl.IsMemory(l); got != want {
				t.Errorf("IsMemory with the Time %d of fact %d = %v", time, i, got)
			}
		}
	}
}

func TestFactsIn(t *testing.T) {
	for _, l := range memories() {
		if got := impl.FactsIn(l); !equalFacts(got, factsOfStamps(l)) {
			t.Errorf("FactsIn(%v) = %q", l, got)
		}
	}
	for name, l := range noMemories() {
		if got := impl.FactsIn(l); !equalFacts(got, factsOfStamps(l)) {
			t.Errorf("%s: FactsIn(%v) = %q", name, l, got)
		}
	}
	want := factsOf("q(b)", "p(a)", "q(b)", "P(?x)", "p(a,b,c,d)")
	if got := impl.FactsIn(stamped(want, 0, 3, 3, -1, 999)); !equalFacts(got, want) {
		t.Errorf("FactsIn = %q", got)
	}
	if len(impl.FactsIn(nil)) != 0 || len(impl.FactsIn([]impl.Stamp{})) != 0 {
		t.Error("facts in no stamps")
	}
}

func TestTimeOfAndTimesOf(t *testing.T) {
	l := append(stampsOf("q(b)@7 p(a)@3 p(a)@9 z()@0 z()@4 P(?x)@-5 p(a,b,c,d)@999 p(b)@7"), impl.Stamp{Time: 12}, impl.Stamp{Fact: fact("x"), Time: math.MinInt})
	facts, times := []impl.Fact{}, []int{}
	for _, c := range []struct {
		fact impl.Fact
		want int
	}{
		{fact("q", "b"), 7},
		{fact("p", "a"), 3}, // the first of two
		{fact("z"), 0},      // also where the first one has Time 0
		{impl.Fact{Rel: "z", Args: []string{}}, 0},
		{fact("P", "?x"), -5}, // facts that are not valid
		{fact("p", "a", "b", "c", "d"), 999},
		{impl.Fact{}, 12},
		{impl.Fact{Args: []string{}}, 12},
		{fact("p", "b"), 7},
		{fact("x"), math.MinInt},
		// facts that are not there
		{fact("q"), 0}, {fact("q", "a"), 0}, {fact("b"), 0}, {fact("p"), 0}, {fact("p", "a", "b"), 0}, {fact("P"), 0}, {fact("P", "?y"), 0}, {fact("Q", "b"), 0}, {fact(""), 12}, {fact("", ""), 0}, {fact("p", "c"), 0}, {fact("y"), 0},
	} {
		if got := impl.TimeOf(l, c.fact); got != c.want {
			t.Errorf("TimeOf %q = %d, not %d", c.fact, got, c.want)
		}
		facts, times = append(facts, c.fact, c.fact), append(times, c.want, c.want)
		if impl.TimeOf(nil, c.fact) != 0 || impl.TimeOf([]impl.Stamp{}, c.fact) != 0 {
			t.Errorf("a Time of %q in no stamps", c.fact)
		}
	}
	// in order, each as often as it stands there
	if got := impl.TimesOf(l, facts); !slices.Equal(got, times) {
		t.Errorf("TimesOf(%q) = %v, not %v", facts, got, times)
	}
	if got := impl.TimesOf(nil, facts); !slices.Equal(got, make([]int, len(facts))) {
		t.Errorf("TimesOf in no stamps = %v", got)
	}
	if len(impl.TimesOf(l, nil)) != 0 || len(impl.TimesOf(l, []impl.Fact{})) != 0 || len(impl.TimesOf(nil, nil)) != 0 {
		t.Error("times of no facts")
	}
	if got := impl.TimesOf(stampsOf("p(a)@2 p(b)@9"), factsOf("p(b)", "p(c)", "p(a)", "p(b)")); !slices.Equal(got, []int{9, 0, 2, 9}) {
		t.Errorf("TimesOf = %v", got)
	}
}

// fallingAgain takes the greatest number, as long as there is one.
func fallingAgain(l []int) []int {
	falling, rest := []int{}, slices.Clone(l)
	for len(rest) > 0 {
		i := slices.Index(rest, slices.Max(rest))
		falling, rest = append(falling, rest[i]), slices.Delete(rest, i, i+1)
	}
	return falling
}

func TestFalling(t *testing.T) {
	for _, c := range []struct{ l, want []int }{
		{nil, nil}, {[]int{}, nil}, {[]int{5}, []int{5}}, {[]int{0}, []int{0}}, {[]int{1, 2}, []int{2, 1}}, {[]int{2, 1}, []int{2, 1}}, {[]int{7, 7}, []int{7, 7}}, {[]int{3, 3, 3, 3}, []int{3, 3, 3, 3}},
		{[]int{1, 3, 2, 3}, []int{3, 3, 2, 1}}, {[]int{9, 10, 100, 1}, []int{100, 10, 9, 1}}, {[]int{-1, -2, 0, -10, 5, -1}, []int{5, 0, -1, -1, -2, -10}},
		{[]int{math.MinInt, 0, math.MaxInt, -1, math.MinInt, math.MaxInt, 1}, []int{math.MaxInt, math.MaxInt, 1, 0, -1, math.MinInt, math.MinInt}}, {[]int{math.MinInt, 1}, []int{1, math.MinInt}}, {[]int{-2, math.MaxInt}, []int{math.MaxInt, -2}},
		{[]int{1 << 32, 1, 1<<32 + 1, 0}, []int{1<<32 + 1, 1 << 32, 1, 0}},
	} {
		if got := impl.Falling(c.l); !slices.Equal(got, c.want) {
			t.Errorf("Falling(%v) = %v", c.l, got)
		}
	}
	for _, l := range tuples(5, -1, 0, 3, 7) {
		if got := impl.Falling(l); !slices.Equal(got, fallingAgain(l)) {
			t.Errorf("Falling(%v) = %v", l, got)
		}
	}
	long := rand.New(rand.NewSource(9)).Perm(1000)
	if got := impl.Falling(append(long, long...)); !slices.Equal(got, fallingAgain(slices.Repeat(long, 2))) {
		t.Errorf("Falling of a long list = %v", got)
	}
}

// No two of these rules have the same Specificity, and they are in no order.
var rulesToChoose = []string{"s 0: p(?x) -> stop", "r 9: on(?x,?y) & p(?x) & not q(a,?z) -> stop", "t 3: p(a) & on(a,b) & on(b,c) & a != b -> stop", "a 3: z() & z() -> stop"}

func TestChoiceOf(t *testing.T) {
	rules, l := rulesOf(rulesToChoose...), stampsOf("on(a,b)@12 on(b,c)@200 p(a)@3 p(b)@1 z()@77")
	odd := []impl.Pair{{Var: "A"}, {Var: "?x", Value: "?y"}, {}}
	cases := []struct {
		m    impl.Match
		want impl.Choice
	}{
		{matchOf("s", "p(b); ?x=b"), choice(matchOf("s", "p(b); ?x=b"), 0, []int{1}, 1, 0)},
		{matchOf("r", "on(b,c) p(b); ?x=b ?y=c"), choice(matchOf("r", "on(b,c) p(b); ?x=b ?y=c"), 9, []int{200, 1}, 4, 1)},
		// the Times are in the order of the Facts
		{matchOf("r", "on(a,b) p(a); ?x=a ?y=b"), choice(matchOf("r", "on(a,b) p(a); ?x=a ?y=b"), 9, []int{12, 3}, 4, 1)},
		{matchOf("t", "p(a) on(a,b) on(b,c); -"), choice(matchOf("t", "p(a) on(a,b) on(b,c); -"), 3, []int{3, 12, 200}, 9, 2)},
		// a fact twice
		{matchOf("a", "z() z(); -"), choice(matchOf("a", "z() z(); -"), 3, []int{77, 77}, 2, 3)},
		// what is no match of the rule: no Facts, other Facts, other numbers of them, another Binding
		{matchOf("r", "-; -"), choice(matchOf("r", "-; -"), 9, nil, 4, 1)},
		{impl.Match{Rule: "a", Facts: []impl.Fact{}, Binding: []impl.Pair{}}, choice(matchOf("a", "-; -"), 3, nil, 2, 3)},
		{matchOf("s", "z(); ?x=b"), choice(matchOf("s", "z(); ?x=b"), 0, []int{77}, 1, 0)},
		{matchOf("a", "p(b) p(a) p(b) z() on(a,b) p(a); -"), choice(matchOf("a", "p(b) p(a) p(b) z() on(a,b) p(a); -"), 3, []int{1, 3, 1, 77, 12, 3}, 2, 3)},
		{impl.Match{Rule: "s", Facts: factsOf("p(b)"), Binding: odd}, choice(impl.Match{Rule: "s", Facts: factsOf("p(b)"), Binding: odd}, 0, []int{1}, 1, 0)},
	}
	for _, c := range cases {
		got, ok := impl.ChoiceOf(rules, l, c.m)
		if !ok || !equalChoices(got, c.want) {
			t.Errorf("ChoiceOf %q = %v, %v", c.m, got, ok)
		}
	}
	if got, ok := impl.ChoiceOf(rules, nil, matchOf("t", "-; ?x=a")); !ok || !equalChoices(got, choice(matchOf("t", "-; ?x=a"), 3, nil, 9, 2)) {
		t.Errorf("ChoiceOf no facts in no memory = %v, %v", got, ok)
	}
}

func checkNoChoice(t *testing.T, name string, rules []impl.Rule, l []impl.Stamp, m impl.Match) {
	t.Helper()
	if got, ok := impl.ChoiceOf(rules, l, m); ok || !equalChoices(got, impl.Choice{}) {
		t.Errorf("%s: ChoiceOf(%v, %v, %q) = %v, %v", name, rules, l, m, got, ok)
	}
}

func TestNoChoice(t *testing.T) {
	rules, l := rulesOf(rulesToChoose...), stampsOf("on(a,b)@12 on(b,c)@200 p(a)@3 p(b)@1 z()@77")
	for _, name := range append([]string{"b", "ss", "S", "stop", "rules"}, noNames...) {
		checkNoChoice(t, "no rule", rules, l, matchOf(name, "p(b); ?x=b"))
		checkNoChoice(t, "no rule", rules, l, impl.Match{Rule: name})
		checkNoChoice(t, "no rules", nil, l, matchOf(name, "p(b); ?x=b"))
	}
	for _, text := range []string{"p(c)", "p(b) p(c)", "p(c) p(b)", "p(a) q() p(a)", "z(a)", "p()", "p(a,b)", "x()"} {
		checkNoChoice(t, "a fact that is not there", rules, l, matchOf("s", text+"; ?x=b"))
		checkNoChoice(t, "no memory", rules, nil, matchOf("s", text+"; ?x=b"))
	}
	for _, f := range badTuples(noAtoms) {
		checkNoChoice(t, "a fact that is not valid", rules, l, impl.Match{Rule: "s", Facts: []impl.Fact{fact("z"), f}})
	}
	for name, wrong := range noMemories() {
		for _, m := range []impl.Match{{Rule: "s"}, {Rule: "r", Facts: factsOfStamps(wrong)[:1]}, {Rule: "a", Facts: factsOfStamps(wrong)}} {
			checkNoChoice(t, name, rules, wrong, m)
		}
	}
	for _, wrong := range noRules() {
		for _, r := range wrong {
			checkNoChoice(t, "rules that are not valid", wrong, l, impl.Match{Rule: r.Name, Facts: factsOf("z()")})
			checkNoChoice(t, "rules that are not valid", wrong, nil, impl.Match{Rule: r.Name})
		}
	}
	checkNoChoice(t, "nothing", nil, nil, impl.Match{})
}

// choicesInOrder returns choices of which each one comes before the next one.
func choicesInOrder() []impl.Choice {
	m := matchOf("r", "p(a); ?x=a")
	l := []impl.Choice{}
	add := func(priority int, times []int, specific int, order int, facts string) {
		l = append(l, choice(matchOf("r", facts+"; ?x=a"), priority, times, specific, order))
	}
	// Each thing decides where all before it are equal, also if what comes behind it says otherwise.
	add(math.MaxInt, nil, 0, 9, "z()")
	add(10, nil, math.MinInt, math.MaxInt, "z()")
	add(9, nil, 0, 9, "z()")
	for _, times := range [][]int{{math.MaxInt, math.MinInt}, {math.MaxInt}, {200, 3, 2, 1}, {2, 3, 200}, {1, 200, 3}, {200, 3}, {2, 1, 1, 200}, {200, 2, 1}, {1, 200}, {200}, {10, 9}, {10}, {9, 9, 9}, {9, 9, 8, 8, 8}, {9, 9}, {8, 9}, {9}, {2, 2, 2}, {1}, {0, 0}, {0}, {-1, -2}, {-1}, {math.MinInt}} {
		add(8, times, 1, 9, "z()")
	}
	add(8, nil, math.MaxInt, 9, "z()")
	add(8, nil, 4, 9, "z()")
	add(8, nil, 3, 8, "z()")
	add(8, nil, 3, 9, "-")
	for _, facts := range []string{"p(9)", "p(9) p(9)", "p(10)", "p(a)", "p(a) p(a)", "p(b)", "z()"} {
		add(8, nil, 3, 9, facts)
	}
	add(8, nil, 3, 10, "-")
	add(8, nil, 0, -1, "-")
	add(8, nil, 0, 0, "-")
	add(8, nil, -1, math.MinInt, "-")
	add(8, nil, -1, math.MaxInt, "-")
	add(8, nil, math.MinInt, 0, "-")
	add(7, []int{200, 199}, 9, 0, "-")
	l = append(l, choice(impl.Match{}, 1, []int{7}, 0, 0), choice(m, 0, []int{9}, 9, 0), choice(m, -1, []int{9}, 9, 0), choice(m, math.MinInt, []int{9}, 9, 0))
	return l
}

func TestChoicesHaveOneOrder(t *testing.T) {
	checkOneOrder(t, "CompareChoices", choicesInOrder(), impl.CompareChoices)
}

func TestChoicesThatCompareAsZero(t *testing.T) {
	alike := []impl.Choice{}
	for _, times := range [][]int{{3, 7, 3}, {7, 3, 3}, {3, 3, 7}} {
		for _, rule := range []string{"r", "s", "", "?"} {
			for _, b := range []string{"-", "?x=a", "?x=b", "?x=a ?y=b"} {
				alike = append(alike, choice(matchOf(rule, "p(b) p(a); "+b), 1, times, 2, 3))
			}
		}
	}
	for _, a := range alike {
		for _, b := range alike {
			if impl.CompareChoices(a, b) != 0 {
				t.Errorf("CompareChoices(%v, %v) is not 0", a, b)
			}
		}
	}
	empty := impl.Choice{Match: impl.Match{Facts: []impl.Fact{}, Binding: []impl.Pair{}}, Times: []int{}}
	if impl.CompareChoices(impl.Choice{}, impl.Choice{}) != 0 || impl.CompareChoices(empty, impl.Choice{}) != 0 || impl.CompareChoices(impl.Choice{}, empty) != 0 {
		t.Error("nil and empty lists differ")
	}
}

// comesFirst tells a second time whether a choice comes before another one.
func comesFirst(a impl.Choice, b impl.Choice) bool {
	if a.Priority != b.Priority {
		return a.Priority > b.Priority
	}
	x, y := fallingAgain(a.Times), fallingAgain(b.Times)
	for i := range min(len(x), len(y)) {
		if x[i] != y[i] {
			return x[i] > y[i]
		}
	}
	if len(x) != len(y) {
		return len(x) > len(y)
	}
	if a.Specific != b.Specific {
		return a.Specific > b.Specific
	}
	if a.Order != b.Order {
		return a.Order < b.Order
	}
	return impl.CompareTokens(impl.Token{Facts: a.Match.Facts}, impl.Token{Facts: b.Match.Facts}) == -1
}

// manyChoices returns the choices with each of some priorities, times, specificities, orders and facts, those with
// the same number marked by their Binding.
func manyChoices() []impl.Choice {
	l := []impl.Choice{}
	for _, priority := range []int{0, 2} {
		for _, times := range [][]int{{}, {4}, {7}, {4, 7}, {7, 4}, {4, 4}, {7, 4, 5}} {
			for _, specific := range []int{1, 3} {
				for _, order := range []int{0, 1} {
					for _, facts := range []string{"p(a) p(b)", "p(b) p(a)"} {
						m := matchOf("r", facts+"; -")
						m.Binding = []impl.Pair{{Var: strconv.Itoa(len(l))}}
						l = append(l, choice(m, priority, times, specific, order))
					}
				}
			}
		}
	}
	return l
}

func TestCompareChoicesOfAllPairs(t *testing.T) {
	zeros := 0
	l := manyChoices()
	for _, a := range l {
		for _, b := range l {
			want := 0
			if comesFirst(a, b) {
				want = -1
			}
			if comesFirst(b, a) {
				want++
			}
			if want == 0 {
				zeros++
			}
			if got := impl.CompareChoices(a, b); got != want {
				t.Errorf("CompareChoices(%v, %v) = %d, not %d", a, b, got, want)
			}
		}
	}
	// Each is equal to itself; the lists 4, 7 and 7, 4 are, too.
	if zeros != 7*16+2*16 {
		t.Errorf("%d pairs are equal", zeros)
	}
}

// sortedAgain puts each choice behind the last one that does not come behind it.
func sortedAgain(l []impl.Choice) []impl.Choice {
	sorted := []impl.Choice{}
	for _, x := range l {
		i := len(sorted)
		for i > 0 && comesFirst(x, sorted[i-1]) {
			i--
		}
		sorted = slices.Insert(sorted, i, x)
	}
	return sorted
}

func checkSorted(t *testing.T, l []impl.Choice) {
	t.Helper()
	if got := impl.SortChoices(l); !slices.EqualFunc(got, sortedAgain(l), equalChoices) {
		t.Errorf("SortChoices(%v) = %v", l, got)
	}
}

func TestSortChoices(t *testing.T) {
	random := rand.New(rand.NewSource(9))
	many, want := manyChoices(), choicesInOrder()
	for range 60 {
		shuffled := slices.Clone(want)
		random.Shuffle(len(shuffled), func(i int, j int) { shuffled[i], shuffled[j] = shuffled[j], shuffled[i] })
		if got := impl.SortChoices(shuffled); !slices.EqualFunc(got, want, equalChoices) {
			t.Fatalf("SortChoices(%v) = %v", shuffled, got)
		}
		random.Shuffle(len(many), func(i int, j int) { many[i], many[j] = many[j], many[i] })
		checkSorted(t, many)
		checkSorted(t, many[:random.Intn(9)])
	}
	checkSorted(t, nil)
	checkSorted(t, []impl.Choice{})
	checkSorted(t, []impl.Choice{{}})
	checkSorted(t, want)
	slices.Reverse(want)
	checkSorted(t, want)
}

func TestChoicesThatCompareAsZeroKeepTheirOrder(t *testing.T) {
	for _, count := range []int{2, 3, 13, 50, 300} {
		l := []impl.Choice{}
		for i := range count {
			m := impl.Match{Rule: "r" + strconv.Itoa(count-i), Facts: factsOf("p(a)", "p(b)"), Binding: []impl.Pair{{Value: strconv.Itoa(i * 7 % 11)}}}
			times := []int{4, 9}
			if i%3 == 1 {
				times = []int{9, 4}
			}
			l = append(l, choice(m, i%2, times, 2, 0))
		}
		checkSorted(t, l)
		same := slices.Clone(l)
		for i := range same {
			same[i].Priority = 1
		}
		if got := impl.SortChoices(same); !slices.EqualFunc(got, same, equalChoices) {
			t.Errorf("%d choices that compare as 0: %v", count, got)
		}
	}
}

func TestHasFired(t *testing.T) {
	x := choice(matchOf("r", "p(a) p(b); ?x=a"), 3, []int{2, 7}, 4, 1)
	for _, c := range []struct {
		l    []impl.Firing
		want bool
	}{
		{nil, false}, {[]impl.Firing{}, false}, {[]impl.Firing{{}}, false},
		{[]impl.Firing{{Rule: "r", Times: []int{2, 7}}}, true},
		{[]impl.Firing{{Rule: "r", Times: []int{7, 2}}}, false}, // the same Times in another order
		{[]impl.Firing{{Rule: "s", Times: []int{2, 7}}}, false}, // another rule
		{[]impl.Firing{{Rule: "R", Times: []int{2, 7}}, {Rule: "", Times: []int{2, 7}}, {Times: []int{2, 7}}, {Rule: "rr", Times: []int{2, 7}}}, false},
		{[]impl.Firing{{Rule: "r"}, {Rule: "r", Times: []int{2}}, {Rule: "r", Times: []int{7}}, {Rule: "r", Times: []int{2, 7, 7}}, {Rule: "r", Times: []int{0, 2, 7}}, {Rule: "r", Times: []int{2, 8}}, {Rule: "r", Times: []int{3, 7}}, {Rule: "r", Times: []int{2, -7}}}, false},
		// the rule of one firing and the times of another one
		{[]impl.Firing{{Rule: "s", Times: []int{2, 7}}, {Rule: "r", Times: []int{2, 8}}}, false},
		// not the first one, and more than one
		{[]impl.Firing{{Rule: "s", Times: []int{2, 7}}, {Rule: "r", Times: []int{2, 8}}, {Rule: "r", Times: []int{2, 7}}}, true},
		{[]impl.Firing{{Rule: "r", Times: []int{2, 7}}, {Rule: "s", Times: []int{2, 7}}, {Rule: "r", Times: []int{2, 7}}, {}}, true},
	} {
		if got := impl.HasFired(c.l, x); got != c.want {
			t.Errorf("HasFired(%v) = %v", c.l, got)
		}
	}
}

// Only the Rule and the Times of a choice matter.
func TestHasFiredOfAnyChoice(t *testing.T) {
	l := []impl.Firing{{Rule: "A B", Times: []int{-1, 0, 999}}, {Times: []int{5}}, {Rule: "r"}, {Rule: "s", Times: []int{}}}
	for _, facts := range []string{"-", "p(a)", "p(b) z() z()", "P(?x)"} {
		for n := range 3 {
			m := func(rule string) impl.Match {
				return impl.Match{Rule: rule, Facts: listOf(facts), Binding: make([]impl.Pair, n)}
			}
			for _, times := range [][]int{nil, {}} {
				if !impl.HasFired(l, choice(m("r"), n, times, n, n)) || !impl.HasFired(l, choice(m("s"), -n, times, -n, -n)) || impl.HasFired(l, choice(m(""), 0, times, 0, 0)) {
					t.Errorf("%s: no Times", facts)
				}
			}
			if !impl.HasFired(l, choice(m("A B"), n, []int{-1, 0, 999}, n, n)) || !impl.HasFired(l, choice(m(""), n, []int{5}, n, n)) || impl.HasFired(l, choice(m("r"), n, []int{5}, n, n)) {
				t.Errorf("%s: odd firings", facts)
			}
		}
	}
	if impl.HasFired(nil, impl.Choice{}) || !impl.HasFired([]impl.Firing{{}}, impl.Choice{}) {
		t.Error("the zero Choice")
	}
}

// Each rule is there for one thing that decides.
var freshRules = []string{"r1 3: on(?x,?y) & p(?x) -> stop", "r2 3: p(?x) -> stop", "r3 5: z() & a = a -> stop", "r4 3: p(?x) & not q(?x) -> stop", "r5 3: p(?y) -> add q(?y)", "r6 3: p(a) -> stop"}

const memoryToFire = "on(a,b)@2 on(b,a)@9 p(a)@7 p(b)@4 z()@1"

func allFresh() []impl.Choice {
	return []impl.Choice{
		choice(matchOf("r3", "z(); -"), 5, []int{1}, 2, 2),
		choice(matchOf("r1", "on(b,a) p(b); ?x=b ?y=a"), 3, []int{9, 4}, 2, 0),
		choice(matchOf("r1", "on(a,b) p(a); ?x=a ?y=b"), 3, []int{2, 7}, 2, 0),
		choice(matchOf("r4", "p(a); ?x=a"), 3, []int{7}, 2, 3),
		choice(matchOf("r6", "p(a); -"), 3, []int{7}, 2, 5),
		choice(matchOf("r2", "p(a); ?x=a"), 3, []int{7}, 1, 1),
		choice(matchOf("r5", "p(a); ?y=a"), 3, []int{7}, 1, 4),
		choice(matchOf("r4", "p(b); ?x=b"), 3, []int{4}, 2, 3),
		choice(matchOf("r2", "p(b); ?x=b"), 3, []int{4}, 1, 1),
		choice(matchOf("r5", "p(b); ?y=b"), 3, []int{4}, 1, 4),
	}
}

func checkFresh(t *testing.T, name string, rules []impl.Rule, l []impl.Stamp, fired []impl.Firing, want []impl.Choice) {
	t.Helper()
	if got := impl.FreshChoices(rules, l, fired); !slices.EqualFunc(got, want, equalChoices) {
		t.Errorf("%s: FreshChoices(%v, %v, %v) = %v, not %v", name, rules, l, fired, got, want)
	}
}

func firingOf(x impl.Choice) impl.Firing {
	return impl.Firing{Rule: x.Match.Rule, Times: x.Times}
}

func TestFreshChoices(t *testing.T) {
	rules, l, all := rulesOf(freshRules...), stampsOf(memoryToFire), allFresh()
	checkFresh(t, "no firings", rules, l, nil, all)
	checkFresh(t, "no firings", rules, l, []impl.Firing{}, all)
	fired := []impl.Firing{}
	for i, x := range all {
		checkFresh(t, "one has fired", rules, l, []impl.Firing{firingOf(x)}, slices.Delete(slices.Clone(all), i, i+1))
		checkFresh(t, "one has fired twice", rules, l, []impl.Firing{firingOf(x), firingOf(x)}, slices.Delete(slices.Clone(all), i, i+1))
		checkFresh(t, "all but one have fired", rules, l, slices.Delete(firingsOf(all), i, i+1), all[i:i+1])
		fired = append(fired, firingOf(x))
		checkFresh(t, "some have fired", rules, l, fired, all[i+1:])
	}
	for _, f := range []impl.Firing{{Rule: "r1", Times: []int{7, 2}}, {Rule: "r1", Times: []int{2}}, {Rule: "r1", Times: []int{9, 7}}, {Rule: "r2", Times: []int{3}}, {Rule: "r2", Times: []int{2, 7}}, {Rule: "r7", Times: []int{7}}, {Rule: "r2"}, {Rule: "", Times: []int{-1, 999}}, {}} {
		checkFresh(t, "a firing of no match", rules, l, []impl.Firing{f}, all)
	}
}

func firingsOf(l []impl.Choice) []impl.Firing {
	fired := []impl.Firing{}
	for _, x := range l {
		fired = append(fired, firingOf(x))
	}
	return fired
}

// What has fired is fresh again when one of its facts has another time.
func TestMatchesWithNewTimesAreFresh(t *testing.T) {
	rules, all := rulesOf(freshRules...), allFresh()
	l := stampsOf(memoryToFire)
	l[2].Time = 10 // p(a)
	want := []impl.Choice{
		choice(all[2].Match, 3, []int{2, 10}, 2, 0), choice(all[3].Match, 3, []int{10}, 2, 3), choice(all[4].Match, 3, []int{10}, 2, 5), choice(all[5].Match, 3, []int{10}, 1, 1), choice(all[6].Match, 3, []int{10}, 1, 4),
	}
	checkFresh(t, "p(a) came again", rules, l, firingsOf(all), want)
	checkFresh(t, "p(a) came again, and two have fired since", rules, l, append(firingsOf(all), firingOf(want[0]), firingOf(want[3])), []impl.Choice{want[1], want[2], want[4]})
	// and is not fresh where the fact has its old time, whatever else there is now
	l = append(stampsOf("a()@30"), stampsOf(memoryToFire)...)
	checkFresh(t, "another fact came", rules, l, firingsOf(all), nil)
}

func TestTheFactsDecideLast(t *testing.T) {
	rules := rulesOf("r 1: p(?x) & p(?y) -> stop")
	l := stampsOf("p(a)@8 p(b)@5")
	want := []impl.Choice{
		choice(matchOf("r", "p(a) p(a); ?x=a ?y=a"), 1, []int{8, 8}, 2, 0), choice(matchOf("r", "p(a) p(b); ?x=a ?y=b"), 1, []int{8, 5}, 2, 0),
		choice(matchOf("r", "p(b) p(a); ?x=b ?y=a"), 1, []int{5, 8}, 2, 0), choice(matchOf("r", "p(b) p(b); ?x=b ?y=b"), 1, []int{5, 5}, 2, 0),
	}
	checkFresh(t, "two facts", rules, l, nil, want)
	checkFresh(t, "two facts, one order of which has fired", rules, l, []impl.Firing{{Rule: "r", Times: []int{8, 5}}}, []impl.Choice{want[0], want[2], want[3]})
	// the list of the times that begins with the other one is that of the longer match
	rules = rulesOf("s 1: p(?x) -> stop", "r 1: p(?x) & z() -> stop")
	checkFresh(t, "one times, and two", rules, stampsOf("p(a)@8 z()@5"), nil, []impl.Choice{
		choice(matchOf("r", "p(a) z(); ?x=a"), 1, []int{8, 5}, 2, 1), choice(matchOf("s", "p(a); ?x=a"), 1, []int{8}, 1, 0),
	})
	checkFresh(t, "one times, and a greater one", rules, stampsOf("p(a)@8 z()@9"), nil, []impl.Choice{
		choice(matchOf("r", "p(a) z(); ?x=a"), 1, []int{8, 9}, 2, 1), choice(matchOf("s", "p(a); ?x=a"), 1, []int{8}, 1, 0),
	})
	// and a longer list alone does not come first
	checkFresh(t, "two times, and a greater one", rules, stampsOf("p(a)@8 p(b)@9 z()@5"), []impl.Firing{{Rule: "r", Times: []int{9, 5}}}, []impl.Choice{
		choice(matchOf("s", "p(b); ?x=b"), 1, []int{9}, 1, 0), choice(matchOf("r", "p(a) z(); ?x=a"), 1, []int{8, 5}, 2, 1), choice(matchOf("s", "p(a); ?x=a"), 1, []int{8}, 1, 0),
	})
}

// someMemory returns a memory of up to count facts.
func someMemory(random *rand.Rand, count int) []impl.Stamp {
	facts, times := someFacts(random, count), []int{}
	for _, n := range random.Perm([]int{24, 200}[random.Intn(2)]) {
		times = append(times, n+1)
	}
	return stamped(facts, times...)
}

// choicesAgain tells the fresh choices a second time.
func choicesAgain(rules []impl.Rule, l []impl.Stamp, fired []impl.Firing) []impl.Choice {
	times, choices := map[string]int{}, []impl.Choice{}
	for _, s := range l {
		times[s.Fact.Rel+" "+strings.Join(s.Fact.Args, " ")] = s.Time
	}
	for order, r := range rules {
		for _, m := range matchesOf(r.Name, tokensAgain(r.If, factsOfStamps(l))) {
			x := choice(m, r.Priority, nil, impl.Specificity(r), order)
			for _, f := range m.Facts {
				x.Times = append(x.Times, times[f.Rel+" "+strings.Join(f.Args, " ")])
			}
			if !slices.ContainsFunc(fired, func(f impl.Firing) bool { return f.Rule == r.Name && slices.Equal(f.Times, x.Times) }) {
				choices = append(choices, x)
			}
		}
	}
	return sortedAgain(choices)
}

func TestFreshChoicesInOneOrder(t *testing.T) {
	random := rand.New(rand.NewSource(10))
	fresh, notFresh := 0, 0
	for range 2400 {
		rules, l, fired := someRules(random), someMemory(random, 7), []impl.Firing{}
		for i := range rules {
			rules[i].Priority = random.Intn(3)
		}
		all := choicesAgain(rules, l, nil)
		for _, x := range all {
			if random.Intn(3) == 0 {
				fired = append(fired, firingOf(x))
			}
		}
		want := choicesAgain(rules, l, fired)
		checkFresh(t, "at random", rules, l, nil, all)
		checkFresh(t, "at random", rules, l, fired, want)
		checkFresh(t, "all have fired", rules, l, firingsOf(all), nil)
		for _, x := range all {
			if got, ok := impl.ChoiceOf(rules, l, x.Match); !ok || !equalChoices(got, x) {
				t.Fatalf("ChoiceOf(%v, %v, %q) = %v, %v", rules, l, x.Match, got, ok)
			}
		}
		fresh, notFresh = fresh+len(want), notFresh+len(all)-len(want)
	}
	if fresh < 1500 || notFresh < 700 {
		t.Errorf("only %d choices were fresh, and %d were not", fresh, notFresh)
	}
}

func TestNothingIsFresh(t *testing.T) {
	rules, l := rulesOf(freshRules...), stampsOf(memoryToFire)
	for name, wrong := range noMemories() {
		checkFresh(t, name, rules, wrong, nil, nil)
		checkFresh(t, name, nil, wrong, nil, nil)
	}
	// also where the facts have all matches
	for _, text := range []string{"on(a,b)@2 on(b,a)@9 p(a)@7 p(b)@4 z()@0", "on(a,b)@2 on(b,a)@9 p(a)@201 p(b)@4 z()@1", "on(a,b)@2 on(b,a)@9 p(a)@9 p(b)@4 z()@1", "on(a,b)@2 on(b,a)@9 p(b)@4 p(a)@7 z()@1"} {
		checkFresh(t, text, rules, stampsOf(text), nil, nil)
	}
	for _, wrong := range noRules() {
		checkFresh(t, "rules that are not valid", wrong, l, nil, nil)
		checkFresh(t, "rules that are not valid", wrong, nil, nil, nil)
	}
	checkFresh(t, "no rules", nil, l, nil, nil)
	checkFresh(t, "no facts", rules, nil, nil, nil)
	checkFresh(t, "facts that do not match", rules, stampsOf("p(a,b)@1 q(a)@2 z(a)@3"), nil, nil)
}

func TestFreshChoicesOfAFullMemory(t *testing.T) {
	rules := rulesOf("r 1: n(?x) & n(?y) & ?y < ?x -> stop")
	l := stamped(numbered(24), upTo(177, 200)...)
	got := impl.FreshChoices(rules, l, []impl.Firing{{Rule: "r", Times: []int{178, 177}}, {Rule: "r", Times: []int{177, 178}}})
	if len(got) != 24*23/2-1 {
		t.Fatalf("%d choices", len(got))
	}
	for i, x := range got {
		if i > 0 && !comesFirst(got[i-1], x) {
			t.Errorf("%v before %v", got[i-1], x)
		}
	}
	if line := impl.ChoiceLine(got[0]); line != "r: n(23) n(22) (1; 200,199; 3)" {
		t.Error(line)
	}
}

func TestChoiceLine(t *testing.T) {
	for _, c := range []struct {
		x    impl.Choice
		want string
	}{
		{choice(matchOf("r1", "on(a,b) p(a); ?x=a ?y=b"), 3, []int{2, 7}, 4, 1), "r1: on(a,b) p(a) (3; 7,2; 4)"},
		{choice(matchOf("r1", "on(a,b) p(a); ?x=a ?y=b"), 3, []int{7, 2}, 4, 9), "r1: on(a,b) p(a) (3; 7,2; 4)"},
		{choice(matchOf("r", "z(); -"), 0, []int{200}, 1, 0), "r: z() (0; 200; 1)"},
		{choice(matchOf("r", "z(); -"), 9, nil, 12, 0), "r: z() (9; ; 12)"},
		{choice(matchOf("r", "-; -"), 0, []int{}, 0, 0), "r: - (0; ; 0)"},
		{impl.Choice{Match: impl.Match{Rule: "r"}}, "r: - (0; ; 0)"},
		{choice(matchOf("r", "p(b) p(a); -"), -1, []int{3, 10, -2, 3, 0}, -5, -7), "r: p(b) p(a) (-1; 10,3,3,0,-2; -5)"},
		{choice(matchOf("abcdefgh", "p(1); -"), math.MinInt, []int{math.MinInt, math.MaxInt}, math.MaxInt, 0), "abcdefgh: p(1) (-9223372036854775808; 9223372036854775807,-9223372036854775808; 9223372036854775807)"},
		{impl.Choice{}, ""},
	} {
		if got := impl.ChoiceLine(c.x); got != c.want {
			t.Errorf("ChoiceLine(%v) = %q", c.x, got)
		}
	}
	for _, name := range noNames {
		if got := impl.ChoiceLine(choice(matchOf(name, "p(a); ?x=a"), 3, []int{7}, 4, 1)); got != "" {
			t.Errorf("ChoiceLine of the Rule %q: %q", name, got)
		}
	}
	for _, f := range badTuples(noAtoms) {
		if got := impl.ChoiceLine(choice(impl.Match{Rule: "r", Facts: []impl.Fact{fact("z"), f}}, 3, []int{7, 8}, 4, 1)); got != "" {
			t.Errorf("ChoiceLine of the Fact %q: %q", f, got)
		}
	}
}

func TestLinesOfFreshChoices(t *testing.T) {
	lines := []string{}
	for _, x := range impl.FreshChoices(rulesOf(freshRules...), stampsOf(memoryToFire), nil) {
		lines = append(lines, impl.ChoiceLine(x))
	}
	want := []string{"r3: z() (5; 1; 2)", "r1: on(b,a) p(b) (3; 9,4; 2)", "r1: on(a,b) p(a) (3; 7,2; 2)", "r4: p(a) (3; 7; 2)", "r6: p(a) (3; 7; 2)", "r2: p(a) (3; 7; 1)", "r5: p(a) (3; 7; 1)", "r4: p(b) (3; 4; 2)", "r2: p(b) (3; 4; 1)", "r5: p(b) (3; 4; 1)"}
	if !slices.Equal(lines, want) {
		t.Errorf("%q", lines)
	}
}

// checkOwnChoices checks that no two lists of the choices share memory, and that none shares any with the facts or the times.
func checkOwnChoices(t *testing.T, name string, l []impl.Choice, facts []impl.Fact, times ...[]int) {
	t.Helper()
	matches := []impl.Match{}
	for _, x := range l {
		matches, times = append(matches, x.Match), append(times, x.Times)
	}
	checkOwnLists(t, name, matches, facts)
	if shared(times) {
		t.Errorf("%s: Times share memory: %v", name, l)
	}
}

func TestChoicesShareNoMemory(t *testing.T) {
	rules, facts := rulesOf(freshRules...), roomyFacts("on(a,b)", "on(b,a)", "p(a)", "p(b)", "z()")
	l := stamped(facts, 2, 9, 7, 4, 1)
	fresh := impl.FreshChoices(rules, l, nil)
	checkOwnChoices(t, "FreshChoices", fresh, facts)
	// choices of an argument that have all their lists in common
	x := choice(impl.Match{Rule: "r", Facts: facts, Binding: roomyPairs("?x=a")}, 1, []int{4, 9}, 2, 3)
	sorted := impl.SortChoices([]impl.Choice{x, x, x})
	checkOwnChoices(t, "SortChoices", sorted, facts, x.Times)
	first, _ := impl.ChoiceOf(rules, l, impl.Match{Rule: "r1", Facts: facts, Binding: x.Match.Binding})
	second, _ := impl.ChoiceOf(rules, l, impl.Match{Rule: "r1", Facts: facts, Binding: x.Match.Binding})
	checkOwnChoices(t, "ChoiceOf", []impl.Choice{first, second}, facts)
	bindings := [][]impl.Pair{x.Match.Binding, first.Match.Binding, second.Match.Binding}
	for _, y := range sorted {
		bindings = append(bindings, y.Match.Binding)
	}
	if shared(bindings) {
		t.Error("Bindings share memory with an argument")
	}
	checkOwnMemory(t, "FactsIn", impl.FactsIn(append(l, l...)), facts)
}

func overwriteChoices(l []impl.Choice) {
	for _, x := range l {
		overwriteMatches([]impl.Match{x.Match})
		overwrite(x.Times, -1)
	}
	overwrite(l, impl.Choice{Order: -1})
}

func roomyTimes(l ...int) []int {
	return append(slices.Clone(l), 100, 101, 102)[:len(l)]
}

// wholeChoice gives what a choice holds, its lists up to their capacities.
func wholeChoice(x impl.Choice) []any {
	return []any{x.Match.Rule, wholeFacts(x.Match.Facts), wholeList(x.Match.Binding), x.Priority, wholeList(x.Times), x.Specific, x.Order}
}

func TestChoicesStayAsTheyAre(t *testing.T) {
	rules := append(make([]impl.Rule, 0, 9), roomyRule("r 1: p(?x,?y) & p(?y,?z) -> stop"), roomyRule("s 4: p(?x,?y) & not z() -> drop p(?x,?y)"))
	stamps := append(make([]impl.Stamp, 0, 9), stamped(roomyFacts("p(a,b)", "p(b,a)", "q(a)"), 4, 9, 2)...)
	wrong := append(stamps[:3:3], impl.Stamp{Fact: fact("a", roomyTexts("b")...), Time: 3})
	facts, numbers := roomyFacts("q(a)", "p(a,b)", "x()"), roomyTimes(3, 1, 7, 3)
	fired := append(make([]impl.Firing, 0, 9), impl.Firing{Rule: "s", Times: roomyTimes(9)}, impl.Firing{Rule: "r", Times: roomyTimes(9, 4)})
	m := impl.Match{Rule: "r", Facts: roomyFacts("p(b,a)", "p(a,b)"), Binding: roomyPairs("?x=b ?y=a ?z=b")}
	x, y := choice(m, 1, roomyTimes(4, 9), 2, 0), choice(impl.Match{Rule: "s", Facts: facts}, 7, roomyTimes(1, 3, 2), 2, 0)
	choices := append(make([]impl.Choice, 0, 9), x, y, x)
	calls := map[string]func(){
		"FactsIn":            func() { overwrite(impl.FactsIn(stamps), fact("own")) },
		"FactsIn, Args":      func() { overwriteMatches([]impl.Match{{Facts: impl.FactsIn(wrong)}}) },
		"TimesOf":            func() { overwrite(impl.TimesOf(stamps, facts), -1) },
		"Falling":            func() { overwrite(impl.Falling(numbers), -1) },
		"Falling, in order":  func() { overwrite(impl.Falling(numbers[:2]), -1) },
		"ChoiceOf":           func() { z, _ := impl.ChoiceOf(rules, stamps, m); overwriteChoices([]impl.Choice{z}) },
		"ChoiceOf, no rules": func() { z, _ := impl.ChoiceOf(rules[:0], stamps, m); overwriteChoices([]impl.Choice{z}) },
		"ChoiceOf, bad":      func() { z, _ := impl.ChoiceOf(rules, wrong, m); overwriteChoices([]impl.Choice{z}) },
		"SortChoices":        func() { overwriteChoices(impl.SortChoices(choices)) },
		"SortChoices, one":   func() { overwriteChoices(impl.SortChoices(choices[:1])) },
		"FreshChoices":       func() { overwriteChoices(impl.FreshChoices(rules, stamps, nil)) },
		"FreshChoices, some": func() { overwriteChoices(impl.FreshChoices(rules, stamps, fired)) },
		"FreshChoices, bad":  func() { overwriteChoices(impl.FreshChoices(rules, wrong, fired)) },
		"others": func() {
			impl.IsMemory(stamps)
			impl.IsMemory(wrong)
			impl.TimeOf(stamps, facts[0])
			impl.CompareChoices(x, y)
			impl.CompareChoices(x, x)
			impl.HasFired(fired, x)
			impl.ChoiceLine(x)
			impl.ChoiceLine(y)
		},
	}
	checkArguments(t, calls, func() []any {
		l := []any{wholeFacts(facts), wholeList(numbers), wholeChoice(x), wholeChoice(y)}
		for _, r := range wholeList(rules) {
			l = append(l, wholeRule(r))
		}
		for _, s := range append(wholeList(stamps), wholeList(wrong)...) {
			l = append(l, s.Time, wholeFacts([]impl.Fact{s.Fact}))
		}
		for _, f := range wholeList(fired) {
			l = append(l, f.Rule, wholeList(f.Times))
		}
		for _, z := range wholeList(choices) {
			l = append(l, wholeChoice(z))
		}
		return l
	})
}
