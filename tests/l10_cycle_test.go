package tests

import (
	"math"
	"math/rand"
	"slices"
	"strconv"
	"strings"
	"testing"

	"loop.example/g03015/impl"
)

// eventOf reads an event that the test has written, in the form of FormatEvent.
func eventOf(text string) impl.Event {
	word, rest, _ := strings.Cut(text, " ")
	f, rule, _ := strings.Cut(rest, " by ")
	switch word {
	case "put":
		return event(impl.EventPut, "", listOf(f)[0])
	case "take":
		return event(impl.EventTake, "", listOf(f)[0])
	case "fire":
		return event(impl.EventFire, rest, impl.Fact{})
	case "add":
		return event(impl.EventAdd, rule, listOf(f)[0])
	case "drop":
		return event(impl.EventDrop, rule, listOf(f)[0])
	case "stop":
		return event(impl.EventStop, strings.TrimPrefix(rest, "by "), impl.Fact{})
	}
	panic(text)
}

func event(kind int, rule string, f impl.Fact) impl.Event {
	return impl.Event{Kind: kind, Rule: rule, Fact: f}
}

// eventsOf reads events, separated by semicolons (`-` for none).
func eventsOf(text string) []impl.Event {
	l := []impl.Event{}
	if text == "-" {
		return l
	}
	for _, part := range strings.Split(text, "; ") {
		l = append(l, eventOf(part))
	}
	return l
}

// firedOf reads firings, separated by blanks (`-` for none), each a Rule, `@` and its Times.
func firedOf(text string) []impl.Firing {
	l := []impl.Firing{}
	if text == "-" {
		return l
	}
	for _, part := range strings.Split(text, " ") {
		rule, times, _ := strings.Cut(part, "@")
		f := impl.Firing{Rule: rule}
		for _, time := range strings.Split(times, ",") {
			n, err := strconv.Atoi(time)
			if err != nil {
				panic(part)
			}
			f.Times = append(f.Times, n)
		}
		l = append(l, f)
	}
	return l
}

func engineOf(rules []impl.Rule, memory string, clock int, fired string, halted bool, log string) impl.Engine {
	return impl.Engine{Rules: rules, Memory: stampsOf(memory), Clock: clock, Fired: firedOf(fired), Halted: halted, Log: eventsOf(log)}
}

func equalStamps(a impl.Stamp, b impl.Stamp) bool {
	return a.Time == b.Time && equalFacts([]impl.Fact{a.Fact}, []impl.Fact{b.Fact})
}

func equalFirings(a impl.Firing, b impl.Firing) bool {
	return a.Rule == b.Rule && slices.Equal(a.Times, b.Times)
}

func equalEvents(a impl.Event, b impl.Event) bool {
	return a.Kind == b.Kind && a.Rule == b.Rule && equalFacts([]impl.Fact{a.Fact}, []impl.Fact{b.Fact})
}

func equalEngines(a impl.Engine, b impl.Engine) bool {
	return slices.EqualFunc(a.Rules, b.Rules, equalRules) && slices.EqualFunc(a.Memory, b.Memory, equalStamps) && a.Clock == b.Clock &&
		slices.EqualFunc(a.Fired, b.Fired, equalFirings) && a.Halted == b.Halted && slices.EqualFunc(a.Log, b.Log, equalEvents)
}

func copyEngine(e impl.Engine) impl.Engine {
	e.Rules, e.Memory, e.Fired, e.Log = slices.Clone(e.Rules), slices.Clone(e.Memory), slices.Clone(e.Fired), slices.Clone(e.Log)
	for i, r := range e.Rules {
		e.Rules[i] = copyRule(r)
	}
	for i := range e.Memory {
		e.Memory[i].Fact.Args = slices.Clone(e.Memory[i].Fact.Args)
	}
	for i := range e.Fired {
		e.Fired[i].Times = slices.Clone(e.Fired[i].Times)
	}
	for i := range e.Log {
		e.Log[i].Fact.Args = slices.Clone(e.Log[i].Fact.Args)
	}
	return e
}

func TestLimitsAndKindsOfEvents(t *testing.T) {
	got := []int{impl.MaxFired, impl.MaxLog, impl.EventPut, impl.EventTake, impl.EventFire, impl.EventAdd, impl.EventDrop, impl.EventStop}
	if !slices.Equal(got, []int{40, 500, 1, 2, 3, 4, 5, 6}) {
		t.Error(got)
	}
}

var validEvents = []struct {
	event impl.Event
	text  string
}{
	{event(1, "", fact("p", "a")), "put p(a)"},
	{event(1, "", fact("z")), "put z()"},
	{event(1, "", impl.Fact{Rel: "z", Args: []string{}}), "put z()"},
	{event(1, "", fact("put", "put", "1", "007")), "put put(put,1,007)"},
	{event(2, "", fact("on", "a", "b")), "take on(a,b)"},
	{event(2, "", fact("abcdefgh", "12345678", "abcdefgh", "0")), "take abcdefgh(12345678,abcdefgh,0)"},
	{event(3, "r1", impl.Fact{}), "fire r1"},
	{event(3, "abcdefgh", impl.Fact{Args: []string{}}), "fire abcdefgh"},
	{event(3, "stop", impl.Fact{}), "fire stop"},
	{event(4, "r1", fact("q", "a")), "add q(a) by r1"},
	{event(4, "by", fact("by", "by")), "add by(by) by by"},
	{event(4, "z", fact("z")), "add z() by z"},
	{event(5, "r1", fact("q", "a")), "drop q(a) by r1"},
	{event(5, "a1234567", fact("p", "9", "10", "x")), "drop p(9,10,x) by a1234567"},
	{event(6, "r1", impl.Fact{}), "stop by r1"},
	{event(6, "by", impl.Fact{Args: []string{}}), "stop by by"},
}

// noEvents returns events that are not valid.
func noEvents() []impl.Event {
	l := []impl.Event{{}}
	for _, kind := range []int{0, 7, 8, -1, -3, 100, 1 << 32, 1<<32 + 1, 257, math.MaxInt, math.MinInt} {
		for _, rule := range []string{"", "r"} {
			l = append(l, event(kind, rule, impl.Fact{}), event(kind, rule, fact("p", "a")))
		}
	}
	for _, kind := range []int{1, 2} {
		for _, rule := range append([]string{"r", "put"}, noNames[1:]...) {
			l = append(l, event(kind, rule, fact("p", "a")))
		}
		for _, f := range badTuples(noAtoms) {
			l = append(l, event(kind, "", f))
		}
		l = append(l, event(kind, "r", impl.Fact{}))
	}
	for _, kind := range []int{3, 6} {
		for _, name := range noNames {
			l = append(l, event(kind, name, impl.Fact{}))
		}
		for _, f := range []impl.Fact{fact("p"), fact("p", "a"), fact("", ""), fact("", "a"), fact("", "", "", ""), fact("A"), fact("r"), fact(" ")} {
			l = append(l, event(kind, "r", f), event(kind, "", f))
		}
	}
	for _, kind := range []int{4, 5} {
		for _, name := range noNames {
			l = append(l, event(kind, name, fact("p", "a")))
		}
		for _, f := range badTuples(noAtoms) {
			l = append(l, event(kind, "r", f))
		}
		l = append(l, event(kind, "", impl.Fact{}))
	}
	return l
}

func TestEvents(t *testing.T) {
	for _, c := range validEvents {
		if !impl.IsEvent(c.event) {
			t.Errorf("IsEvent(%+v) = false", c.event)
		}
		if got := impl.FormatEvent(c.event); got != c.text {
			t.Errorf("FormatEvent(%+v) = %q", c.event, got)
		}
	}
	for _, x := range noEvents() {
		if impl.IsEvent(x) {
			t.Errorf("IsEvent(%+v) = true", x)
		}
		if got := impl.FormatEvent(x); got != "" {
			t.Errorf("FormatEvent(%+v) = %q", x, got)
		}
	}
}

// Two presences, one, and one with an absence and a test.
var rulesOfEngines = []string{"r 1: p(?x) & q(?y) -> stop", "s 2: p(?x) -> add q(?x)", "t 0: q(?x) & not p(?x) & ?x != a -> drop q(?x)"}

// someFirings returns count different firings of r.
func someFirings(count int) []impl.Firing {
	l := []impl.Firing{}
	for i := range count {
		l = append(l, impl.Firing{Rule: "r", Times: []int{1 + i/10, 1 + i%10}})
	}
	return l
}

// namedEngines builds engines that are like one engine but for one thing each.
type namedEngines struct {
	from    impl.Engine
	engines map[string]impl.Engine
}

func (l namedEngines) add(name string, change func(e *impl.Engine)) {
	e := copyEngine(l.from)
	change(&e)
	l.engines[name] = e
}

func (l namedEngines) clock(memory string, clock int) {
	l.add("Clock "+strconv.Itoa(clock)+", "+memory, func(e *impl.Engine) { e.Memory, e.Clock, e.Fired = stampsOf(memory), clock, nil })
}

func (l namedEngines) fired(text string) {
	l.add("Fired "+text, func(e *impl.Engine) { e.Fired = firedOf(text) })
}

func baseEngine() impl.Engine {
	return engineOf(rulesOf(rulesOfEngines...), "p(a)@7 p(b)@12 q(a)@3", 15, "s@1 r@7,3", false, "put p(a); take p(a); fire s; add q(a) by s; drop q(a) by t; stop by r")
}

// validEngines returns engines of all sorts.
func validEngines() map[string]impl.Engine {
	l := namedEngines{baseEngine(), map[string]impl.Engine{"none": {}, "empty": {Rules: []impl.Rule{}, Memory: []impl.Stamp{}, Fired: []impl.Firing{}, Log: []impl.Event{}}}}
	l.add("as it is", func(e *impl.Engine) {})
	l.add("Halted", func(e *impl.Engine) { e.Halted = true })
	for _, clock := range []int{0, 1, 2, 199, 200} {
		l.clock("-", clock)
	}
	for _, clock := range []int{12, 13, 199, 200} {
		l.clock("p(a)@7 p(b)@12 q(a)@3", clock)
		l.clock("p(a)@12 q(a)@3", clock)
		l.clock("p(a)@7 p(b)@3 q(a)@12", clock)
	}
	l.clock("z()@1", 1)
	l.clock("z()@200", 200)
	for i, facts := range factSets() {
		l.add("fact set "+strconv.Itoa(i), func(e *impl.Engine) { e.Memory, e.Clock = stamped(facts, upTo(1, len(facts))...), 24 })
	}
	for _, text := range []string{"-", "s@1", "s@15", "t@7", "r@1,1", "r@15,15", "r@7,12 r@12,7", "s@7 t@7 r@7,7", "r@3,1 t@15 s@2 r@1,3 r@1,2 s@3", "r@1,11 r@11,1 r@1,1 r@11,11"} {
		l.fired(text)
	}
	for _, count := range []int{1, 39, 40} {
		l.add(strconv.Itoa(count)+" firings", func(e *impl.Engine) { e.Fired = someFirings(count) })
	}
	for _, c := range validEvents {
		l.add("Log "+c.text, func(e *impl.Engine) { e.Log = []impl.Event{c.event} })
	}
	for _, count := range []int{499, 500} {
		l.add(strconv.Itoa(count)+" events", func(e *impl.Engine) { e.Log = slices.Repeat(eventsOf("stop by x"), count) })
	}
	// what is written need not be what has happened
	l.add("Log of other rules", func(e *impl.Engine) { e.Log = eventsOf("add zz(z) by other; take p(a); take p(a); fire other") })
	l.add("Log, and nothing else", func(e *impl.Engine) { *e = impl.Engine{Log: e.Log} })
	l.add("no rules", func(e *impl.Engine) { e.Rules, e.Fired = nil, nil })
	l.add("Memory, Fired and Log at their limits", func(e *impl.Engine) {
		e.Memory, e.Clock, e.Fired, e.Log = stamped(numbered(24), upTo(177, 200)...), 200, someFirings(40), slices.Repeat(eventsOf("put n(0)"), 500)
	})
	return l.engines
}

// noEngines returns engines of which one thing is not valid.
func noEngines() map[string]impl.Engine {
	l := namedEngines{baseEngine(), map[string]impl.Engine{}}
	for i, rules := range noRules() {
		l.add("Rules "+strconv.Itoa(i), func(e *impl.Engine) { e.Rules, e.Fired = rules, nil })
	}
	for name, memory := range noMemories() {
		l.add("Memory: "+name, func(e *impl.Engine) { e.Memory, e.Clock, e.Fired = memory, 200, nil })
	}
	for _, clock := range []int{-1, -200, 201, 202, 1 << 32, 1<<32 + 15, 257, math.MaxInt, math.MinInt} {
		l.clock("-", clock)
		l.clock("p(a)@7 p(b)@12 q(a)@3", clock)
	}
	for _, clock := range []int{0, 1, 3, 7, 11} {
		l.clock("p(a)@7 p(b)@12 q(a)@3", clock)
		l.clock("p(a)@12 q(a)@3", clock)
		l.clock("p(a)@7 p(b)@3 q(a)@12", clock)
	}
	l.clock("z()@1", 0)
	l.clock("z()@200", 199)
	for _, text := range []string{
		// no rule with this Name
		"u@1", "R@1", "rr@1,2", "s@1 u@2", "u@1 s@1",
		// Times out of range
		"s@0", "s@16", "s@-1", "s@201", "t@0", "r@0,1", "r@1,0", "r@16,1", "r@1,16", "s@1 s@0", "s@0 s@1", "s@7 t@7 r@16,7", "s@4294967297",
		// too few Times, and too many
		"r@1", "s@1,2", "t@1,2", "t@1,2,3", "r@1,2,3", "r@1,2,3,4", "s@1 r@1", "r@7 s@1",
		// twice
		"s@1 s@1", "r@1,2 r@1,2", "r@1,2 r@2,1 r@1,2", "s@1 s@2 s@3 s@2", "s@1 t@1 s@1",
	} {
		l.fired(text)
	}
	for _, name := range noNames {
		l.add("Fired by "+name, func(e *impl.Engine) { e.Fired = []impl.Firing{{Rule: name, Times: []int{1}}} })
	}
	l.add("a zero firing", func(e *impl.Engine) { e.Fired = []impl.Firing{{}} })
	l.add("no Times", func(e *impl.Engine) { e.Fired = []impl.Firing{{Rule: "s"}} })
	l.add("many Times", func(e *impl.Engine) { e.Fired = []impl.Firing{{Rule: "s", Times: make([]int, 1000)}} })
	l.add("41 firings", func(e *impl.Engine) { e.Fired = someFirings(41) })
	l.add("100 firings", func(e *impl.Engine) { e.Fired = someFirings(100) })
	l.add("40 firings, one of them twice", func(e *impl.Engine) { e.Fired = append(someFirings(39), someFirings(1)...) })
	for i, x := range noEvents() {
		l.add("Log, event "+strconv.Itoa(i), func(e *impl.Engine) { e.Log = []impl.Event{x} })
		l.add("Log, event behind others "+strconv.Itoa(i), func(e *impl.Engine) { e.Log = append(e.Log, x) })
		l.add("Log, event before others "+strconv.Itoa(i), func(e *impl.Engine) { e.Log = append([]impl.Event{x}, e.Log...) })
	}
	for _, count := range []int{501, 5000} {
		l.add(strconv.Itoa(count)+" events", func(e *impl.Engine) { e.Log = slices.Repeat(eventsOf("stop by x"), count) })
	}
	l.add("no rules, but firings", func(e *impl.Engine) { e.Rules = nil })
	return l.engines
}

func TestIsEngine(t *testing.T) {
	for name, e := range validEngines() {
		if !impl.IsEngine(e) {
			t.Errorf("%s: IsEngine = false: %+v", name, e)
		}
	}
	for name, e := range noEngines() {
		if impl.IsEngine(e) {
			t.Errorf("%s: IsEngine = true: %+v", name, e)
		}
	}
}

func checkEngine(t *testing.T, name string, got impl.Engine, want impl.Engine) {
	t.Helper()
	if !equalEngines(got, want) {
		t.Errorf("%s:\n%+v, not\n%+v", name, got, want)
	}
}

func TestNewEngine(t *testing.T) {
	for _, rules := range [][]impl.Rule{nil, {}, rulesOf("r 1: z() -> stop"), rulesOf(rulesOfEngines...), rulesOf("a 1: z() -> stop", "b 1: z() -> stop", "c 1: z() -> stop", "d 1: z() -> stop", "e 1: z() -> stop", "f 1: z() -> stop")} {
		got, ok := impl.NewEngine(rules)
		checkEngine(t, "NewEngine", got, impl.Engine{Rules: rules})
		if !ok || !impl.IsEngine(got) {
			t.Errorf("NewEngine(%+v) = %+v, %v", rules, got, ok)
		}
	}
	for _, rules := range noRules() {
		got, ok := impl.NewEngine(rules)
		checkEngine(t, "rules that are not valid", got, impl.Engine{})
		if ok {
			t.Errorf("NewEngine(%+v) = true", rules)
		}
	}
}

func TestPutFact(t *testing.T) {
	base := baseEngine()
	for _, c := range []struct{ put, memory string }{
		{"p(c)", "p(a)@7 p(b)@12 p(c)@16 q(a)@3"},
		{"a()", "a()@16 p(a)@7 p(b)@12 q(a)@3"},
		{"p(aa)", "p(a)@7 p(aa)@16 p(b)@12 q(a)@3"},
		{"z(1,2,3)", "p(a)@7 p(b)@12 q(a)@3 z(1,2,3)@16"},
		{"p()", "p()@16 p(a)@7 p(b)@12 q(a)@3"},
		{"p(10)", "p(10)@16 p(a)@7 p(b)@12 q(a)@3"},
	} {
		for _, halted := range []bool{false, true} {
			e := copyEngine(base)
			e.Halted = halted
			got, ok := impl.PutFact(e, listOf(c.put)[0])
			want := copyEngine(e)
			want.Memory, want.Clock, want.Log = stampsOf(c.memory), 16, append(want.Log, eventOf("put "+c.put))
			checkEngine(t, "put "+c.put, got, want)
			if !ok {
				t.Errorf("PutFact %s = false", c.put)
			}
		}
	}
}

func checkNoPut(t *testing.T, name string, e impl.Engine, f impl.Fact) {
	t.Helper()
	got, ok := impl.PutFact(e, f)
	checkEngine(t, name+": put", got, e)
	if ok {
		t.Errorf("%s: PutFact %q = true", name, f)
	}
}

func checkNoTake(t *testing.T, name string, e impl.Engine, f impl.Fact) {
	t.Helper()
	got, ok := impl.TakeFact(e, f)
	checkEngine(t, name+": take", got, e)
	if ok {
		t.Errorf("%s: TakeFact %q = true", name, f)
	}
}

func TestPutsAndTakesThatFail(t *testing.T) {
	e := baseEngine()
	for _, text := range []string{"p(a)", "p(b)", "q(a)"} {
		checkNoPut(t, "there already", e, listOf(text)[0])
	}
	for _, text := range []string{"p(c)", "q(b)", "p()", "p(a,a)", "z()", "a()", "pa()"} {
		checkNoTake(t, "not there", e, listOf(text)[0])
		checkNoTake(t, "nothing there", impl.Engine{}, listOf(text)[0])
	}
	for _, f := range badTuples(noAtoms) {
		checkNoPut(t, "no fact", e, f)
		checkNoTake(t, "no fact", e, f)
		checkNoPut(t, "no fact", impl.Engine{}, f)
		checkNoTake(t, "no fact", impl.Engine{}, f)
	}
	for name, e := range noEngines() {
		for _, f := range append(factsOf("p(c)", "a()", "p(a)"), factsOfStamps(e.Memory)...) {
			checkNoPut(t, name, e, f)
			checkNoTake(t, name, e, f)
		}
	}
}

func TestLimitsOfPutsAndTakes(t *testing.T) {
	l := namedEngines{baseEngine(), map[string]impl.Engine{}}
	full := slices.Repeat(eventsOf("stop by x"), 500)
	l.add("Clock 199", func(e *impl.Engine) { e.Clock = 199 })
	l.add("23 facts", func(e *impl.Engine) { e.Memory, e.Clock = stamped(numbered(23), upTo(1, 23)...), 23 })
	l.add("499 events", func(e *impl.Engine) { e.Log = full[:499] })
	l.add("40 firings", func(e *impl.Engine) { e.Fired = someFirings(40) })
	for name, e := range l.engines {
		put, ok := impl.PutFact(e, fact("a"))
		want := copyEngine(e)
		want.Memory, want.Clock, want.Log = append([]impl.Stamp{{Fact: fact("a"), Time: e.Clock + 1}}, want.Memory...), e.Clock+1, append(want.Log, eventOf("put a()"))
		checkEngine(t, name, put, want)
		if !ok || !impl.IsEngine(put) {
			t.Errorf("%s: PutFact = %+v, %v", name, put, ok)
		}
	}
	clear(l.engines)
	l.add("Clock 200", func(e *impl.Engine) { e.Clock = 200 })
	l.add("24 facts", func(e *impl.Engine) { e.Memory, e.Clock = stamped(numbered(24), upTo(1, 24)...), 24 })
	for name, e := range l.engines {
		checkNoPut(t, name, e, fact("a"))
		got, ok := impl.TakeFact(e, e.Memory[1].Fact)
		want := copyEngine(e)
		want.Memory, want.Log = slices.Delete(want.Memory, 1, 2), append(want.Log, event(impl.EventTake, "", e.Memory[1].Fact))
		checkEngine(t, name, got, want)
		if !ok {
			t.Errorf("%s: TakeFact = false", name)
		}
	}
	e := l.from
	e.Log = full[:499]
	if got, ok := impl.TakeFact(e, fact("p", "a")); !ok || len(got.Log) != 500 || !equalEvents(got.Log[499], eventOf("take p(a)")) {
		t.Errorf("TakeFact with 499 events = %+v, %v", got, ok)
	}
	e.Log = full
	checkNoPut(t, "500 events", e, fact("a"))
	checkNoTake(t, "500 events", e, fact("p", "a"))
}

func TestTakeFact(t *testing.T) {
	base := baseEngine()
	for _, c := range []struct{ take, memory string }{
		{"p(a)", "p(b)@12 q(a)@3"}, {"p(b)", "p(a)@7 q(a)@3"}, {"q(a)", "p(a)@7 p(b)@12"},
	} {
		for _, halted := range []bool{false, true} {
			e := copyEngine(base)
			e.Halted = halted
			got, ok := impl.TakeFact(e, listOf(c.take)[0])
			want := copyEngine(e)
			want.Memory, want.Log = stampsOf(c.memory), append(want.Log, eventOf("take "+c.take))
			checkEngine(t, "take "+c.take, got, want)
			if !ok {
				t.Errorf("TakeFact %s = false", c.take)
			}
		}
	}
}

func TestConflicts(t *testing.T) {
	// s has fired with another time of p(a)
	lines := func(e impl.Engine) []string {
		l := []string{}
		for _, x := range impl.Conflicts(e) {
			l = append(l, impl.ChoiceLine(x))
		}
		return l
	}
	e := baseEngine()
	want := []string{"s: p(b) (2; 12; 1)", "s: p(a) (2; 7; 1)", "r: p(b) q(a) (1; 12,3; 2)"}
	for _, halted := range []bool{false, true} {
		e.Halted = halted
		if got := lines(e); !slices.Equal(got, want) {
			t.Errorf("Conflicts = %q", got)
		}
	}
	e.Fired = firedOf("r@7,3 r@12,3 s@7 s@12")
	if got := lines(e); len(got) != 0 || !impl.IsQuiet(e) {
		t.Errorf("all have fired: %q", got)
	}
	for name, e := range validEngines() {
		want := choicesAgain(e.Rules, e.Memory, e.Fired)
		if got := impl.Conflicts(e); !slices.EqualFunc(got, want, equalChoices) {
			t.Errorf("%s: Conflicts = %v, not %v", name, got, want)
		}
		if got := impl.IsQuiet(e); got != (len(want) == 0) {
			t.Errorf("%s: IsQuiet = %v", name, got)
		}
	}
	for name, e := range noEngines() {
		if got := impl.Conflicts(e); len(got) != 0 || impl.IsQuiet(e) {
			t.Errorf("%s: Conflicts = %v, IsQuiet = %v", name, got, impl.IsQuiet(e))
		}
	}
}

// performed does what a line says: `put F`, `take F` or `step`.
func performed(e impl.Engine, line string) (impl.Engine, bool) {
	if line == "step" {
		return impl.StepEngine(e)
	}
	if text, ok := strings.CutPrefix(line, "put "); ok {
		return impl.PutFact(e, listOf(text)[0])
	}
	return impl.TakeFact(e, listOf(strings.TrimPrefix(line, "take "))[0])
}

// A cycle begins with an engine of the rules, and performs the lines; those that begin with `no` fail.
var cycles = []struct {
	name   string
	rules  []string
	lines  string
	memory string
	clock  int
	fired  string
	halted bool
	log    string
}{
	{"a fact is added", []string{"r1 1: p(?x) -> add q(?x)"}, "no step; put p(a); step; no step",
		"p(a)@1 q(a)@2", 2, "r1@1", false, "put p(a); fire r1; add q(a) by r1"},
	{"a fact that is there is not added, and the clock stays", []string{"r 1: p(?x) -> add q(?x)"}, "put q(a); put p(a); no put p(a); step; no step; put z()",
		"p(a)@2 q(a)@1 z()@3", 3, "r@2", false, "put q(a); put p(a); fire r; put z()"},
	{"also the fact itself", []string{"r 1: p(?x) -> add p(?x)"}, "put p(a); step; no step",
		"p(a)@1", 1, "r@1", false, "put p(a); fire r"},
	{"a fact comes back with a new time", []string{"r1 1: p(?x) -> add q(?x)"}, "put p(a); step; take p(a); no take p(a); no step; put p(a); step; no step",
		"p(a)@3 q(a)@2", 3, "r1@1 r1@3", false, "put p(a); fire r1; add q(a) by r1; take p(a); put p(a); fire r1"},
	{"a fact that is taken keeps its firings", []string{"r 1: p(?x) -> add q(?x)"}, "put p(a); step; take q(a); no step; take p(a); no step",
		"-", 2, "r@1", false, "put p(a); fire r; add q(a) by r; take q(a); take p(a)"},
	{"what an absence has fired for does not fire again", []string{"r 1: p(?x) & not q(?x) -> add q(?x)"}, "put p(a); step; no step; take q(a); no step; put p(b); step; no step",
		"p(a)@1 p(b)@3 q(b)@4", 4, "r@1 r@3", false, "put p(a); fire r; add q(a) by r; take q(a); put p(b); fire r; add q(b) by r"},
	{"an absence holds later", []string{"r 1: p(?x) & not q(?x) -> stop"}, "put q(a); put p(a); no step; take q(a); step; no step",
		"p(a)@2", 2, "r@2", true, "put q(a); put p(a); take q(a); fire r; stop by r"},
	{"a fact is dropped", []string{"r 1: p(?x) & q(?x) -> drop p(?x)"}, "put p(a); put q(a); put p(b); step; no step; put p(a); step; no step",
		"p(b)@3 q(a)@2", 4, "r@1,2 r@4,2", false, "put p(a); put q(a); put p(b); fire r; drop p(a) by r; put p(a); fire r; drop p(a) by r"},
	{"a fact that is not there is not dropped", []string{"r 1: p(?x) -> drop q(?x)"}, "put p(a); put q(b); step; no step",
		"p(a)@1 q(b)@2", 2, "r@1", false, "put p(a); put q(b); fire r"},
	{"dropped twice", []string{"r 1: p(?x) -> drop p(?x) & drop p(?x)"}, "put p(a); step; no step",
		"-", 1, "r@1", false, "put p(a); fire r; drop p(a) by r"},
	{"added twice", []string{"r 1: p(?x) -> add q(?x) & add q(?x)"}, "put p(a); step; no step",
		"p(a)@1 q(a)@2", 2, "r@1", false, "put p(a); fire r; add q(a) by r"},
	{"two facts are added", []string{"r 1: p(?x) -> add q(?x) & add a()"}, "put p(a); step; no step",
		"a()@3 p(a)@1 q(a)@2", 3, "r@1", false, "put p(a); fire r; add q(a) by r; add a() by r"},
	{"added and dropped", []string{"r 1: p(?x) -> add q(?x) & drop q(?x)"}, "put p(a); step; no step; put p(b)",
		"p(a)@1 p(b)@3", 3, "r@1", false, "put p(a); fire r; add q(a) by r; drop q(a) by r; put p(b)"},
	{"added, though it is there, and dropped", []string{"r 1: p(?x) -> add q(?x) & drop q(?x)"}, "put q(a); put p(a); step; no step",
		"p(a)@2", 2, "r@2", false, "put q(a); put p(a); fire r; drop q(a) by r"},
	{"dropped and added", []string{"r 1: p(?x) -> drop q(?x) & add q(?x)"}, "put q(a); put p(a); step; no step",
		"p(a)@2 q(a)@3", 3, "r@2", false, "put q(a); put p(a); fire r; drop q(a) by r; add q(a) by r"},
	{"dropped, though it is not there, and added", []string{"r 1: p(?x) -> drop q(?x) & add q(?x)"}, "put p(a); step; no step",
		"p(a)@1 q(a)@2", 2, "r@1", false, "put p(a); fire r; add q(a) by r"},
	{"a fact that its match drops and adds may fire again", []string{"r 1: p(?x) -> drop p(?x) & add p(?x)"}, "put p(a); step; step; step",
		"p(a)@4", 4, "r@1 r@2 r@3", false, "put p(a); fire r; drop p(a) by r; add p(a) by r; fire r; drop p(a) by r; add p(a) by r; fire r; drop p(a) by r; add p(a) by r"},
	{"the binding outlives the fact", []string{"r 1: p(?x,?y) & z() -> drop z() & add q(?y,?x,1)"}, "put z(); put p(a,b); step; no step",
		"p(a,b)@2 q(b,a,1)@3", 3, "r@2,1", false, "put z(); put p(a,b); fire r; drop z() by r; add q(b,a,1) by r"},
	{"a stop", []string{"r 1: p(?x) -> stop"}, "put p(a); put p(b); step; no step; put p(c); no step; take p(a); no step; no take p(a)",
		"p(b)@2 p(c)@3", 3, "r@2", true, "put p(a); put p(b); fire r; stop by r; put p(c); take p(a)"},
	{"what stands behind a stop is performed", []string{"r 1: p(?x) -> stop & add q(?x)"}, "put p(a); step; no step",
		"p(a)@1 q(a)@2", 2, "r@1", true, "put p(a); fire r; stop by r; add q(a) by r"},
	{"so is a drop", []string{"r 1: p(?x) -> stop & drop p(?x)"}, "put p(a); put p(b); step; no step",
		"p(a)@1", 2, "r@2", true, "put p(a); put p(b); fire r; stop by r; drop p(b) by r"},
	{"a stop behind", []string{"r 1: p(?x) -> add q(?x) & stop"}, "put p(a); step; no step",
		"p(a)@1 q(a)@2", 2, "r@1", true, "put p(a); fire r; add q(a) by r; stop by r"},
	{"two stops", []string{"r 1: p(?x) -> stop & stop"}, "put p(a); step; no step",
		"p(a)@1", 1, "r@1", true, "put p(a); fire r; stop by r; stop by r"},
	{"the newest first", []string{"r 1: p(?x) -> add q(?x)"}, "put p(b); put p(c); put p(a); step; step; step; no step",
		"p(a)@3 p(b)@1 p(c)@2 q(a)@4 q(b)@6 q(c)@5", 6, "r@3 r@2 r@1", false, "put p(b); put p(c); put p(a); fire r; add q(a) by r; fire r; add q(c) by r; fire r; add q(b) by r"},
	{"the greater priority first", []string{"r 1: p(?x) -> add q(?x)", "s 2: p(?x) -> add r(?x)", "t 0: q(?x) -> stop"}, "put p(a); step; step; step; no step",
		"p(a)@1 q(a)@3 r(a)@2", 3, "s@1 r@1 t@3", true, "put p(a); fire s; add r(a) by s; fire r; add q(a) by r; fire t; stop by t"},
	{"what comes in fires before what was there", []string{"s 1: p(?x) & ?x != b -> add q(b)", "r 1: q(?x) -> add p(?x)"}, "put p(a); put q(c); step; step; step; step; no step",
		"p(a)@1 p(b)@5 p(c)@3 q(b)@4 q(c)@2", 5, "r@2 s@3 r@4 s@1", false, "put p(a); put q(c); fire r; add p(c) by r; fire s; add q(b) by s; fire r; add p(b) by r; fire s"},
	{"times stand in the order of the facts", []string{"r 1: p(?x) & q(?y) & p(?z) -> drop p(?z)"}, "put p(b); put q(a); put p(a); step; step; no step",
		"q(a)@2", 3, "r@3,2,3 r@1,2,1", false, "put p(b); put q(a); put p(a); fire r; drop p(a) by r; fire r; drop p(b) by r"},
	{"numbers stand before names", []string{"r 1: n(?x) -> add n(10) & add n(9)"}, "put n(a); step; step; step; no step",
		"n(9)@3 n(10)@2 n(a)@1", 3, "r@1 r@3 r@2", false, "put n(a); fire r; add n(10) by r; add n(9) by r; fire r; fire r"},
	{"tests and absences", []string{"r 3: n(?x) & n(?y) & ?x < ?y & not m(?y) -> add m(?y) & drop n(?x)"}, "put n(1); put n(2); put n(a); put n(3); step; no step; put n(2); step; no step",
		"m(2)@7 m(3)@5 n(2)@6 n(3)@4 n(a)@3", 7, "r@2,4 r@1,6", false, "put n(1); put n(2); put n(a); put n(3); fire r; add m(3) by r; drop n(2) by r; put n(2); fire r; add m(2) by r; drop n(1) by r"},
	{"no rules", nil, "put p(a); no step; take p(a); put p(a); no step",
		"p(a)@2", 2, "-", false, "put p(a); take p(a); put p(a)"},
}

func TestCycles(t *testing.T) {
	for _, c := range cycles {
		rules := rulesOf(c.rules...)
		e, _ := impl.NewEngine(rules)
		for _, line := range strings.Split(c.lines, "; ") {
			line, fails := strings.CutPrefix(line, "no ")
			got, ok := performed(e, line)
			if ok == fails {
				t.Errorf("%s: %s: %v", c.name, line, ok)
			}
			if fails {
				checkEngine(t, c.name+": no "+line, got, e)
			}
			e = got
			if !impl.IsEngine(e) {
				t.Errorf("%s: %s: not valid: %+v", c.name, line, e)
			}
			again, ok := impl.ReplayLog(rules, e.Log)
			checkEngine(t, c.name+": ReplayLog", again, e)
			if !ok || !impl.SameEngine(again, e) {
				t.Errorf("%s: %s: the log does not give the engine again: %+v", c.name, line, again)
			}
		}
		checkEngine(t, c.name, e, engineOf(rules, c.memory, c.clock, c.fired, c.halted, c.log))
	}
}

// In a full memory a step adds nothing, unless it has dropped a fact before.
func TestStepsInAFullMemory(t *testing.T) {
	memory := stamped(numbered(24), upTo(1, 24)...)
	for _, c := range []struct {
		then, log string
		memory    []impl.Stamp
		clock     int
	}{
		{"add q()", "fire r", memory, 24},
		{"add q() & add n(24)", "fire r", memory, 24},
		{"add n(7) & add q()", "fire r", memory, 24},
		{"drop n(0) & add q()", "fire r; drop n(0) by r; add q() by r", append(slices.Clone(memory[1:]), stampsOf("q()@25")...), 25},
		{"drop n(24) & add q()", "fire r", memory, 24},
		{"add q() & drop n(23)", "fire r; drop n(23) by r", memory[:23], 24},
		{"add q() & drop q()", "fire r", memory, 24},
		{"drop n(0) & add n(0)", "fire r; drop n(0) by r; add n(0) by r", append(stampsOf("n(0)@25"), memory[1:]...), 25},
		{"add q() & stop", "fire r; stop by r", memory, 24},
	} {
		rules := rulesOf("r 1: n(0) & n(23) -> " + c.then)
		got, ok := impl.StepEngine(impl.Engine{Rules: rules, Memory: memory, Clock: 24})
		checkEngine(t, c.then, got, impl.Engine{Rules: rules, Memory: c.memory, Clock: c.clock, Fired: firedOf("r@1,24"), Halted: strings.Contains(c.then, "stop"), Log: eventsOf(c.log)})
		if !ok || !impl.IsEngine(got) {
			t.Errorf("%s: StepEngine = %+v, %v", c.then, got, ok)
		}
	}
	// with room for one fact only the first one is added
	rules := rulesOf("r 1: n(0) -> add q() & add a()")
	got, _ := impl.StepEngine(impl.Engine{Rules: rules, Memory: memory[:23], Clock: 30})
	checkEngine(t, "room for one fact", got, impl.Engine{Rules: rules, Memory: append(slices.Clone(memory[:23]), stampsOf("q()@31")...), Clock: 31, Fired: firedOf("r@1"), Log: eventsOf("fire r; add q() by r")})
}

func checkNoStep(t *testing.T, name string, e impl.Engine) {
	t.Helper()
	got, ok := impl.StepEngine(e)
	checkEngine(t, name+": StepEngine", got, e)
	if ok {
		t.Errorf("%s: StepEngine = true", name)
	}
	for _, most := range []int{math.MinInt, -1, 0, 1, 2, 1000, math.MaxInt} {
		got, n := impl.RunEngine(e, most)
		checkEngine(t, name+": RunEngine", got, e)
		if n != 0 {
			t.Errorf("%s: RunEngine(%d) makes %d steps", name, most, n)
		}
	}
}

// Engines that are at their limits, and as far from these as a step needs.
func TestLimitsOfSteps(t *testing.T) {
	l := namedEngines{engineOf(rulesOf("r 1: p(?x) & p(?x) -> add q(?x) & add b(?x)"), "p(a)@90", 90, "-", false, "put p(a)"), map[string]impl.Engine{}}
	stop := eventsOf("stop by x")
	l.add("far", func(e *impl.Engine) {})
	l.add("Clock 198", func(e *impl.Engine) { e.Clock = 198 })
	l.add("39 firings", func(e *impl.Engine) { e.Fired = someFirings(39) })
	l.add("497 events", func(e *impl.Engine) { e.Log = slices.Repeat(stop, 497) })
	l.add("all of these", func(e *impl.Engine) { e.Clock, e.Fired, e.Log = 198, someFirings(39), slices.Repeat(stop, 497) })
	for name, e := range l.engines {
		got, ok := impl.StepEngine(e)
		want := copyEngine(e)
		want.Memory = []impl.Stamp{{Fact: fact("b", "a"), Time: e.Clock + 2}, {Fact: fact("p", "a"), Time: 90}, {Fact: fact("q", "a"), Time: e.Clock + 1}}
		want.Clock, want.Fired = e.Clock+2, append(want.Fired, impl.Firing{Rule: "r", Times: []int{90, 90}})
		want.Log = append(want.Log, eventsOf("fire r; add q(a) by r; add b(a) by r")...)
		checkEngine(t, name, got, want)
		if !ok || !impl.IsEngine(got) {
			t.Errorf("%s: StepEngine = %+v, %v", name, got, ok)
		}
	}
	clear(l.engines)
	l.add("Halted", func(e *impl.Engine) { e.Halted = true })
	l.add("Clock 199", func(e *impl.Engine) { e.Clock = 199 })
	l.add("Clock 200", func(e *impl.Engine) { e.Clock = 200 })
	l.add("40 firings", func(e *impl.Engine) { e.Fired = someFirings(40) })
	for _, count := range []int{498, 499, 500} {
		l.add(strconv.Itoa(count)+" events", func(e *impl.Engine) { e.Log = slices.Repeat(stop, count) })
	}
	// the limits do not depend on what the rule does
	l.add("Clock 199, and nothing to add", func(e *impl.Engine) { e.Rules, e.Clock = rulesOf("r 1: p(?x) -> drop p(?x)"), 199 })
	l.add("498 events, and one to write", func(e *impl.Engine) { e.Rules, e.Log = rulesOf("r 1: p(?x) -> add p(?x)"), slices.Repeat(stop, 498) })
	for name, e := range l.engines {
		if !impl.IsEngine(e) || impl.IsQuiet(e) {
			t.Errorf("%s: not valid, or quiet: %+v", name, e)
		}
		checkNoStep(t, name, e)
	}
	clear(l.engines)
	l.add("nothing there", func(e *impl.Engine) { e.Memory = nil })
	l.add("no rules", func(e *impl.Engine) { e.Rules = nil })
	l.add("all has fired", func(e *impl.Engine) { e.Fired = firedOf("r@90,90") })
	for name, e := range l.engines {
		if !impl.IsQuiet(e) {
			t.Errorf("%s: not quiet", name)
		}
		checkNoStep(t, name, e)
	}
	for name, e := range noEngines() {
		checkNoStep(t, name, e)
	}
}

func TestRunEngine(t *testing.T) {
	rules := rulesOf("r 1: p(?x) -> add q(?x)", "s 2: q(?x) -> add r(?x)")
	start := engineOf(rules, "p(a)@1 p(b)@2", 2, "-", false, "put p(a); put p(b)")
	engines := []impl.Engine{start}
	for range 4 {
		next, ok := impl.StepEngine(engines[len(engines)-1])
		if !ok {
			t.Fatal(engines)
		}
		engines = append(engines, next)
	}
	end := engineOf(rules, "p(a)@1 p(b)@2 q(a)@5 q(b)@3 r(a)@6 r(b)@4", 6, "r@2 s@3 r@1 s@5", false, "put p(a); put p(b); fire r; add q(b) by r; fire s; add r(b) by s; fire r; add q(a) by r; fire s; add r(a) by s")
	checkEngine(t, "four steps", engines[4], end)
	for _, c := range []struct{ most, steps int }{
		{math.MinInt, 0}, {-100, 0}, {-1, 0}, {0, 0}, {1, 1}, {2, 2}, {3, 3}, {4, 4}, {5, 4}, {6, 4}, {100, 4}, {1 << 32, 4}, {math.MaxInt, 4},
	} {
		for from := range engines {
			got, n := impl.RunEngine(engines[from], c.most)
			steps := min(c.steps, 4-from)
			checkEngine(t, "RunEngine", got, engines[from+steps])
			if n != steps {
				t.Errorf("RunEngine(%d) from step %d makes %d steps", c.most, from, n)
			}
		}
	}
	for name, e := range noEngines() {
		checkNoStep(t, name, e)
	}
}

// A rule that has a new match after each step comes to each of the limits.
func TestRunsThatEndAtALimit(t *testing.T) {
	l := namedEngines{engineOf(rulesOf("r 1: p(?x) -> drop p(?x) & add p(?x)"), "p(a)@1", 1, "-", false, "-"), map[string]impl.Engine{}}
	steps := map[string]int{}
	add := func(name string, want int, change func(e *impl.Engine)) { l.add(name, change); steps[name] = want }
	add("40 firings", 40, func(e *impl.Engine) {})
	add("30 firings more", 30, func(e *impl.Engine) {
		for n := range 10 {
			e.Fired = append(e.Fired, impl.Firing{Rule: "r", Times: []int{n + 1}})
		}
		e.Memory, e.Clock = stampsOf("p(a)@11"), 11
	})
	add("Clock 180", 19, func(e *impl.Engine) { e.Clock = 180 })
	add("Clock 160", 39, func(e *impl.Engine) { e.Clock = 160 })
	add("400 events", 33, func(e *impl.Engine) { e.Log = slices.Repeat(eventsOf("take p(a)"), 400) })
	add("380 events", 40, func(e *impl.Engine) { e.Log = slices.Repeat(eventsOf("take p(a)"), 380) })
	for name, e := range l.engines {
		got, n := impl.RunEngine(e, 1000)
		if n != steps[name] || len(got.Fired) != len(e.Fired)+n || got.Clock != e.Clock+n || len(got.Log) != len(e.Log)+3*n || !impl.IsEngine(got) {
			t.Errorf("%s: RunEngine makes %d steps: %+v", name, n, got)
		}
		if impl.IsQuiet(got) {
			t.Errorf("%s: the engine is quiet", name)
		}
		checkNoStep(t, name, got)
		for most := range steps[name] {
			if _, n := impl.RunEngine(e, most); n != most {
				t.Errorf("%s: RunEngine(%d) makes %d steps", name, most, n)
			}
		}
	}
}

func checkReplay(t *testing.T, rules []impl.Rule, log []impl.Event, want impl.Engine) {
	t.Helper()
	got, ok := impl.ReplayLog(rules, log)
	checkEngine(t, "ReplayLog", got, want)
	if !ok || !impl.IsEngine(got) {
		t.Errorf("ReplayLog(%v, %+v) = %+v, %v", rules, log, got, ok)
	}
}

func checkNoReplay(t *testing.T, rules []impl.Rule, log []impl.Event) {
	t.Helper()
	if got, ok := impl.ReplayLog(rules, log); ok || !equalEngines(got, impl.Engine{}) {
		t.Errorf("ReplayLog(%v, %+v) = %+v, %v", rules, log, got, ok)
	}
}

var (
	rulesToReplay = []string{"r 2: p(?x) -> add q(?x) & drop p(?x)", "s 1: q(?x) -> stop"}
	logToReplay   = "put p(a); fire r; add q(a) by r; drop p(a) by r; put p(b); take p(b); fire s; stop by s; put z()"
)

func TestReplayLog(t *testing.T) {
	rules, log := rulesOf(rulesToReplay...), eventsOf(logToReplay)
	parts := map[int]impl.Engine{
		0: engineOf(rules, "-", 0, "-", false, "-"),
		1: engineOf(rules, "p(a)@1", 1, "-", false, "-"),
		4: engineOf(rules, "q(a)@2", 2, "r@1", false, "-"),
		5: engineOf(rules, "p(b)@3 q(a)@2", 3, "r@1", false, "-"),
		6: engineOf(rules, "q(a)@2", 3, "r@1", false, "-"),
		8: engineOf(rules, "q(a)@2", 3, "r@1 s@2", true, "-"),
		9: engineOf(rules, "q(a)@2 z()@4", 4, "r@1 s@2", true, "-"),
	}
	for n := range len(log) + 1 {
		// a log that ends within a step gives no engine
		want, ok := parts[n]
		if !ok {
			checkNoReplay(t, rules, log[:n])
			continue
		}
		want.Log = log[:n]
		checkReplay(t, rules, log[:n], want)
	}
	checkReplay(t, rules, nil, impl.Engine{Rules: rules})
	checkReplay(t, nil, nil, impl.Engine{})
	checkReplay(t, nil, eventsOf("put p(a); take p(a); put p(a)"), engineOf(nil, "p(a)@2", 2, "-", false, "put p(a); take p(a); put p(a)"))
	empty := []string{}
	checkReplay(t, rules, []impl.Event{event(1, "", impl.Fact{Rel: "z", Args: empty}), event(1, "", fact("p", "a")), event(3, "r", impl.Fact{Args: empty}), eventOf("add q(a) by r"), eventOf("drop p(a) by r")},
		engineOf(rules, "q(a)@3 z()@1", 3, "r@2", false, "put z(); put p(a); fire r; add q(a) by r; drop p(a) by r"))
}

func TestLogsThatGiveNoEngine(t *testing.T) {
	rules, log := rulesOf(rulesToReplay...), eventsOf(logToReplay)
	for _, text := range []string{
		// a kind of event with which nothing begins
		"add q(a) by r", "drop p(a) by r", "stop by s", "add p(a) by r; fire r", "put p(a); add q(a) by r; drop p(a) by r", "put p(a); stop by r", "put p(a); drop p(a) by r",
		// a call that fails
		"fire r", "take p(a)", "put p(a); put p(a)", "put p(a); take p(b)", "put p(a); take p(a); take p(a)", "put p(a); take p(a); fire r; add q(a) by r; drop p(a) by r", "put z(); fire r",
		// a step where there is none any more
		"put p(a); fire r; add q(a) by r; drop p(a) by r; fire r", "put q(a); fire s; stop by s; fire s; stop by s", "put q(a); fire s; stop by s; put p(a); fire r; add q(a) by r; drop p(a) by r",
		// what goes on where the step has ended
		"put p(a); fire r; add q(a) by r; drop p(a) by r; drop p(a) by r", "put p(a); fire r; add q(a) by r; drop p(a) by r; add q(a) by r", "put p(a); fire r; add q(a) by r; drop p(a) by r; stop by r", "put q(a); fire s; stop by s; stop by s",
		"put q(a); put p(a); fire r; add q(a) by r; drop p(a) by r",
		// something else is written
		"put p(a); fire r; add q(b) by r; drop p(a) by r", "put p(a); fire r; add q(a) by r; drop q(a) by r", "put p(a); fire r; add q(a) by s; drop p(a) by r", "put p(a); fire r; add q(a) by r; drop p(a) by s",
		"put p(a); fire r; drop p(a) by r; add q(a) by r", "put p(a); fire r; add q(a) by r; add p(a) by r", "put p(a); fire r; put q(a); take p(a)", "put p(a); fire r; add q(a) by r; take p(a)", "put p(a); fire r; put q(a); drop p(a) by r", "put p(a); fire r; add q(a) by r; put z()", "put p(a); fire r; put z(); add q(a) by r; drop p(a) by r", "put p(a); fire r; add q() by r; drop p(a) by r", "put p(a); fire r; put p(b); take p(b)", "put q(a); fire s; put z()", "put q(a); put q(b); fire s; stop by r",
		// another rule fires
		"put p(a); fire s; add q(a) by r; drop p(a) by r", "put p(a); fire t; add q(a) by r; drop p(a) by r", "put q(a); put p(b); fire s; stop by s", "put q(a); put p(a); fire s; drop p(a) by r", "put p(a); fire s; add q(a) by s; drop p(a) by s",
		// more is written than the log has left
		"put p(a); fire r", "put p(a); fire r; add q(a) by r", "put q(a); fire s", "put q(a); put p(b); fire r; add q(b) by r",
	} {
		checkNoReplay(t, rules, eventsOf(text))
	}
	// events that differ in what their kind must not have
	for i, x := range log {
		for _, y := range []impl.Event{event(x.Kind, x.Rule+"r", x.Fact), event(x.Kind, "s"+x.Rule, x.Fact), event(x.Kind, x.Rule, fact(x.Fact.Rel+"x", x.Fact.Args...)), event(x.Kind, x.Rule, fact(x.Fact.Rel, append(x.Fact.Args, "a")...)), event(x.Kind, x.Rule, fact("")), event(0, x.Rule, x.Fact), event(7, x.Rule, x.Fact), event(x.Kind+1<<32, x.Rule, x.Fact), event(-x.Kind, x.Rule, x.Fact), {}} {
			other := slices.Clone(log)
			other[i] = y
			if want, ok := replayedAgain(rules, other); ok {
				checkReplay(t, rules, other, want)
			} else {
				checkNoReplay(t, rules, other)
			}
		}
	}
	for _, x := range append(noEvents(), event(0, "", fact("p", "a")), event(8, "", impl.Fact{})) {
		checkNoReplay(t, rules, []impl.Event{x})
		checkNoReplay(t, rules, append(slices.Clone(log), x))
		checkNoReplay(t, nil, []impl.Event{x})
	}
	for _, wrong := range noRules() {
		for _, l := range [][]impl.Event{nil, {}, log[:1], log} {
			checkNoReplay(t, wrong, l)
		}
	}
}

func TestReplayOfLongLogs(t *testing.T) {
	log := slices.Repeat(eventsOf("put p(a); take p(a)"), 201)
	checkNoReplay(t, nil, log) // more than MaxTime puts
	log = log[:400]
	checkReplay(t, nil, log[:399], impl.Engine{Memory: stampsOf("p(a)@200"), Clock: 200, Log: log[:399]})
	checkReplay(t, nil, log, impl.Engine{Clock: 200, Log: log})
	checkNoReplay(t, nil, append(slices.Clone(log), log[0]))
	// the limit of the log, with rules that take
	rules := rulesOf("r 1: p(?x) -> drop p(a) & drop p(b)")
	log = slices.Repeat(eventsOf("put p(b); put p(a); fire r; drop p(a) by r; drop p(b) by r"), 50)
	e, ok := impl.ReplayLog(rules, log[:200])
	if !ok || len(e.Fired) != 40 || e.Clock != 80 || len(e.Memory) != 0 {
		t.Errorf("40 steps: %+v, %v", e, ok)
	}
	checkReplay(t, rules, log[:202], impl.Engine{Rules: rules, Memory: stampsOf("p(a)@82 p(b)@81"), Clock: 82, Fired: e.Fired, Log: log[:202]})
	checkNoReplay(t, rules, log[:205])
}

// keeper tells a second time what an engine does. Its facts have their texts as keys.
type keeper struct {
	rules  []impl.Rule
	facts  map[string]impl.Stamp
	clock  int
	fired  []impl.Firing
	halted bool
	log    []impl.Event
}

func keyOf(f impl.Fact) string {
	return f.Rel + "(" + strings.Join(f.Args, ",") + ")"
}

func (k *keeper) memory() []impl.Stamp {
	l := []impl.Stamp{}
	for _, s := range k.facts {
		l = append(l, s)
	}
	slices.SortFunc(l, func(a impl.Stamp, b impl.Stamp) int { return impl.CompareFacts(a.Fact, b.Fact) })
	return l
}

func (k *keeper) engine() impl.Engine {
	return impl.Engine{Rules: k.rules, Memory: k.memory(), Clock: k.clock, Fired: k.fired, Halted: k.halted, Log: k.log}
}

// change puts or takes a fact and writes this; false if nothing changes.
func (k *keeper) change(f impl.Fact, kind int, rule string) bool {
	_, there := k.facts[keyOf(f)]
	puts := kind == impl.EventPut || kind == impl.EventAdd
	if there == puts || puts && len(k.facts) == 24 {
		return false
	}
	if puts {
		k.clock++
		k.facts[keyOf(f)] = impl.Stamp{Fact: f, Time: k.clock}
	} else {
		delete(k.facts, keyOf(f))
	}
	k.log = append(k.log, event(kind, rule, f))
	return true
}

func (k *keeper) put(f impl.Fact) bool {
	return impl.IsFact(f) && k.clock < 200 && len(k.log) < 500 && k.change(f, impl.EventPut, "")
}

func (k *keeper) take(f impl.Fact) bool {
	return len(k.log) < 500 && k.change(f, impl.EventTake, "")
}

func (k *keeper) step() bool {
	choices := choicesAgain(k.rules, k.memory(), k.fired)
	if k.halted || len(choices) == 0 || k.clock > 198 || len(k.fired) >= 40 || len(k.log) >= 498 {
		return false
	}
	x := choices[0]
	rule := x.Match.Rule
	k.fired, k.log = append(k.fired, firingOf(x)), append(k.log, event(impl.EventFire, rule, impl.Fact{}))
	values := mapOf(x.Match.Binding)
	for _, a := range k.rules[x.Order].Then {
		f := fact(a.Pattern.Rel, replaced(a.Pattern.Args, values)...)
		switch a.Kind {
		case impl.ActAdd:
			k.change(f, impl.EventAdd, rule)
		case impl.ActDrop:
			k.change(f, impl.EventDrop, rule)
		case impl.ActStop:
			k.halted, k.log = true, append(k.log, event(impl.EventStop, rule, impl.Fact{}))
		}
	}
	return true
}

// replayedAgain is ReplayLog a second time, for valid rules.
func replayedAgain(rules []impl.Rule, log []impl.Event) (impl.Engine, bool) {
	k := &keeper{rules: rules, facts: map[string]impl.Stamp{}}
	for len(log) > 0 {
		before, ok := len(k.log), false
		switch log[0].Kind {
		case impl.EventPut:
			ok = k.put(log[0].Fact)
		case impl.EventTake:
			ok = k.take(log[0].Fact)
		case impl.EventFire:
			ok = k.step()
		}
		written := k.log[before:]
		if !ok || len(written) > len(log) || !slices.EqualFunc(written, log[:len(written)], equalEvents) {
			return impl.Engine{}, false
		}
		log = log[len(written):]
	}
	return k.engine(), true
}

// someActions returns actions for a rule. That the rule is valid with them follows from its bound variables.
func someActions(random *rand.Rand, r impl.Rule) []impl.Action {
	terms := append(impl.BoundVars(r, len(r.If)), impl.BoundVars(r, len(r.If))...)
	terms = append(terms, "1", "a", "b")
	l := []impl.Action{}
	for range 1 + random.Intn(2) {
		args := []string{}
		for range random.Intn(3) {
			args = append(args, terms[random.Intn(len(terms))])
		}
		p := pattern([]string{"p", "p", "p", "q"}[random.Intn(4)], args...)
		switch n := random.Intn(16); {
		case n == 0:
			l = append(l, stops())
		case n < 7:
			l = append(l, impl.Action{Kind: impl.ActDrop, Pattern: p})
		default:
			l = append(l, impl.Action{Kind: impl.ActAdd, Pattern: p})
		}
	}
	return l
}

func rulesThatAct(random *rand.Rand) []impl.Rule {
	rules := someRules(random)
	for i, r := range rules {
		rules[i].Priority, rules[i].Then = random.Intn(3), someActions(random, r)
	}
	return rules
}

func checkKept(t *testing.T, line string, before impl.Engine, got impl.Engine, ok bool, k *keeper, want bool) {
	t.Helper()
	if ok != want || !equalEngines(got, k.engine()) {
		t.Fatalf("%s: %+v\ngives %+v, %v\nnot %+v, %v", line, before, got, ok, k.engine(), want)
	}
	if !impl.IsEngine(got) {
		t.Fatalf("%s: not valid: %+v", line, got)
	}
	for i, f := range got.Fired {
		if slices.ContainsFunc(got.Fired[:i], func(g impl.Firing) bool { return equalFirings(f, g) }) {
			t.Fatalf("%s: fired twice: %+v", line, got)
		}
	}
}

// someHistory makes changes and steps, and checks each of them.
func someHistory(t *testing.T, random *rand.Rand, rules []impl.Rule) impl.Engine {
	pool := someFacts(random, 13)
	k := &keeper{rules: rules, facts: map[string]impl.Stamp{}}
	e, _ := impl.NewEngine(rules)
	for range 8 + random.Intn(25) {
		before := e
		switch n := random.Intn(10); {
		case n < 4 && len(pool) > 0:
			f := pool[random.Intn(len(pool))]
			got, ok := impl.PutFact(e, f)
			checkKept(t, "put "+keyOf(f), before, got, ok, k, k.put(f))
			e = got
		case n < 5:
			f := fact("q")
			if len(e.Memory) > 0 {
				f = e.Memory[random.Intn(len(e.Memory))].Fact
			}
			got, ok := impl.TakeFact(e, f)
			checkKept(t, "take "+keyOf(f), before, got, ok, k, k.take(f))
			e = got
		case n < 9:
			got, ok := impl.StepEngine(e)
			checkKept(t, "step", before, got, ok, k, k.step())
			e = got
		default:
			most, want := random.Intn(6), 0
			got, steps := impl.RunEngine(e, most)
			for want < most && k.step() {
				want++
			}
			checkKept(t, "run", before, got, steps == want, k, true)
			e = got
		}
		if got := impl.IsQuiet(e); got != (len(choicesAgain(rules, k.memory(), k.fired)) == 0) {
			t.Fatalf("IsQuiet(%+v) = %v", e, got)
		}
	}
	return e
}

// checkReplays replays each part of the log, and logs that are like it.
func checkReplays(t *testing.T, random *rand.Rand, rules []impl.Rule, log []impl.Event) (int, int) {
	logs := [][]impl.Event{}
	for n := range len(log) + 1 {
		logs = append(logs, log[:n])
	}
	for range 6 {
		if len(log) < 2 {
			break
		}
		i, j := random.Intn(len(log)), random.Intn(len(log))
		swapped, changed := slices.Clone(log), slices.Clone(log)
		swapped[i], swapped[j] = swapped[j], swapped[i]
		switch random.Intn(4) {
		case 0:
			changed[i].Kind = 1 + random.Intn(6)
		case 1:
			changed[i].Rule = changed[j].Rule
		case 2:
			changed[i].Fact = changed[j].Fact
		case 3:
			changed[i] = changed[j]
		}
		logs = append(logs, swapped, changed, slices.Delete(slices.Clone(log), i, i+1), slices.Insert(slices.Clone(log), i, log[j]))
	}
	good := 0
	for _, l := range logs {
		want, ok := replayedAgain(rules, l)
		if ok {
			good++
			checkReplay(t, rules, l, want)
		} else {
			checkNoReplay(t, rules, l)
		}
	}
	return good, len(logs) - good
}

func TestStepsKeepAnEngineAndLogsGiveItAgain(t *testing.T) {
	random := rand.New(rand.NewSource(100))
	fired, halted, back, good, bad := 0, 0, 0, 0, 0
	for range 800 {
		rules := rulesThatAct(random)
		if !impl.AreRules(rules) {
			t.Fatalf("not valid: %+v", rules)
		}
		e := someHistory(t, random, rules)
		again, ok := impl.ReplayLog(rules, e.Log)
		if !ok || !equalEngines(again, e) || !impl.SameEngine(again, e) {
			t.Fatalf("ReplayLog(%v, %+v) = %+v, %v", rules, e.Log, again, ok)
		}
		g, b := checkReplays(t, random, rules, e.Log)
		fired, good, bad = fired+len(e.Fired), good+g, bad+b
		if e.Halted {
			halted++
		}
		// matches whose facts came back fire again
		for _, f := range e.Fired[:max(len(e.Fired)-1, 0)] {
			if f.Rule == e.Fired[len(e.Fired)-1].Rule {
				back++
			}
		}
	}
	if fired < 1000 || halted < 40 || back < 300 || good < 3000 || bad < 3000 {
		t.Errorf("only %d firings, %d stops, %d firings of one rule, %d logs that give an engine and %d that give none", fired, halted, back, good, bad)
	}
}

func TestSameEngine(t *testing.T) {
	l := namedEngines{baseEngine(), map[string]impl.Engine{}}
	change := func(name string, change func(e *impl.Engine)) { l.add(name, change) }
	change("as it is", func(e *impl.Engine) {})
	change("zero", func(e *impl.Engine) { *e = impl.Engine{} })
	change("one rule less", func(e *impl.Engine) { e.Rules = e.Rules[:2] })
	change("one rule more", func(e *impl.Engine) { e.Rules = append(e.Rules, oddRule()) })
	change("rules in another order", func(e *impl.Engine) { e.Rules[0], e.Rules[1] = e.Rules[1], e.Rules[0] })
	for i := range l.from.Rules {
		at := strconv.Itoa(i)
		change("Name "+at, func(e *impl.Engine) { e.Rules[i].Name = "x" })
		change("Priority "+at, func(e *impl.Engine) { e.Rules[i].Priority = 9 })
		change("If "+at, func(e *impl.Engine) { e.Rules[i].If = append(e.Rules[i].If, has("z()")) })
		change("If, Args "+at, func(e *impl.Engine) { e.Rules[i].If[0].Pattern.Args[0] = "a" })
		change("Then "+at, func(e *impl.Engine) { e.Rules[i].Then = nil })
		change("Then, Rel "+at, func(e *impl.Engine) { e.Rules[i].Then[0].Pattern.Rel = "x" })
	}
	change("no facts", func(e *impl.Engine) { e.Memory = nil })
	change("one fact less", func(e *impl.Engine) { e.Memory = e.Memory[:2] })
	change("another fact", func(e *impl.Engine) { e.Memory[2].Fact.Rel = "z" })
	change("another Arg", func(e *impl.Engine) { e.Memory[0].Fact.Args[0] = "" })
	change("no Args", func(e *impl.Engine) { e.Memory[0].Fact.Args = nil })
	change("another Time", func(e *impl.Engine) { e.Memory[1].Time = 11 })
	change("facts in another order", func(e *impl.Engine) { e.Memory[0], e.Memory[1] = e.Memory[1], e.Memory[0] })
	change("another Clock", func(e *impl.Engine) { e.Clock = 16 })
	change("a Clock of 0", func(e *impl.Engine) { e.Clock = 0 })
	change("a negative Clock", func(e *impl.Engine) { e.Clock = -15 })
	change("a great Clock", func(e *impl.Engine) { e.Clock += 1 << 32 })
	change("no firings", func(e *impl.Engine) { e.Fired = nil })
	change("one firing less", func(e *impl.Engine) { e.Fired = e.Fired[:1] })
	change("one firing more", func(e *impl.Engine) { e.Fired = append(e.Fired, impl.Firing{}) })
	change("another Rule of a firing", func(e *impl.Engine) { e.Fired[0].Rule = "t" })
	change("another Time of a firing", func(e *impl.Engine) { e.Fired[1].Times[1] = 4 })
	change("Times in another order", func(e *impl.Engine) { e.Fired[1].Times = []int{3, 7} })
	change("a Time less", func(e *impl.Engine) { e.Fired[1].Times = []int{7} })
	change("firings in another order", func(e *impl.Engine) { e.Fired[0], e.Fired[1] = e.Fired[1], e.Fired[0] })
	change("Halted", func(e *impl.Engine) { e.Halted = true })
	change("no events", func(e *impl.Engine) { e.Log = nil })
	change("one event less", func(e *impl.Engine) { e.Log = e.Log[:5] })
	change("one event more", func(e *impl.Engine) { e.Log = append(e.Log, impl.Event{}) })
	for i := range l.from.Log {
		at := strconv.Itoa(i)
		change("Kind "+at, func(e *impl.Engine) { e.Log[i].Kind = 9 })
		change("Rule "+at, func(e *impl.Engine) { e.Log[i].Rule = "x" })
		change("Fact "+at, func(e *impl.Engine) { e.Log[i].Fact.Rel = "x" })
		change("Args "+at, func(e *impl.Engine) { e.Log[i].Fact.Args = []string{""} })
	}
	change("events in another order", func(e *impl.Engine) { e.Log[0], e.Log[1] = e.Log[1], e.Log[0] })
	for a, x := range l.engines {
		for b, y := range l.engines {
			if got := impl.SameEngine(x, y); got != (a == b) {
				t.Errorf("SameEngine of %q and %q = %v", a, b, got)
			}
		}
		if !impl.SameEngine(x, copyEngine(x)) {
			t.Errorf("%s: SameEngine of a copy = false", a)
		}
	}
}

func TestNilAndEmptyListsOfEngines(t *testing.T) {
	empty := impl.Engine{Rules: []impl.Rule{}, Memory: []impl.Stamp{}, Fired: []impl.Firing{}, Log: []impl.Event{}}
	if !impl.SameEngine(empty, impl.Engine{}) || !impl.SameEngine(impl.Engine{}, empty) || !impl.SameEngine(empty, empty) {
		t.Error("nil and empty lists differ")
	}
	with := func(args []string, conds []impl.Cond, actions []impl.Action, times []int) impl.Engine {
		return impl.Engine{
			Rules:  []impl.Rule{{Name: "r", If: conds, Then: actions}, {If: []impl.Cond{{Pattern: impl.Pattern{Args: args}}}, Then: []impl.Action{{Pattern: impl.Pattern{Args: args}}}}},
			Memory: []impl.Stamp{{Fact: impl.Fact{Rel: "z", Args: args}}}, Fired: []impl.Firing{{Times: times}}, Log: []impl.Event{{Fact: impl.Fact{Args: args}}},
		}
	}
	a, b := with(nil, nil, nil, nil), with([]string{}, []impl.Cond{}, []impl.Action{}, []int{})
	if !impl.SameEngine(a, b) || !impl.SameEngine(b, a) {
		t.Error("nil and empty lists within differ")
	}
	// and in engines that go on
	rules, z := rulesOf("r 1: z() -> add y() & stop"), impl.Fact{Rel: "z", Args: []string{}}
	for i := range rules[0].Then {
		rules[0].Then[i].Pattern.Args = []string{}
	}
	empty.Rules = rules
	put, _ := impl.PutFact(empty, z)
	got, ok := impl.StepEngine(put)
	checkEngine(t, "step", got, engineOf(rules, "y()@2 z()@1", 2, "r@1", true, "put z(); fire r; add y() by r; stop by r"))
	if _, no := impl.PutFact(got, fact("z")); !ok || no {
		t.Errorf("put %v, and then %v", ok, no)
	}
}

// listsInEngines are all lists of some engines, by what they hold.
type listsInEngines struct {
	texts   [][]string
	rules   [][]impl.Rule
	conds   [][]impl.Cond
	actions [][]impl.Action
	stamps  [][]impl.Stamp
	fired   [][]impl.Firing
	numbers [][]int
	events  [][]impl.Event
}

func (l *listsInEngines) add(e impl.Engine) {
	l.rules, l.stamps, l.fired, l.events = append(l.rules, e.Rules), append(l.stamps, e.Memory), append(l.fired, e.Fired), append(l.events, e.Log)
	for _, r := range e.Rules {
		l.conds, l.actions = append(l.conds, r.If), append(l.actions, r.Then)
		for _, x := range r.If {
			l.texts = append(l.texts, x.Pattern.Args)
		}
		for _, a := range r.Then {
			l.texts = append(l.texts, a.Pattern.Args)
		}
	}
	for _, s := range e.Memory {
		l.texts = append(l.texts, s.Fact.Args)
	}
	for _, f := range e.Fired {
		l.numbers = append(l.numbers, f.Times)
	}
	for _, x := range e.Log {
		l.texts = append(l.texts, x.Fact.Args)
	}
}

func (l *listsInEngines) shared() bool {
	return shared(l.texts) || shared(l.rules) || shared(l.conds) || shared(l.actions) || shared(l.stamps) || shared(l.fired) || shared(l.numbers) || shared(l.events)
}

func TestEnginesShareNoMemory(t *testing.T) {
	check := func(name string, f impl.Fact, engines ...impl.Engine) {
		t.Helper()
		l := listsInEngines{texts: [][]string{f.Args}}
		for _, e := range engines {
			l.add(e)
		}
		if l.shared() {
			t.Errorf("%s: lists share memory: %+v", name, engines)
		}
	}
	for _, c := range cycles {
		e, _ := impl.NewEngine(rulesOf(c.rules...))
		for _, line := range strings.Split(c.lines, "; ") {
			next, _ := performed(e, strings.TrimPrefix(line, "no "))
			f := roomyFacts("x(a,b)")[0]
			put, _ := impl.PutFact(next, f)
			take, _ := impl.TakeFact(put, f)
			noPut, _ := impl.PutFact(put, f)
			noTake, _ := impl.TakeFact(take, f)
			step, _ := impl.StepEngine(put)
			run, _ := impl.RunEngine(put, 5)
			noRun, _ := impl.RunEngine(put, 0)
			replayed, _ := impl.ReplayLog(run.Rules, run.Log)
			fresh, _ := impl.NewEngine(run.Rules)
			check(c.name, f, e, next, put, take, noPut, noTake, step, run, noRun, replayed, fresh)
			e = next
		}
	}
	// what fails, and engines whose lists are the same
	args := roomyTexts("a")
	e := impl.Engine{
		Rules: []impl.Rule{oddRule(), {Name: "r", If: []impl.Cond{{Pattern: impl.Pattern{Args: args}}}, Then: []impl.Action{{Pattern: impl.Pattern{Args: args}}}}},
		Clock: -1, Memory: []impl.Stamp{{Fact: fact("p", args...)}, {Fact: fact("q", args...)}}, Fired: []impl.Firing{{Times: roomyTimes(3, 4)}}, Log: []impl.Event{{Fact: fact("p", args...)}, {Fact: fact("z", args...)}},
	}
	put, _ := impl.PutFact(e, fact("p", args...))
	take, _ := impl.TakeFact(e, fact("p", args...))
	step, _ := impl.StepEngine(e)
	run, _ := impl.RunEngine(e, 2)
	noRun, _ := impl.RunEngine(e, -2)
	check("an engine that is not valid", fact("p", args...), put, take, step, run, noRun)
	l := listsInEngines{}
	l.add(put)
	for _, s := range [][]impl.Rule{e.Rules, put.Rules} {
		for _, r := range s {
			l.conds, l.actions = append(l.conds, slices.Clone(r.If)), append(l.actions, slices.Clone(r.Then))
		}
	}
	l.stamps, l.fired, l.events, l.numbers = append(l.stamps, e.Memory), append(l.fired, e.Fired), append(l.events, e.Log), append(l.numbers, e.Fired[0].Times)
	if l.shared() {
		t.Error("an engine that is not valid shares memory with the argument")
	}
}

func TestConflictsShareNoMemory(t *testing.T) {
	e := baseEngine()
	facts := roomyFacts("p(a)", "p(b)", "q(a)")
	for i := range e.Memory {
		e.Memory[i].Fact = facts[i]
	}
	e.Fired[1].Times = roomyTimes(7, 3)
	checkOwnChoices(t, "Conflicts", impl.Conflicts(e), facts, e.Fired[0].Times, e.Fired[1].Times)
}

func overwriteEngine(e impl.Engine) {
	l := listsInEngines{}
	l.add(e)
	for _, texts := range l.texts {
		overwrite(texts, "own")
	}
	for _, times := range l.numbers {
		overwrite(times, -7)
	}
	for _, conds := range l.conds {
		overwrite(conds, has("own()"))
	}
	for _, actions := range l.actions {
		overwrite(actions, adds("own()"))
	}
	overwrite(e.Rules, impl.Rule{Name: "own"})
	overwrite(e.Memory, impl.Stamp{Time: -7})
	overwrite(e.Fired, impl.Firing{Rule: "own"})
	overwrite(e.Log, impl.Event{Kind: -7})
}

// wholeEngine is a deep copy of an engine and its lists up to their capacities.
func wholeEngine(e impl.Engine) impl.Engine {
	e.Rules, e.Memory, e.Fired, e.Log = wholeList(e.Rules), wholeList(e.Memory), wholeList(e.Fired), wholeList(e.Log)
	for i, r := range e.Rules {
		e.Rules[i] = wholeRule(r)
	}
	for i := range e.Memory {
		e.Memory[i].Fact.Args = wholeList(e.Memory[i].Fact.Args)
	}
	for i := range e.Fired {
		e.Fired[i].Times = wholeList(e.Fired[i].Times)
	}
	for i := range e.Log {
		e.Log[i].Fact.Args = wholeList(e.Log[i].Fact.Args)
	}
	return e
}

// roomyEngine returns an engine whose lists have spare capacity, which holds other parts.
func roomyEngine() impl.Engine {
	e := baseEngine()
	for i, text := range rulesOfEngines {
		e.Rules[i] = roomyRule(text)
	}
	for i, f := range roomyFacts("p(a)", "p(b)", "q(a)") {
		e.Memory[i].Fact = f
	}
	for i := range e.Fired {
		e.Fired[i].Times = roomyTimes(e.Fired[i].Times...)
	}
	for i := range e.Log {
		e.Log[i].Fact.Args = roomyTexts(e.Log[i].Fact.Args...)
	}
	e.Rules, e.Fired = append(e.Rules, oddRule())[:len(e.Rules)], append(e.Fired, impl.Firing{Rule: "spare"})[:len(e.Fired)]
	e.Memory = append(e.Memory, impl.Stamp{Fact: fact("spare"), Time: 3}, impl.Stamp{Time: 9})[:len(e.Memory)]
	e.Log = append(e.Log, impl.Event{Kind: -7}, eventOf("fire spare"), eventOf("put spare(a)"), eventOf("put spare(b)"))[:len(e.Log)]
	return e
}

func TestEnginesStayAsTheyAre(t *testing.T) {
	e, wrong, halted := roomyEngine(), roomyEngine(), roomyEngine()
	wrong.Clock, halted.Halted = 1, true
	facts := roomyFacts("a(b,a)", "p(b)", "p(c)", "z()")
	start, _ := impl.NewEngine(e.Rules)
	put, _ := impl.PutFact(start, fact("p", "a"))
	run, _ := impl.RunEngine(put, 10)
	rules, log := roomyEngine().Rules, slices.Grow(run.Log, 3)
	calls := map[string]func(){
		"NewEngine": func() { got, _ := impl.NewEngine(rules); overwriteEngine(got) },
		"ReplayLog": func() { got, _ := impl.ReplayLog(rules, log); overwriteEngine(got) },
		"ReplayLog, no": func() {
			got, _ := impl.ReplayLog(rules, log[1:])
			overwriteEngine(got)
			got, _ = impl.ReplayLog(rules[:1:1], log[:len(log)-1])
			overwriteEngine(got)
		},
		"others": func() {
			impl.SameEngine(e, wrong)
			impl.SameEngine(e, e)
			for _, x := range append(wholeList(e.Log), log...) {
				impl.IsEvent(x)
				impl.FormatEvent(x)
			}
		},
	}
	for name, e := range map[string]impl.Engine{"valid": e, "not valid": wrong, "halted": halted} {
		calls[name+": PutFact, TakeFact"] = func() {
			for _, f := range facts {
				got, _ := impl.PutFact(e, f)
				overwriteEngine(got)
				got, _ = impl.TakeFact(e, f)
				overwriteEngine(got)
			}
		}
		calls[name+": StepEngine"] = func() { got, _ := impl.StepEngine(e); overwriteEngine(got) }
		calls[name+": RunEngine"] = func() {
			for _, most := range []int{-1, 0, 1, 9} {
				got, _ := impl.RunEngine(e, most)
				overwriteEngine(got)
			}
		}
		calls[name+": Conflicts"] = func() { overwriteChoices(impl.Conflicts(e)) }
		calls[name+": IsEngine, IsQuiet"] = func() { impl.IsEngine(e); impl.IsQuiet(e) }
	}
	checkArguments(t, calls, func() []any {
		l := []any{wholeEngine(e), wholeEngine(wrong), wholeEngine(halted), wholeFacts(facts), wholeEngine(impl.Engine{Rules: rules, Log: log})}
		return l
	})
	if got, ok := impl.ReplayLog(rules, log); !ok || len(got.Fired) == 0 {
		t.Errorf("the log gives %+v, %v", got, ok)
	}
}
