package tests

import (
	"math"
	"math/rand"
	"slices"
	"strconv"
	"strings"
	"testing"

	"loop.example/g03015/impl"
)

// numbersOf reads numbers, separated by blanks (`-` for none).
func numbersOf(text string) []int {
	l := []int{}
	if text == "-" {
		return l
	}
	for _, part := range strings.Fields(text) {
		n, err := strconv.Atoi(part)
		if err != nil {
			panic(text)
		}
		l = append(l, n)
	}
	return l
}

// listsOfNumbers reads lists of numbers, separated by semicolons (the empty text is no list).
func listsOfNumbers(text string) [][]int {
	l := [][]int{}
	if text == "" {
		return l
	}
	for _, part := range strings.Split(text, "; ") {
		l = append(l, numbersOf(part))
	}
	return l
}

// reasonOf reads a reason that the test has written, in the form of FormatReason.
func reasonOf(text string) impl.Reason {
	node, rest, _ := strings.Cut(text, " <-")
	in, out, _ := strings.Cut(rest, " not")
	return impl.Reason{For: numbersOf(node)[0], In: numbersOf(in), Out: numbersOf(out)}
}

// beliefsOf reads reasons, separated by semicolons (`-` for none).
func beliefsOf(nodes int, text string) impl.Beliefs {
	b := impl.Beliefs{Nodes: nodes}
	if text == "-" {
		return b
	}
	for _, part := range strings.Split(text, "; ") {
		b.Reasons = append(b.Reasons, reasonOf(part))
	}
	return b
}

// textOfLabels writes a `+` for each node that is in, and a `.` for each other one.
func textOfLabels(l []bool) string {
	text := ""
	for _, in := range l {
		if in {
			text += "+"
		} else {
			text += "."
		}
	}
	return text
}

func equalReasons(a impl.Reason, b impl.Reason) bool {
	return a.For == b.For && slices.Equal(a.In, b.In) && slices.Equal(a.Out, b.Out)
}

func equalBeliefs(a impl.Beliefs, b impl.Beliefs) bool {
	return a.Nodes == b.Nodes && slices.EqualFunc(a.Reasons, b.Reasons, equalReasons)
}

func copyReason(r impl.Reason) impl.Reason {
	return impl.Reason{For: r.For, In: slices.Clone(r.In), Out: slices.Clone(r.Out)}
}

func copyBeliefs(b impl.Beliefs) impl.Beliefs {
	b.Reasons = slices.Clone(b.Reasons)
	for i, r := range b.Reasons {
		b.Reasons[i] = copyReason(r)
	}
	return b
}

func TestLimitsOfBeliefs(t *testing.T) {
	if impl.MaxNodes != 24 || impl.MaxReasons != 60 {
		t.Error(impl.MaxNodes, impl.MaxReasons)
	}
}

// manyReasons returns count reasons that are valid with 24 nodes, and stratified.
func manyReasons(count int) []impl.Reason {
	l := []impl.Reason{}
	for i := range count {
		l = append(l, impl.Reason{For: i % 24, In: upTo(0, i%24-1)})
	}
	return l
}

// namedBeliefs builds beliefs that are like one but for one reason.
type namedBeliefs struct {
	from    impl.Beliefs
	beliefs map[string]impl.Beliefs
}

func (l namedBeliefs) add(name string, b impl.Beliefs) {
	l.beliefs[name] = b
}

// with adds the reason in each place.
func (l namedBeliefs) with(r impl.Reason) {
	name := strconv.Itoa(r.For) + " in " + textOf(r.In) + " out " + textOf(r.Out)
	l.add(name, impl.Beliefs{Nodes: l.from.Nodes, Reasons: []impl.Reason{r}})
	for i := range len(l.from.Reasons) + 1 {
		b := copyBeliefs(l.from)
		b.Reasons = slices.Insert(b.Reasons, i, copyReason(r))
		l.add(name+" at "+strconv.Itoa(i), b)
	}
}

func textOf(l []int) string {
	texts := []string{}
	for _, n := range l {
		texts = append(texts, strconv.Itoa(n))
	}
	return strings.Join(texts, " ")
}

func baseBeliefs() impl.Beliefs {
	return beliefsOf(5, "0 <-; 1 <- 0; 2 <- 0 1 not 3 4")
}

// stratifiedBeliefs returns beliefs that are valid and stratified.
func stratifiedBeliefs() map[string]impl.Beliefs {
	l := namedBeliefs{baseBeliefs(), map[string]impl.Beliefs{}}
	l.add("zero", impl.Beliefs{})
	l.add("empty", impl.Beliefs{Reasons: []impl.Reason{}})
	l.add("base", baseBeliefs())
	for _, nodes := range []int{0, 1, 2, 23, 24} {
		l.add(strconv.Itoa(nodes)+" nodes", impl.Beliefs{Nodes: nodes})
	}
	for _, count := range []int{1, 24, 59, 60} {
		l.add(strconv.Itoa(count)+" reasons", impl.Beliefs{Nodes: 24, Reasons: manyReasons(count)})
	}
	l.add("one reason 60 times", impl.Beliefs{Nodes: 1, Reasons: slices.Repeat([]impl.Reason{{}}, 60)})
	l.add("the last node", beliefsOf(24, "23 <- 22 not 21; 22 <- 21; 21 <- 20"))
	l.add("all nodes in In", impl.Beliefs{Nodes: 24, Reasons: []impl.Reason{{For: 23, In: upTo(0, 23)}}})
	l.add("all other nodes in Out", impl.Beliefs{Nodes: 24, Reasons: []impl.Reason{{For: 23, Out: upTo(0, 22)}}})
	for _, text := range []string{"0 <-", "4 <-", "4 <- 4", "4 <- 0 1 3 4", "3 <- 4", "4 <- 3 not 0", "2 <- 0 not 0", "2 <- 0 1 3 4 not 0 1 3 4", "0 <- 2", "1 <- 1 not 3", "3 <- not 4"} {
		l.with(reasonOf(text))
	}
	return l.beliefs
}

// validBeliefs returns beliefs that are valid, some of them not stratified.
func validBeliefs() map[string]impl.Beliefs {
	l := namedBeliefs{baseBeliefs(), stratifiedBeliefs()}
	for name, b := range unstratifiedBeliefs() {
		l.add(name, b)
	}
	return l.beliefs
}

// unstratifiedBeliefs returns beliefs that are valid, and not stratified.
func unstratifiedBeliefs() map[string]impl.Beliefs {
	l := namedBeliefs{baseBeliefs(), map[string]impl.Beliefs{}}
	for _, text := range []string{"0 <- not 0", "4 <- not 4", "0 <- 1 not 0", "0 <- 0 not 0", "4 <- not 0 1 2 3 4"} {
		l.with(reasonOf(text))
	}
	for _, text := range []string{
		"0 <- not 1; 1 <- not 0", "0 <- not 1; 1 <- 0", "1 <- 0; 0 <- not 1", "0 <- 1; 1 <- not 0", "0 <- not 1; 1 <- not 2; 2 <- not 0", "0 <- 1; 1 <- 2; 2 <- not 0", "2 <- not 0; 1 <- 2; 0 <- 1",
		"0 <- 1; 1 <- 2; 2 <- 3; 3 <- 4; 4 <- not 0", "4 <- 3; 3 <- not 2; 2 <- 1; 1 <- 0; 0 <- 4", "0 <-; 0 <- not 0", "0 <- 1; 1 <- 0 not 1", "0 <- 1; 1 <- 0; 2 <- not 0; 1 <- 2",
		"3 <- not 1; 1 <- 4; 4 <- 2; 2 <- 3", "0 <- 2; 0 <- 3; 3 <- not 4; 4 <- 1; 1 <- 0", "0 <- not 1; 0 <- not 2; 2 <- 0", "0 <- not 1 2; 2 <- 0", "0 <- 3 4 not 1 2; 1 <- 0", "2 <- 0 1 not 3 4; 4 <- 0 1 2 3 4", "3 <- 2; 2 <- not 3",
	} {
		l.add(text, beliefsOf(5, text))
	}
	b := impl.Beliefs{Nodes: 24}
	for x := range 24 {
		b.Reasons = append(b.Reasons, impl.Reason{For: x, In: []int{(x + 1) % 24}})
	}
	b.Reasons = append(b.Reasons, reasonOf("7 <- not 19"))
	l.add("a circle of all nodes", b)
	return l.beliefs
}

// wrongBeliefs returns beliefs of which one thing is not valid.
func wrongBeliefs() map[string]impl.Beliefs {
	l := namedBeliefs{baseBeliefs(), map[string]impl.Beliefs{}}
	for _, nodes := range []int{-1, -2, -24, 25, 26, 1 << 32, 1<<32 + 5, math.MaxInt, math.MinInt} {
		l.add(strconv.Itoa(nodes)+" nodes", impl.Beliefs{Nodes: nodes})
		l.add(strconv.Itoa(nodes)+" nodes, with reasons", impl.Beliefs{Nodes: nodes, Reasons: baseBeliefs().Reasons})
	}
	for _, nodes := range []int{0, 1, 4} {
		l.add("nodes up to "+strconv.Itoa(nodes)+" only", impl.Beliefs{Nodes: nodes, Reasons: baseBeliefs().Reasons})
	}
	for _, count := range []int{61, 62, 120, 5000} {
		l.add(strconv.Itoa(count)+" reasons", impl.Beliefs{Nodes: 24, Reasons: manyReasons(count)})
	}
	l.add("one reason 61 times", impl.Beliefs{Nodes: 1, Reasons: slices.Repeat([]impl.Reason{{}}, 61)})
	l.add("25 in In", impl.Beliefs{Nodes: 24, Reasons: []impl.Reason{{For: 23, In: upTo(0, 24)}}})
	l.add("24 in Out", impl.Beliefs{Nodes: 24, Reasons: []impl.Reason{{For: 23, Out: []int{24}}}})
	for _, x := range []int{-1, -5, 5, 6, 24, 1 << 32, 1<<32 + 4, math.MaxInt, math.MinInt} {
		l.with(impl.Reason{For: x})
		for _, list := range [][]int{{x}, {x, 3}, {3, x}, {0, x, 4}} {
			l.with(impl.Reason{For: 2, In: list})
			l.with(impl.Reason{For: 2, Out: list})
			l.with(impl.Reason{For: 2, In: list, Out: []int{3}})
			l.with(impl.Reason{For: 2, In: []int{3}, Out: list})
		}
	}
	for _, list := range [][]int{{1, 0}, {3, 3}, {0, 1, 1}, {3, 3, 4}, {0, 3, 1}, {4, 3, 1, 0}, {0, 1, 0}, {3, 4, 4}, make([]int, 1000)} {
		l.with(impl.Reason{For: 2, In: list})
		l.with(impl.Reason{For: 2, Out: list})
		l.with(impl.Reason{For: 2, In: list, Out: []int{3}})
		l.with(impl.Reason{For: 2, In: []int{3}, Out: list})
	}
	return l.beliefs
}

func TestValidAndStratifiedBeliefs(t *testing.T) {
	check := func(beliefs map[string]impl.Beliefs, valid bool, stratified bool) {
		for name, b := range beliefs {
			if got := impl.IsBeliefs(b); got != valid {
				t.Errorf("%s: IsBeliefs(%+v) = %v", name, b, got)
			}
			if got := impl.IsStratified(b); got != stratified {
				t.Errorf("%s: IsStratified(%+v) = %v", name, b, got)
			}
		}
	}
	check(stratifiedBeliefs(), true, true)
	check(unstratifiedBeliefs(), true, false)
	check(wrongBeliefs(), false, false)
	check(map[string]impl.Beliefs{
		"a circle over In":                    beliefsOf(3, "0 <- 1; 1 <- 2; 2 <- 0"),
		"a circle over In, and Out from it":   beliefsOf(4, "0 <- 1; 1 <- 0 not 3; 2 <- not 1"),
		"a node on itself":                    beliefsOf(2, "0 <- 0; 1 <- not 0"),
		"one node in In and in Out":           beliefsOf(2, "0 <-; 1 <- 0 not 0"),
		"Out twice from one node":             beliefsOf(3, "1 <- not 0; 2 <- not 0; 2 <- 1 not 0"),
		"a node in the Out of both of two":    beliefsOf(4, "1 <- 2; 2 <- 1; 1 <- not 0; 2 <- not 0; 3 <- not 1 2"),
		"a chain of Out":                      beliefsOf(4, "0 <- not 1; 1 <- not 2; 2 <- not 3"),
		"a circle that would be one backward": beliefsOf(3, "0 <- 1; 2 <- 1; 0 <- not 2"),
	}, true, true)
}

func checkDepends(t *testing.T, b impl.Beliefs, x int, y int, want bool) {
	t.Helper()
	if got := impl.DependsOn(b, x, y); got != want {
		t.Errorf("DependsOn(%+v, %d, %d) = %v", b, x, y, got)
	}
}

func TestDependsOn(t *testing.T) {
	for _, c := range []struct {
		text string
		on   []string // for each node, the nodes on which it depends
	}{
		{"-", []string{"-", "-", "-"}},
		{"0 <-; 1 <-; 2 <-", []string{"-", "-", "-"}},
		{"0 <- 1", []string{"1", "-", "-"}},
		{"0 <- not 1", []string{"1", "-", "-"}},
		{"1 <- 0; 2 <- 1", []string{"-", "0", "0 1"}},
		{"2 <- 1; 1 <- 0", []string{"-", "0", "0 1"}},
		{"2 <- not 1; 1 <- not 0", []string{"-", "0", "0 1"}},
		{"2 <- 1; 1 <- not 0", []string{"-", "0", "0 1"}},
		{"2 <- not 1; 1 <- 0", []string{"-", "0", "0 1"}},
		{"0 <- 1 not 2", []string{"1 2", "-", "-"}},
		{"0 <- 1; 0 <- 2", []string{"1 2", "-", "-"}},
		{"0 <- 0", []string{"0", "-", "-"}},
		{"1 <- not 1", []string{"-", "1", "-"}},
		{"0 <- 1; 1 <- 0", []string{"0 1", "0 1", "-"}},
		{"0 <- 1; 1 <- 0; 2 <- 1", []string{"0 1", "0 1", "0 1"}},
		{"0 <- 1; 1 <- not 0; 0 <- 2", []string{"0 1 2", "0 1 2", "-"}},
		{"2 <- 0; 0 <- 1; 1 <- 2", []string{"0 1 2", "0 1 2", "0 1 2"}},
		{"0 <- 3; 3 <- 1; 1 <- 4; 4 <- 2", []string{"1 2 3 4", "2 4", "-", "1 2 4", "2"}},
		{"4 <- 0; 0 <- 3; 3 <- 2; 2 <- 1", []string{"1 2 3", "-", "1", "1 2", "0 1 2 3"}},
		{"0 <- 1; 1 <- 2; 2 <- 3; 3 <- 4", []string{"1 2 3 4", "2 3 4", "3 4", "4", "-"}},
		{"4 <- 3; 3 <- 2; 2 <- 1; 1 <- 0", []string{"-", "0", "0 1", "0 1 2", "0 1 2 3"}},
	} {
		b := beliefsOf(len(c.on), c.text)
		for x, on := range c.on {
			for y := range c.on {
				checkDepends(t, b, x, y, slices.Contains(numbersOf(on), y))
			}
			for _, y := range []int{-1, -2, len(c.on), len(c.on) + 1, 24, 1 << 32, math.MaxInt, math.MinInt} {
				checkDepends(t, b, x, y, false)
				checkDepends(t, b, y, x, false)
				checkDepends(t, b, y, y, false)
			}
		}
	}
	for name, b := range wrongBeliefs() {
		for x := -1; x < 6; x++ {
			for y := -1; y < 6; y++ {
				if impl.DependsOn(b, x, y) {
					t.Errorf("%s: DependsOn(%+v, %d, %d) = true", name, b, x, y)
				}
			}
		}
	}
}

// In a case, supports and foundations are those of the nodes in order; the foundations are separated by semicolons.
var beliefCases = []struct {
	name        string
	reasons     string
	strata      string
	rounds      string
	supports    string
	foundations string
}{
	{"no nodes", "-", "-", "-", "-", ""},
	{"no reasons", "-", "0 0 0", "-1 -1 -1", "-1 -1 -1", "-; -; -"},
	{"premises", "0 <-; 2 <-", "0 0 0", "0 -1 0", "0 -1 1", "0; -; 1"},
	{"a chain", "0 <-; 1 <- 0; 2 <- 1", "0 0 0", "0 1 2", "0 1 2", "0; 0 1; 0 1 2"},
	{"a reason that holds only in a later round", "2 <- 1; 1 <- 0; 0 <-", "0 0 0", "0 1 2", "2 1 0", "2; 2 1; 2 1 0"},
	{"a chain that does not begin", "1 <- 0; 2 <- 1", "0 0 0", "-1 -1 -1", "-1 -1 -1", "-; -; -"},
	{"one node of In is out", "0 <-; 2 <- 0 1", "0 0 0", "0 -1 -1", "0 -1 -1", "0; -; -"},
	{"all nodes of In must have come in", "0 <-; 1 <- 0; 2 <- 0 1", "0 0 0", "0 1 2", "0 1 2", "0; 0 1; 0 1 2"},
	{"what comes in in one round does not count in it", "0 <-; 1 <-; 2 <- 0; 3 <- 1 2", "0 0 0 0", "0 0 1 2", "0 1 2 3", "0; 1; 0 2; 1 0 2 3"},
	{"an absence", "1 <- not 0", "0 1", "-1 0", "-1 0", "-; 0"},
	{"an absence that does not hold", "0 <-; 1 <- not 0", "0 1", "0 -1", "0 -1", "0; -"},
	{"one of two absences does not hold", "0 <-; 2 <- not 0 1", "0 0 1", "0 -1 -1", "0 -1 -1", "0; -; -"},
	{"two absences", "0 <-; 1 <- 2; 3 <- 0 not 1 2", "0 0 0 1", "0 -1 -1 1", "0 -1 -1 2", "0; -; -; 0 2"},
	{"an absence of what comes in in a later round", "0 <-; 1 <- 0; 2 <- 1; 3 <- not 2", "0 0 0 1", "0 1 2 -1", "0 1 2 -1", "0; 0 1; 0 1 2; -"},
	{"one node in In and in Out", "0 <-; 1 <- 0 not 0", "0 1", "0 -1", "0 -1", "0; -"},
	{"one node that is out in In and in Out", "1 <- 0 not 0", "0 1", "-1 -1", "-1 -1", "-; -"},
	{"rounds go on over strata", "0 <-; 1 <- 0; 2 <- not 3; 4 <- 2", "0 0 1 0 1", "0 1 2 -1 3", "0 1 2 -1 3", "0; 0 1; 2; -; 2 3"},
	{"a stratum without a round", "0 <-; 1 <- not 0; 2 <- not 1", "0 1 2", "0 -1 1", "0 -1 2", "0; -; 2"},
	{"a first stratum without a round", "1 <- not 0; 2 <- 1", "0 1 1", "-1 0 1", "-1 0 1", "-; 0; 0 1"},
	{"two strata without a round", "0 <-; 1 <- not 0; 2 <- 1; 2 <- not 1 3; 3 <- not 0; 4 <- not 2", "0 1 2 1 3", "0 -1 1 -1 -1", "0 -1 3 -1 -1", "0; -; 3; -; -"},
	{"a chain of Out", "1 <- not 0; 2 <- not 1; 3 <- not 2; 4 <- not 3", "0 1 2 3 4", "-1 0 -1 1 -1", "-1 0 -1 2 -1", "-; 0; -; 2; -"},
	{"a chain of Out, backward", "0 <- not 1; 1 <- not 2; 2 <- not 3; 3 <- not 4", "4 3 2 1 0", "-1 1 -1 0 -1", "-1 1 -1 3 -1", "-; 1; -; 3; -"},
	{"In lifts a stratum", "1 <- not 0; 2 <- 1; 3 <- 2; 4 <-", "0 1 1 1 0", "-1 1 2 3 0", "-1 0 1 2 3", "-; 0; 0 1; 0 1 2; 3"},
	{"a reason that does not hold lifts a stratum", "0 <-; 0 <- 1; 1 <- not 2; 3 <-", "1 1 0 0", "1 1 -1 0", "0 2 -1 3", "0; 2; -; 3"},
	{"nodes that lift each other", "0 <- 1; 1 <- 0; 0 <- not 2; 3 <- not 1", "1 1 0 2", "0 1 -1 -1", "2 1 -1 -1", "2; 2 1; -; -"},
	{"the strata of Out are added, those of In are not", "1 <- not 0; 2 <- 1 not 0; 3 <- 1 2 not 1; 4 <- 3 not 2", "0 1 1 2 2", "-1 0 1 -1 -1", "-1 0 1 -1 -1", "-; 0; 0 1; -; -"},
	{"nodes that support each other only", "0 <- 1; 1 <- 0", "0 0", "-1 -1", "-1 -1", "-; -"},
	{"a node that supports itself only", "0 <- 0; 1 <-", "0 0", "-1 0", "-1 1", "-; 1"},
	{"nodes that support each other, and something else", "0 <- 1; 1 <- 0; 0 <-", "0 0", "0 1", "2 1", "2; 2 1"},
	{"a node that supports itself, too", "0 <- 0; 0 <- 1; 1 <-", "0 0", "1 0", "1 2", "2 1; 2"},
	{"several reasons", "0 <-; 1 <- 0; 2 <- 1; 2 <- 0; 2 <- 0 1", "0 0 0", "0 1 1", "0 1 3", "0; 0 1; 0 3"},
	{"several reasons that would do", "1 <- 0; 1 <-; 1 <- not 2; 0 <-", "0 1 0", "0 1 -1", "3 0 -1", "3; 3 0; -"},
	{"several premises for one node", "1 <- 0; 1 <-; 1 <-; 0 <-", "0 0", "0 0", "3 1", "3; 1"},
	{"an earlier reason whose Out is in", "0 <-; 1 <- not 0; 1 <- 0", "0 1", "0 1", "0 2", "0; 0 2"},
	{"an earlier reason whose In is out", "0 <-; 1 <- 2; 1 <- 0", "0 0 0", "0 1 -1", "0 2 -1", "0; 0 2; -"},
	{"one reason is stood on twice", "0 <-; 1 <- 0; 2 <- 0; 3 <- 1 2", "0 0 0 0", "0 1 1 2", "0 1 2 3", "0; 0 1; 0 2; 0 1 2 3"},
	{"one reason is stood on twice, backward", "3 <- 1 2; 2 <- 0; 1 <- 0; 0 <-", "0 0 0 0", "0 1 1 2", "3 2 1 0", "3; 3 2; 3 1; 3 2 1 0"},
	{"one reason is stood on with what belongs to it", "0 <-; 1 <- 0; 2 <- 1; 3 <- 1 2; 4 <- 2 3", "0 0 0 0 0", "0 1 2 3 4", "0 1 2 3 4", "0; 0 1; 0 1 2; 0 1 2 3; 0 1 2 3 4"},
	{"a foundation has nothing of Out", "0 <- 1; 2 <-; 3 <- 2 not 0; 4 <- 3", "0 0 0 1 1", "-1 -1 0 1 2", "-1 -1 1 2 3", "-; -; 1; 1 2; 1 2 3"},
}

func TestBeliefsByHand(t *testing.T) {
	for _, c := range beliefCases {
		strata, rounds, supports := numbersOf(c.strata), numbersOf(c.rounds), numbersOf(c.supports)
		b := beliefsOf(len(strata), c.reasons)
		if got := impl.StrataOf(b); !slices.Equal(got, strata) {
			t.Errorf("%s: StrataOf = %v", c.name, got)
		}
		if got := impl.RoundsOf(b); !slices.Equal(got, rounds) {
			t.Errorf("%s: RoundsOf = %v", c.name, got)
		}
		labels := []bool{}
		for x, foundation := range listsOfNumbers(c.foundations) {
			labels = append(labels, rounds[x] >= 0)
			if got := impl.SupportOf(b, x); got != supports[x] {
				t.Errorf("%s: SupportOf node %d = %d", c.name, x, got)
			}
			if got := impl.FoundationOf(b, x); !slices.Equal(got, foundation) {
				t.Errorf("%s: FoundationOf node %d = %v", c.name, x, got)
			}
		}
		if got := impl.LabelsOf(b); !slices.Equal(got, labels) {
			t.Errorf("%s: LabelsOf = %v", c.name, got)
		}
		checkBeliefs(t, b)
	}
}

// The beliefs are as large as they may be, and each node stands on all before it.
func TestLargeBeliefs(t *testing.T) {
	b := impl.Beliefs{Nodes: 24, Reasons: manyReasons(60)}
	if got := impl.StrataOf(b); !slices.Equal(got, make([]int, 24)) {
		t.Errorf("StrataOf = %v", got)
	}
	if got := impl.RoundsOf(b); !slices.Equal(got, upTo(0, 23)) {
		t.Errorf("RoundsOf = %v", got)
	}
	for x := range 24 {
		if got := impl.FoundationOf(b, x); !slices.Equal(got, upTo(0, x)) || !impl.IsFoundation(b, x, got) {
			t.Errorf("FoundationOf node %d = %v", x, got)
		}
	}
	b = impl.Beliefs{Nodes: 24}
	rounds := []int{}
	for x := range 24 {
		b.Reasons = append(b.Reasons, impl.Reason{For: x, Out: upTo(max(x-1, 0), x-1)})
		rounds = append(rounds, []int{x / 2, -1}[x%2])
	}
	if got := impl.StrataOf(b); !slices.Equal(got, upTo(0, 23)) {
		t.Errorf("StrataOf a chain of Out = %v", got)
	}
	if got := impl.RoundsOf(b); !slices.Equal(got, rounds) {
		t.Errorf("RoundsOf a chain of Out = %v", got)
	}
}

func TestNodesThatDoNotExist(t *testing.T) {
	for name, b := range validBeliefs() {
		for _, x := range []int{-1, -2, -24, b.Nodes, b.Nodes + 1, 25, 1 << 32, math.MaxInt, math.MinInt} {
			if s, f := impl.SupportOf(b, x), impl.FoundationOf(b, x); s != -1 || len(f) != 0 {
				t.Errorf("%s: node %d has the support %d and the foundation %v", name, x, s, f)
			}
			for _, l := range [][]int{nil, {0}, {0, 1}, {x}} {
				if impl.IsFoundation(b, x, l) {
					t.Errorf("%s: IsFoundation(%d, %v) = true", name, x, l)
				}
			}
		}
	}
}

// checkNone checks what beliefs have that are not stratified.
func checkNone(t *testing.T, name string, b impl.Beliefs) {
	t.Helper()
	if s, r, l := impl.StrataOf(b), impl.RoundsOf(b), impl.LabelsOf(b); len(s) != 0 || len(r) != 0 || len(l) != 0 {
		t.Errorf("%s: strata %v, rounds %v, labels %v: %+v", name, s, r, l, b)
	}
	for x := -1; x < 26; x++ {
		if s, f := impl.SupportOf(b, x), impl.FoundationOf(b, x); s != -1 || len(f) != 0 {
			t.Errorf("%s: node %d has the support %d and the foundation %v: %+v", name, x, s, f, b)
		}
		for _, l := range [][]int{nil, {}, {0}, {1}, {0, 1}, {0, 1, 2}} {
			if impl.IsFoundation(b, x, l) {
				t.Errorf("%s: IsFoundation(%d, %v) = true: %+v", name, x, l, b)
			}
		}
	}
	for _, k := range append(upTo(-1, min(len(b.Reasons), 70)), len(b.Reasons)-1) {
		if got := impl.ConsequencesOf(b, k); len(got) != 0 {
			t.Errorf("%s: ConsequencesOf(%d) = %v: %+v", name, k, got, b)
		}
	}
}

func TestBeliefsThatAreNotStratified(t *testing.T) {
	for name, b := range unstratifiedBeliefs() {
		checkNone(t, name, b)
	}
	for name, b := range wrongBeliefs() {
		checkNone(t, name, b)
		for _, length := range []int{0, 1, 4, 5, 6, 24, 25} {
			for _, l := range [][]bool{make([]bool, length), slices.Repeat([]bool{true}, length)} {
				if impl.IsLabeling(b, l) {
					t.Errorf("%s: IsLabeling(%+v, %v) = true", name, b, l)
				}
			}
		}
	}
}

func TestLabelings(t *testing.T) {
	for _, c := range []struct {
		nodes     int
		reasons   string
		labelings string
	}{
		{1, "-", "."},
		{1, "0 <-", "+"},
		{3, "-", "..."},
		{3, "0 <-; 1 <- 0; 2 <- not 1", "++."},
		{3, "1 <- 0; 2 <- not 1", "..+"},
		// true in a circle only
		{1, "0 <- 0", "."},
		{2, "0 <- 1; 1 <- 0", ".."},
		{3, "0 <- 1; 1 <- 2; 2 <- 0", "..."},
		{3, "0 <- 1; 1 <- 0; 2 <- not 0", "..+"},
		{3, "0 <- 1 not 2; 1 <- 0 not 2; 2 <- not 0", "..+"},
		// a circle that has something else to stand on
		{2, "0 <- 1; 1 <- 0; 1 <-", "++"},
		// not stratified, with no labelling
		{1, "0 <- not 0", ""},
		{3, "0 <- not 1; 1 <- not 2; 2 <- not 0", ""},
		{2, "0 <- 1; 1 <- not 0", ""},
		{2, "0 <- 1; 1 <- not 1", ""},
		{3, "2 <- not 2; 0 <- not 1; 1 <- not 0", ""},
		// with one
		{1, "0 <- not 0; 0 <-", "+"},
		{2, "0 <- not 0; 1 <- not 1; 0 <-; 1 <- 0", "++"},
		{2, "1 <- 0 not 1", ".."},
		{2, "0 <- not 1; 1 <- not 0; 0 <-", "+."},
		{3, "0 <- not 1; 1 <- not 0; 2 <- 0 not 2", ".+."},
		// with two and more
		{2, "0 <- not 1; 1 <- not 0", "+. .+"},
		{2, "0 <- not 1; 1 <- not 0; 0 <- 1 not 0", "+."},
		{3, "0 <- not 1; 1 <- not 0; 2 <- 0; 2 <- 1", "+.+ .++"},
		{3, "0 <- not 1; 1 <- not 0; 2 <- 0", "+.+ .+."},
		{3, "0 <- not 1 2; 1 <- not 0 2; 2 <- not 0 1", "+.. .+. ..+"},
		{4, "0 <- not 1; 1 <- not 2; 2 <- not 3; 3 <- not 0", "+.+. .+.+"},
		{4, "0 <- not 1; 1 <- not 0; 2 <- not 3; 3 <- not 2", "+.+. +..+ .++. .+.+"},
	} {
		b := beliefsOf(c.nodes, c.reasons)
		// also the lists that are too short or too long
		for _, l := range tuples(c.nodes+1, false, true) {
			want := slices.Contains(strings.Fields(c.labelings), textOfLabels(l))
			if got := impl.IsLabeling(b, l); got != want {
				t.Errorf("%s: IsLabeling %s = %v", c.reasons, textOfLabels(l), got)
			}
		}
		if impl.IsStratified(b) && textOfLabels(impl.LabelsOf(b)) != c.labelings {
			t.Errorf("%s: LabelsOf = %v", c.reasons, impl.LabelsOf(b))
		}
		checkBeliefs(t, b)
	}
	for _, l := range [][]bool{nil, {}} {
		if !impl.IsLabeling(impl.Beliefs{}, l) || impl.IsLabeling(impl.Beliefs{Nodes: 1}, l) {
			t.Errorf("IsLabeling %v without nodes, or with one", l)
		}
	}
	if impl.IsLabeling(impl.Beliefs{}, []bool{false}) || impl.IsLabeling(impl.Beliefs{Nodes: 24}, make([]bool, 25)) || !impl.IsLabeling(impl.Beliefs{Nodes: 24}, make([]bool, 24)) {
		t.Error("IsLabeling of labels that are all false")
	}
}

func TestIsFoundation(t *testing.T) {
	// All nodes but 4 are in.
	b := beliefsOf(6, "0 <-; 1 <- 0; 2 <- 0 1; 3 <- 1; 5 <- 2 3 not 4; 0 <- 1; 4 <- 0 not 1; 4 <- 4; 2 <- 0; 1 <- 1")
	for _, c := range []struct {
		x    int
		good string
		bad  string
	}{
		{0, "0; 0 0; 0 1 0; 0 1 5; 0 1 2 3 4 0", "-; 5; 1; 0 1; 5 0; 1 0; 0 5; 1 5; -1; 10; 0 10; 10 0; -1 0; 0 -1; 0 1 9 1; 0 6; 6 0; 7 0; 0 7 0"},
		{1, "0 1; 0 1 1; 0 0 1; 0 1 0 1; 0 1 5 1; 0 1 9; 0 8 1; 0 1 2 3 4 1", "-; 1; 1 0; 1 0 1; 0 9; 9 0 1; 0; 0 8; 8 0 1; 0 1 6 1; 0 6 1; 7 0 1"},
		{2, "0 1 2; 0 8; 0 0 8; 0 1 3 2; 0 1 8; 0 8 8; 0 8 1 2; 0 1 2 8", "-; 8; 2; 0 2; 1 2; 2 0 1; 0 2 1; 1 0 2; 0 2 1 2; 8 0; 0 1; 0 1 2 3; 0 1 2 10; 0 1 1000 2"},
		{3, "0 1 3; 0 8 1 3", "-; 3; 0 3; 1 3; 0 8 3; 1 0 3; 3 1 0; 0 3 1 3"},
		{4, "", "-; 6; 7; 0 6; 0 7; 0 7 7; 0 1 6; 7 7; 4; 0 1 2 3 4; 0 1 2 3 6; 0 1 2 3 7"},
		{5, "0 1 3 2 4; 0 1 2 3 4; 0 8 1 3 4; 0 1 3 8 4; 0 1 2 3 5 8 9 4", "-; 4; 0 1 2 4; 0 1 3 4; 0 1 2 3; 3 2 1 0 4; 0 1 4 2 3; 0 1 4 2 3 4; 0 1 2 3 4 0; 0 1 2 3 4 6; 0 1 2 3 6 4"},
	} {
		for _, l := range listsOfNumbers(c.good) {
			for y := -1; y < 8; y++ {
				if got := impl.IsFoundation(b, y, l); got != (y == c.x) {
					t.Errorf("IsFoundation(%d, %v) = %v", y, l, got)
				}
			}
		}
		for _, l := range listsOfNumbers(c.bad) {
			if impl.IsFoundation(b, c.x, l) {
				t.Errorf("IsFoundation(%d, %v) = true", c.x, l)
			}
		}
		for _, k := range []int{1 << 32, 1<<32 + 1, math.MaxInt, math.MinInt, -10} {
			for _, l := range [][]int{{k}, {0, k}, {k, 0}, {0, 1, 2, k}} {
				if impl.IsFoundation(b, c.x, l) {
					t.Errorf("IsFoundation(%d, %v) = true", c.x, l)
				}
			}
		}
	}
	if long := slices.Repeat([]int{0, 1, 9, 5}, 5000); !impl.IsFoundation(b, 0, long) || impl.IsFoundation(b, 0, append(long, 4, 0)) {
		t.Error("IsFoundation of long lists")
	}
	if impl.IsFoundation(impl.Beliefs{}, 0, []int{0}) || impl.IsFoundation(impl.Beliefs{}, 0, nil) {
		t.Error("IsFoundation of no beliefs")
	}
}

func checkAdded(t *testing.T, name string, b impl.Beliefs, r impl.Reason, want bool) {
	t.Helper()
	whole := copyBeliefs(b)
	if want {
		whole.Reasons = append(whole.Reasons, copyReason(r))
	}
	got, ok := impl.AddReason(b, r)
	if ok != want || !equalBeliefs(got, whole) {
		t.Errorf("%s: AddReason(%+v, %+v) = %+v, %v", name, b, r, got, ok)
	}
}

func TestAddReason(t *testing.T) {
	for name, b := range validBeliefs() {
		if b.Nodes > 0 {
			checkAdded(t, name, b, impl.Reason{}, len(b.Reasons) < 60)
			checkAdded(t, name, b, impl.Reason{In: []int{b.Nodes - 1}, Out: []int{0}}, len(b.Reasons) < 60)
			checkAdded(t, name, b, impl.Reason{For: b.Nodes - 1, In: []int{}, Out: upTo(0, b.Nodes-1)}, len(b.Reasons) < 60)
		}
		checkAdded(t, name, b, impl.Reason{For: b.Nodes}, false)
		checkAdded(t, name, b, impl.Reason{In: []int{b.Nodes}}, false)
		checkAdded(t, name, b, impl.Reason{Out: []int{-1}}, false)
	}
	for name, b := range wrongBeliefs() {
		for _, r := range []impl.Reason{{}, reasonOf("2 <- 0 1 not 3"), {For: -1}} {
			checkAdded(t, name, b, r, false)
		}
	}
	// what makes beliefs not valid is not added to them
	base := baseBeliefs()
	for name, b := range wrongBeliefs() {
		if len(b.Reasons) == 1 && b.Nodes == base.Nodes {
			checkAdded(t, name, base, b.Reasons[0], false)
		}
	}
	b := impl.Beliefs{Nodes: 24}
	for i, r := range manyReasons(70) {
		checkAdded(t, "one by one", b, r, i < 60)
		b, _ = impl.AddReason(b, r)
	}
	if len(b.Reasons) != 60 {
		t.Errorf("%d reasons", len(b.Reasons))
	}
}

func TestDropReasons(t *testing.T) {
	b := beliefsOf(5, "0 <-; 1 <- 0; 2 <- 0 1 not 3 4; 1 <- 0")
	for _, c := range []struct {
		dropped string
		rest    string
	}{
		{"-", "0 <-; 1 <- 0; 2 <- 0 1 not 3 4; 1 <- 0"},
		{"0", "1 <- 0; 2 <- 0 1 not 3 4; 1 <- 0"},
		{"1", "0 <-; 2 <- 0 1 not 3 4; 1 <- 0"},
		{"2", "0 <-; 1 <- 0; 1 <- 0"},
		{"3", "0 <-; 1 <- 0; 2 <- 0 1 not 3 4"},
		{"0 1", "2 <- 0 1 not 3 4; 1 <- 0"},
		{"1 0", "2 <- 0 1 not 3 4; 1 <- 0"},
		{"3 1", "0 <-; 2 <- 0 1 not 3 4"},
		{"1 1", "0 <-; 2 <- 0 1 not 3 4; 1 <- 0"},
		{"2 0 2 0 2", "1 <- 0; 1 <- 0"},
		{"0 1 2 3", "-"},
		{"3 2 1 0 3", "-"},
		{"-1 4", "0 <-; 1 <- 0; 2 <- 0 1 not 3 4; 1 <- 0"},
		{"5 100 -100 4294967296 4294967297 9223372036854775807 -9223372036854775808", "0 <-; 1 <- 0; 2 <- 0 1 not 3 4; 1 <- 0"},
		{"4 3 -1 0 9", "1 <- 0; 2 <- 0 1 not 3 4"},
	} {
		want := beliefsOf(5, c.rest)
		if got := impl.DropReasons(b, numbersOf(c.dropped)); !equalBeliefs(got, want) {
			t.Errorf("DropReasons(%s) = %+v", c.dropped, got)
		}
	}
	if got := impl.DropReasons(b, nil); !equalBeliefs(got, b) {
		t.Errorf("DropReasons(nil) = %+v", got)
	}
	if got := impl.DropReasons(impl.Beliefs{}, []int{0, -1, 1}); !equalBeliefs(got, impl.Beliefs{}) {
		t.Errorf("DropReasons of no beliefs = %+v", got)
	}
	for _, beliefs := range []map[string]impl.Beliefs{validBeliefs(), wrongBeliefs()} {
		for name, b := range beliefs {
			for _, k := range []int{-1, 0, 1, len(b.Reasons) / 2, len(b.Reasons) - 1, len(b.Reasons), math.MaxInt} {
				want := copyBeliefs(b)
				if 0 <= k && k < len(b.Reasons) {
					want.Reasons = slices.Delete(want.Reasons, k, k+1)
				}
				if got := impl.DropReasons(b, []int{k, k}); !equalBeliefs(got, want) {
					t.Errorf("%s: DropReasons(%d) = %+v", name, k, got)
				}
			}
			if got := impl.DropReasons(b, upTo(0, len(b.Reasons))); !equalBeliefs(got, impl.Beliefs{Nodes: b.Nodes}) {
				t.Errorf("%s: DropReasons of all = %+v", name, got)
			}
		}
	}
}

func TestConsequencesOf(t *testing.T) {
	for _, c := range []struct {
		nodes   int
		reasons string
		want    string // for each reason
	}{
		{3, "-", ""},
		{1, "0 <-", "0"},
		// a premise on which much stands
		{5, "0 <-; 1 <- 0; 2 <- 1; 3 <- 1 2; 4 <-", "0 1 2 3; 1 2 3; 2 3; 3; 4"},
		{5, "4 <-; 1 <- 4; 3 <- 1 4; 0 <- 3", "0 1 3 4; 0 1 3; 0 3; 0"},
		// a reason that is not needed
		{2, "0 <-; 0 <-; 1 <- 0", "-; -; 1"},
		{2, "0 <-; 1 <- 0; 1 <-", "0; -; -"},
		{3, "0 <-; 1 <- 2; 1 <- 0", "0 1; -; 1"},
		{2, "0 <- 1; 1 <- 0", "-; -"},
		{2, "0 <- 1; 1 <- 0; 0 <-", "-; 1; 0 1"},
		// an absence lets a node come in without it
		{2, "0 <-; 1 <- not 0", "0 1; -"},
		{3, "0 <-; 1 <- not 0; 2 <- not 1", "0 1 2; -; 2"},
		{3, "0 <-; 1 <- 0; 2 <- not 1", "0 1 2; 1 2; -"},
		{4, "0 <-; 1 <- not 0; 1 <- 0; 2 <- 1; 3 <- not 0", "0 3; -; 1 2; 2; -"},
		{3, "0 <-; 1 <-; 2 <- not 0 1", "0; 1; -"},
		{3, "0 <- not 1; 2 <- 0", "0 2; 2"},
		// the strata become others without a reason, too
		{4, "0 <-; 1 <- not 0; 2 <- 1; 2 <-; 3 <- 2", "0 1; -; -; 2 3; 3"},
	} {
		b := beliefsOf(c.nodes, c.reasons)
		for k, want := range listsOfNumbers(c.want) {
			if got := impl.ConsequencesOf(b, k); !slices.Equal(got, want) {
				t.Errorf("%s: ConsequencesOf(%d) = %v", c.reasons, k, got)
			}
		}
		for _, k := range []int{-1, -2, len(b.Reasons), len(b.Reasons) + 1, 60, 1 << 32, math.MaxInt, math.MinInt} {
			if got := impl.ConsequencesOf(b, k); len(got) != 0 {
				t.Errorf("%s: ConsequencesOf(%d) = %v", c.reasons, k, got)
			}
		}
		checkBeliefs(t, b)
	}
	for name, b := range unstratifiedBeliefs() {
		// without one of the reasons they may be stratified
		for k := range b.Reasons {
			if got := impl.ConsequencesOf(b, k); len(got) != 0 {
				t.Errorf("%s: ConsequencesOf(%d) = %v", name, k, got)
			}
		}
	}
}

func TestFormatReason(t *testing.T) {
	for _, c := range []struct {
		reason impl.Reason
		text   string
	}{
		{impl.Reason{}, "0 <-"},
		{impl.Reason{For: 3}, "3 <-"},
		{impl.Reason{For: 3, In: []int{}, Out: []int{}}, "3 <-"},
		{impl.Reason{For: 3, In: []int{1}}, "3 <- 1"},
		{impl.Reason{For: 3, In: []int{1, 2}}, "3 <- 1 2"},
		{impl.Reason{For: 3, In: []int{1, 2}, Out: []int{4}}, "3 <- 1 2 not 4"},
		{impl.Reason{For: 3, In: []int{1}, Out: []int{4, 10}}, "3 <- 1 not 4 10"},
		{impl.Reason{For: 23, Out: []int{0}}, "23 <- not 0"},
		{impl.Reason{For: 23, In: []int{}, Out: []int{0, 5, 22}}, "23 <- not 0 5 22"},
		// no valid reasons
		{impl.Reason{For: -3, In: []int{-1, -2}, Out: []int{-40}}, "-3 <- -1 -2 not -40"},
		{impl.Reason{For: 7, In: []int{5, 5, 1}, Out: []int{5, 0, 5}}, "7 <- 5 5 1 not 5 0 5"},
		{impl.Reason{For: math.MinInt, In: []int{math.MaxInt}}, "-9223372036854775808 <- 9223372036854775807"},
		{impl.Reason{For: 100, In: upTo(0, 11)}, "100 <- 0 1 2 3 4 5 6 7 8 9 10 11"},
	} {
		if got := impl.FormatReason(c.reason); got != c.text {
			t.Errorf("FormatReason(%+v) = %q, not %q", c.reason, got, c.text)
		}
	}
	for _, b := range validBeliefs() {
		for _, r := range b.Reasons {
			if got := reasonOf(impl.FormatReason(r)); !equalReasons(got, r) {
				t.Errorf("FormatReason(%+v) = %q", r, impl.FormatReason(r))
			}
		}
	}
}

// dependsAgain returns the nodes on which one depends, going from reason to reason.
func dependsAgain(b impl.Beliefs, x int) map[int]bool {
	reached := map[int]bool{}
	for next := []int{x}; len(next) > 0; next = next[1:] {
		for _, r := range b.Reasons {
			if r.For != next[0] {
				continue
			}
			for _, y := range append(slices.Clone(r.In), r.Out...) {
				if !reached[y] {
					reached[y], next = true, append(next, y)
				}
			}
		}
	}
	return reached
}

func stratifiedAgain(b impl.Beliefs) bool {
	for _, r := range b.Reasons {
		for _, y := range r.Out {
			if y == r.For || dependsAgain(b, y)[r.For] {
				return false
			}
		}
	}
	return true
}

// strataAgain finds stratum by stratum which nodes are in it or above it: those that have, or depend
// on a node that has, a reason with a node in Out that is in the stratum below or above that one.
func strataAgain(b impl.Beliefs) []int {
	strata, below := make([]int, b.Nodes), []map[int]bool{}
	for x := range strata {
		below = append(below, dependsAgain(b, x))
		below[x][x] = true
	}
	for n := 1; n < b.Nodes; n++ {
		for x := range strata {
			for _, r := range b.Reasons {
				if below[x][r.For] && slices.ContainsFunc(r.Out, func(y int) bool { return strata[y] >= n-1 }) {
					strata[x] = n
				}
			}
		}
	}
	return strata
}

// areStrata reports whether each reason allows these numbers as strata.
func areStrata(b impl.Beliefs, strata []int) bool {
	for _, r := range b.Reasons {
		if slices.ContainsFunc(r.In, func(y int) bool { return strata[y] > strata[r.For] }) ||
			slices.ContainsFunc(r.Out, func(y int) bool { return strata[y] >= strata[r.For] }) {
			return false
		}
	}
	return true
}

// hasReason reports whether a node has a reason whose nodes of In are all standing, and none of its Out is in.
func hasReason(b impl.Beliefs, x int, standing func(int) bool, in func(int) bool) bool {
	return slices.ContainsFunc(b.Reasons, func(r impl.Reason) bool {
		return r.For == x && !slices.ContainsFunc(r.In, func(y int) bool { return !standing(y) }) && !slices.ContainsFunc(r.Out, in)
	})
}

func roundsAgain(b impl.Beliefs) []int {
	strata, came, round := strataAgain(b), map[int]int{}, 0
	isIn := func(x int) bool { _, in := came[x]; return in }
	for stratum := 0; stratum <= 24; stratum++ {
		for {
			comes := []int{}
			for x := range b.Nodes {
				if strata[x] == stratum && !isIn(x) && hasReason(b, x, isIn, isIn) {
					comes = append(comes, x)
				}
			}
			if len(comes) == 0 {
				break
			}
			for _, x := range comes {
				came[x] = round
			}
			round++
		}
	}
	rounds := slices.Repeat([]int{-1}, b.Nodes)
	for x, round := range came {
		rounds[x] = round
	}
	return rounds
}

func labelsAgain(rounds []int) []bool {
	l := []bool{}
	for _, round := range rounds {
		l = append(l, round >= 0)
	}
	return l
}

// haveOrder tries all orders of the nodes.
func haveOrder(b impl.Beliefs, l []bool, nodes []int, before []int) bool {
	if len(nodes) == 0 {
		return true
	}
	for i, x := range nodes {
		if hasReason(b, x, func(y int) bool { return slices.Contains(before, y) }, func(y int) bool { return l[y] }) &&
			haveOrder(b, l, slices.Delete(slices.Clone(nodes), i, i+1), append(slices.Clone(before), x)) {
			return true
		}
	}
	return false
}

func labelingAgain(b impl.Beliefs, l []bool) bool {
	isIn := func(y int) bool { return l[y] }
	in := []int{}
	for x := range b.Nodes {
		if l[x] {
			in = append(in, x)
		} else if hasReason(b, x, isIn, isIn) {
			return false
		}
	}
	return haveOrder(b, l, in, nil)
}

func supportAgain(b impl.Beliefs, rounds []int, x int) int {
	for k, r := range b.Reasons {
		one := impl.Beliefs{Reasons: []impl.Reason{r}}
		if rounds[x] >= 0 && hasReason(one, x, func(y int) bool { return 0 <= rounds[y] && rounds[y] < rounds[x] }, func(y int) bool { return rounds[y] >= 0 }) {
			return k
		}
	}
	return -1
}

// standsOn returns a foundation in which what is stood on twice is there twice.
func standsOn(b impl.Beliefs, rounds []int, x int) []int {
	k, l := supportAgain(b, rounds, x), []int{}
	if k < 0 {
		return l
	}
	for _, y := range b.Reasons[k].In {
		l = append(l, standsOn(b, rounds, y)...)
	}
	return append(l, k)
}

func foundationAgain(b impl.Beliefs, rounds []int, x int) []int {
	l := []int{}
	for _, k := range standsOn(b, rounds, x) {
		if !slices.Contains(l, k) {
			l = append(l, k)
		}
	}
	return l
}

func isFoundationAgain(b impl.Beliefs, rounds []int, x int, l []int) bool {
	for i, k := range l {
		if k < 0 || k >= len(b.Reasons) {
			return false
		}
		stands := func(y int) bool {
			return slices.ContainsFunc(l[:i], func(k int) bool { return b.Reasons[k].For == y })
		}
		if !hasReason(impl.Beliefs{Reasons: b.Reasons[k : k+1]}, b.Reasons[k].For, stands, func(y int) bool { return rounds[y] >= 0 }) {
			return false
		}
	}
	return len(l) > 0 && b.Reasons[l[len(l)-1]].For == x
}

// checkBeliefs tells of valid beliefs a second time what they are.
func checkBeliefs(t *testing.T, b impl.Beliefs) {
	t.Helper()
	for x := range b.Nodes {
		on := dependsAgain(b, x)
		for y := range b.Nodes {
			checkDepends(t, b, x, y, on[y])
		}
	}
	stratified := stratifiedAgain(b)
	if got := impl.IsStratified(b); !impl.IsBeliefs(b) || got != stratified {
		t.Fatalf("IsStratified(%+v) = %v", b, got)
	}
	labelings := 0
	if b.Nodes <= 6 {
		for _, l := range tuples(b.Nodes, false, true) {
			want := len(l) == b.Nodes && labelingAgain(b, l)
			if got := impl.IsLabeling(b, l); got != want {
				t.Fatalf("IsLabeling(%+v, %v) = %v", b, l, got)
			}
			if want {
				labelings++
			}
		}
	}
	if !stratified {
		checkNone(t, "not stratified", b)
		return
	}
	if b.Nodes <= 6 && labelings != 1 {
		t.Fatalf("%d labellings: %+v", labelings, b)
	}
	checkStratified(t, b)
}

func checkStratified(t *testing.T, b impl.Beliefs) {
	t.Helper()
	rounds := roundsAgain(b)
	labels := labelsAgain(rounds)
	if got := impl.StrataOf(b); !slices.Equal(got, strataAgain(b)) || !areStrata(b, got) {
		t.Fatalf("StrataOf(%+v) = %v", b, got)
	}
	if got := impl.RoundsOf(b); !slices.Equal(got, rounds) {
		t.Fatalf("RoundsOf(%+v) = %v, not %v", b, got, rounds)
	}
	if got := impl.LabelsOf(b); !slices.Equal(got, labels) || !impl.IsLabeling(b, got) {
		t.Fatalf("LabelsOf(%+v) = %v, not %v", b, got, labels)
	}
	for x := range b.Nodes {
		if got := impl.SupportOf(b, x); got != supportAgain(b, rounds, x) {
			t.Fatalf("SupportOf(%+v, %d) = %d", b, x, got)
		}
		l := impl.FoundationOf(b, x)
		if !slices.Equal(l, foundationAgain(b, rounds, x)) {
			t.Fatalf("FoundationOf(%+v, %d) = %v", b, x, l)
		}
		if impl.IsFoundation(b, x, l) != labels[x] || (len(l) > 0) != labels[x] {
			t.Fatalf("node %d is in: %v, and stands on %v: %+v", x, labels[x], l, b)
		}
		other := slices.Clone(labels)
		other[x] = !other[x]
		if impl.IsLabeling(b, other) {
			t.Fatalf("IsLabeling(%+v, %v) = true", b, other)
		}
	}
	for k := -1; k <= len(b.Reasons); k++ {
		rest := copyBeliefs(b)
		if 0 <= k && k < len(rest.Reasons) {
			rest.Reasons = slices.Delete(rest.Reasons, k, k+1)
		}
		want := []int{}
		for x, in := range labelsAgain(roundsAgain(rest)) {
			if in != labels[x] {
				want = append(want, x)
			}
		}
		if got := impl.ConsequencesOf(b, k); !slices.Equal(got, want) {
			t.Fatalf("ConsequencesOf(%+v, %d) = %v, not %v", b, k, got, want)
		}
	}
}

// nodesIn returns the nodes whose bits a number has.
func nodesIn(set int, nodes int) []int {
	l := []int{}
	for x := range nodes {
		if set>>x&1 == 1 {
			l = append(l, x)
		}
	}
	return l
}

// allReasons returns all valid reasons with so many nodes.
func allReasons(nodes int) []impl.Reason {
	l := []impl.Reason{}
	for x := range nodes {
		for in := range 1 << nodes {
			for out := range 1 << nodes {
				l = append(l, impl.Reason{For: x, In: nodesIn(in, nodes), Out: nodesIn(out, nodes)})
			}
		}
	}
	return l
}

// choose does something with all parts of a list that have count elements.
func choose[T any](l []T, count int, do func([]T)) {
	if count == 0 {
		do([]T{})
		return
	}
	for i := range l {
		choose(l[i+1:], count-1, func(rest []T) { do(append([]T{l[i]}, rest...)) })
	}
}

// checkSmall also goes through all numbers that could be strata, and all lists that could be foundations.
func checkSmall(t *testing.T, b impl.Beliefs) {
	t.Helper()
	checkBeliefs(t, b)
	if !impl.IsStratified(b) {
		return
	}
	least := impl.StrataOf(b)
	for _, strata := range tuples(b.Nodes, upTo(0, b.Nodes)...) {
		for x := range strata {
			if len(strata) == b.Nodes && areStrata(b, strata) && strata[x] < least[x] {
				t.Fatalf("StrataOf(%+v) = %v, not %v", b, least, strata)
			}
		}
	}
	rounds, founded := roundsAgain(b), make([]bool, b.Nodes)
	for _, l := range tuples(len(b.Reasons), upTo(0, len(b.Reasons))...) {
		for x := range b.Nodes {
			want := isFoundationAgain(b, rounds, x, l)
			if got := impl.IsFoundation(b, x, l); got != want {
				t.Fatalf("IsFoundation(%+v, %d, %v) = %v", b, x, l, got)
			}
			founded[x] = founded[x] || want
		}
	}
	// exactly what is in has a foundation: one that is as short as can be has no reason twice
	if !slices.Equal(founded, impl.LabelsOf(b)) {
		t.Fatalf("%+v: foundations %v, labels %v", b, founded, impl.LabelsOf(b))
	}
}

func TestAllSmallBeliefs(t *testing.T) {
	for nodes, most := range []int{0, 4, 3, 2} {
		reasons := allReasons(nodes)
		for count := range most + 1 {
			choose(reasons, count, func(l []impl.Reason) { checkSmall(t, impl.Beliefs{Nodes: nodes, Reasons: l}) })
		}
	}
}

// someNodes returns each of the nodes from 0 up to count with this chance (of 100).
func someNodes(random *rand.Rand, count int, chance int) []int {
	return slices.DeleteFunc(upTo(0, count-1), func(int) bool { return random.Intn(100) >= chance })
}

func TestSomeBeliefs(t *testing.T) {
	random := rand.New(rand.NewSource(110))
	stratified, in, out, late, strata := 0, 0, 0, 0, 0
	for range 4000 {
		b := impl.Beliefs{Nodes: 1 + random.Intn(6)}
		inChance, outChance, ordered := random.Intn(60), random.Intn(20), random.Intn(2) == 0
		for range random.Intn(12) {
			x, nodes := random.Intn(b.Nodes), b.Nodes
			if ordered {
				// so that they are stratified
				nodes = x
			}
			b.Reasons = append(b.Reasons, impl.Reason{For: x, In: someNodes(random, nodes, inChance), Out: someNodes(random, nodes, outChance)})
		}
		if b.Nodes <= 4 && len(b.Reasons) <= 4 {
			checkSmall(t, b)
		} else {
			checkBeliefs(t, b)
		}
		if !impl.IsStratified(b) {
			continue
		}
		stratified++
		for x, round := range impl.RoundsOf(b) {
			if round < 0 {
				out++
			} else {
				in++
			}
			if round > 1 {
				late++
			}
			if impl.StrataOf(b)[x] > 1 {
				strata++
			}
		}
	}
	if stratified < 1000 || stratified > 3800 || in < 1000 || out < 1000 || late < 200 || strata < 150 {
		t.Errorf("only %d stratified, %d nodes in, %d out, %d late, %d in higher strata", stratified, in, out, late, strata)
	}
}

// someStratified returns beliefs with 24 nodes, whose strata are at most those of a random list.
func someStratified(random *rand.Rand) impl.Beliefs {
	b, strata := impl.Beliefs{Nodes: 24}, []int{}
	for range 24 {
		strata = append(strata, random.Intn(6))
	}
	below := func(count int, stratum int) []int {
		l := []int{}
		for range count {
			if x := random.Intn(24); strata[x] < stratum {
				l = append(l, x)
			}
		}
		slices.Sort(l)
		return slices.Compact(l)
	}
	for range 20 + random.Intn(41) {
		x := random.Intn(24)
		b.Reasons = append(b.Reasons, impl.Reason{For: x, In: below(random.Intn(3), strata[x]+1), Out: below(random.Intn(3), strata[x])})
	}
	return b
}

func TestSomeLargeBeliefs(t *testing.T) {
	random := rand.New(rand.NewSource(111))
	late, high := 0, 0
	for range 60 {
		b := someStratified(random)
		if !impl.IsStratified(b) {
			t.Fatalf("not stratified: %+v", b)
		}
		checkBeliefs(t, b)
		late, high = max(late, slices.Max(impl.RoundsOf(b))), max(high, slices.Max(impl.StrataOf(b)))
	}
	if late < 6 || high < 3 {
		t.Errorf("only %d rounds and %d strata", late, high)
	}
}

// The order of the reasons matters to supports and foundations alone, and it does not matter how often one is there.
func TestOrderOfReasons(t *testing.T) {
	random := rand.New(rand.NewSource(112))
	for range 300 {
		b := someStratified(random)
		other := copyBeliefs(b)
		random.Shuffle(len(other.Reasons), func(i, j int) { other.Reasons[i], other.Reasons[j] = other.Reasons[j], other.Reasons[i] })
		if len(other.Reasons) < 60 {
			other.Reasons = append(other.Reasons, other.Reasons[0])
		}
		if !slices.Equal(impl.StrataOf(b), impl.StrataOf(other)) || !slices.Equal(impl.RoundsOf(b), impl.RoundsOf(other)) || !slices.Equal(impl.LabelsOf(b), impl.LabelsOf(other)) {
			t.Fatalf("%+v and %+v differ", b, other)
		}
	}
}

func TestNilAndEmptyListsOfBeliefs(t *testing.T) {
	a := beliefsOf(2, "0 <-; 1 <- 0; 1 <- not 0")
	b := copyBeliefs(a)
	b.Reasons[0].In, b.Reasons[0].Out, b.Reasons[1].Out, b.Reasons[2].In = nil, nil, nil, nil
	for _, x := range []impl.Beliefs{a, b} {
		checkBeliefs(t, x)
		checkAdded(t, "nil", x, impl.Reason{}, true)
		checkAdded(t, "empty", x, impl.Reason{In: []int{}, Out: []int{}}, true)
	}
	if !slices.Equal(impl.RoundsOf(b), []int{0, 1}) || !slices.Equal(impl.FoundationOf(b, 1), []int{0, 1}) {
		t.Error(impl.RoundsOf(b), impl.FoundationOf(b, 1))
	}
	for _, b := range []impl.Beliefs{{}, {Reasons: []impl.Reason{}}} {
		if !impl.IsStratified(b) || len(impl.StrataOf(b)) != 0 || len(impl.RoundsOf(b)) != 0 || len(impl.LabelsOf(b)) != 0 || impl.DependsOn(b, 0, 0) || len(impl.ConsequencesOf(b, 0)) != 0 {
			t.Errorf("no nodes and no reasons: %+v", b)
		}
	}
}

// listsInBeliefs returns all lists of nodes of some beliefs.
func listsInBeliefs(l ...impl.Beliefs) [][]int {
	lists := [][]int{}
	for _, b := range l {
		for _, r := range b.Reasons {
			lists = append(lists, r.In, r.Out)
		}
	}
	return lists
}

func TestBeliefsShareNoMemory(t *testing.T) {
	one := roomyTimes(0, 1)
	wrong := impl.Beliefs{Nodes: 3, Reasons: []impl.Reason{{For: 3, In: roomyTimes(0, 1), Out: roomyTimes(2)}, {For: 2, In: roomyTimes(1)}}}
	for name, b := range map[string]impl.Beliefs{"valid": roomyBeliefs(), "not valid": wrong} {
		r := impl.Reason{For: 1, In: roomyTimes(0), Out: roomyTimes(2)}
		added, _ := impl.AddReason(b, r)
		notAdded, _ := impl.AddReason(b, impl.Reason{For: -1})
		dropped, dropped2 := impl.DropReasons(b, nil), impl.DropReasons(b, []int{1})
		if shared(append(listsInBeliefs(b, added, notAdded, dropped, dropped2), r.In, r.Out)) {
			t.Errorf("%s: lists of nodes share memory", name)
		}
		if shared([][]impl.Reason{b.Reasons, added.Reasons, notAdded.Reasons, dropped.Reasons, dropped2.Reasons}) {
			t.Errorf("%s: lists of reasons share memory", name)
		}
	}
	// the lists of the argument are the same
	b := impl.Beliefs{Nodes: 3, Reasons: []impl.Reason{{For: 2, In: one, Out: one}, {For: 1, In: one}}}
	added, _ := impl.AddReason(b, impl.Reason{In: one, Out: one})
	notAdded, _ := impl.AddReason(b, impl.Reason{For: 3, In: one})
	if shared(append(listsInBeliefs(added, notAdded, impl.DropReasons(b, nil)), one)) {
		t.Error("lists of nodes that were one list share memory")
	}
}

func overwriteBeliefs(b impl.Beliefs) {
	for _, l := range listsInBeliefs(b) {
		overwrite(l, -7)
	}
	overwrite(b.Reasons, impl.Reason{For: -7})
}

// wholeBeliefs is a deep copy of beliefs and their lists up to their capacities.
func wholeBeliefs(b impl.Beliefs) impl.Beliefs {
	b.Reasons = wholeList(b.Reasons)
	for i, r := range b.Reasons {
		b.Reasons[i].In, b.Reasons[i].Out = wholeList(r.In), wholeList(r.Out)
	}
	return b
}

// roomyBeliefs returns beliefs whose lists have spare capacity, which holds other parts.
func roomyBeliefs() impl.Beliefs {
	b := beliefsOf(5, "0 <-; 1 <- 0; 2 <- 0 1 not 3 4; 3 <- not 0")
	for i, r := range b.Reasons {
		b.Reasons[i].In, b.Reasons[i].Out = roomyTimes(r.In...), roomyTimes(r.Out...)
	}
	b.Reasons = append(b.Reasons, reasonOf("-3 <- 5"), reasonOf("9 <- not 0"), reasonOf("0 <- not 0"), impl.Reason{})[:len(b.Reasons)]
	return b
}

func TestBeliefsStayAsTheyAre(t *testing.T) {
	b, odd, wrong := roomyBeliefs(), roomyBeliefs(), roomyBeliefs()
	odd.Reasons[0].Out, wrong.Reasons[1].In = roomyTimes(3), roomyTimes(4, 1)
	r, no := impl.Reason{For: 3, In: roomyTimes(1, 2), Out: roomyTimes(4)}, impl.Reason{For: 3, In: roomyTimes(2, 1)}
	indices, foundation, labels := roomyTimes(2, 0, 0, 7), roomyTimes(0, 1, 2), append(make([]bool, 0, 9), true, true, true, false, false)
	calls := map[string]func(){}
	for name, b := range map[string]impl.Beliefs{"stratified": b, "not stratified": odd, "not valid": wrong} {
		calls[name+": lists"] = func() {
			overwrite(impl.StrataOf(b), -7)
			overwrite(impl.RoundsOf(b), -7)
			overwrite(impl.LabelsOf(b), true)
			for x := -1; x < 6; x++ {
				overwrite(impl.FoundationOf(b, x), -7)
				overwrite(impl.ConsequencesOf(b, x), -7)
				impl.SupportOf(b, x)
				impl.DependsOn(b, x, 0)
				impl.IsFoundation(b, x, foundation)
			}
			impl.IsBeliefs(b)
			impl.IsStratified(b)
			impl.IsLabeling(b, labels)
		}
		calls[name+": AddReason"] = func() {
			got, _ := impl.AddReason(b, r)
			overwriteBeliefs(got)
			got, _ = impl.AddReason(b, no)
			overwriteBeliefs(got)
		}
		calls[name+": DropReasons"] = func() {
			overwriteBeliefs(impl.DropReasons(b, nil))
			overwriteBeliefs(impl.DropReasons(b, indices))
			overwriteBeliefs(impl.DropReasons(b, indices[:0]))
		}
		calls[name+": FormatReason"] = func() { impl.FormatReason(b.Reasons[2]); impl.FormatReason(r) }
	}
	checkArguments(t, calls, func() []any {
		return []any{wholeBeliefs(b), wholeBeliefs(odd), wholeBeliefs(wrong), wholeBeliefs(impl.Beliefs{Reasons: []impl.Reason{r, no}}), wholeList(indices), wholeList(foundation), wholeList(labels)}
	})
	if !impl.IsStratified(b) || !impl.IsBeliefs(odd) || impl.IsStratified(odd) || impl.IsBeliefs(wrong) || !impl.IsFoundation(b, 2, foundation) || !impl.IsLabeling(b, labels) {
		t.Error("the beliefs are not what they should be")
	}
}
