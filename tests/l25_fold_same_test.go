package tests

import (
	"math/rand"
	"slices"
	"strconv"
	"strings"
	"testing"

	"loop.example/g00459/impl"
)

// runsFolded holds promise 25: a method of a source does, step by step, what it does as FoldedText writes it. It tells in how many ways it was written.
func runsFolded(t *testing.T, source string, name string, args []int) int {
	t.Helper()
	texts := []string{}
	for i, width := range []int{leastWidth, 24, 80, widest} {
		if text := foldedTextIs(t, source, width, 10*i); len(text) <= impl.MaxSource {
			texts = append(texts, text)
		}
	}
	slices.Sort(texts)
	texts = slices.Compact(texts)
	for _, text := range texts {
		areTheSame(t, source, text, name, args)
	}
	return len(texts)
}

// foldsAndDoes is of a source with so much to be reckoned in it; its method m does what is told by hand, folded or not.
func foldsAndDoes(t *testing.T, source string, count int, args []int, want impl.Ran) {
	t.Helper()
	nodes := readTree(t, source)
	if got := impl.FoldsIn(nodes); got != count {
		t.Errorf("FoldsIn of %q is %d; want %d", source, got, count)
	}
	runsTo(t, source, args, want)
	for _, steps := range stepsToAsk(want.Steps) {
		if a, b := impl.RunMethod(nodes, "m", args, steps), runIs(t, impl.Folded(nodes), "m", args, steps); !sameRan(a, b) {
			t.Errorf("with %d steps %q does %v, and %v when it is folded", steps, source, a, b)
		}
	}
	runsFolded(t, source, "m", args)
}

func TestFoldedMethodsDoTheSame(t *testing.T) {
	const most = impl.MaxValue
	foldsAndDoes(t, "m(a) { print(1 + 2); a = a * (3 + 4) - 2 * 5; return a; }", 3, []int{6}, answers(32, 3, 3))
	foldsAndDoes(t, "m() { return 1 + 2 * 3; }", 1, nil, answers(7, 1))
	foldsAndDoes(t, "m() { return 1 - 2; }", 0, nil, answers(-1, 1))
	foldsAndDoes(t, "m() { return 999999998 + 1; }", 1, nil, answers(999999999, 1))
	foldsAndDoes(t, "m() { return 999999999 + 1; }", 0, nil, answers(most, 1))
	foldsAndDoes(t, "m() { return 999999999 + 2; }", 0, nil, faults(1))
	foldsAndDoes(t, "m() { return 999999999 + 2 - 2; }", 0, nil, faults(1))
	foldsAndDoes(t, "m() { return (999999999 + 1) * (2 - 1); }", 1, nil, answers(most, 1))
	foldsAndDoes(t, "m() { return 0 - 999999999 - 1 + 5 * 5; }", 1, nil, answers(25-most, 1))
	foldsAndDoes(t, "m() { return 0 - 999999999 - 2 + 5 * 5; }", 1, nil, faults(1))
	foldsAndDoes(t, "m() { return 1234567890 + 1; }", 0, nil, faults(1))
	foldsAndDoes(t, "m() { return 1234567890 - 2 * 3; }", 1, nil, faults(1))
	foldsAndDoes(t, "m() { print(1 + 1); print(99999 * 99999); print(2 + 2); }", 2, nil, faults(2, 2))
	foldsAndDoes(t, "m() { return 3 - 3 && 1 + 1; }", 2, nil, answers(0, 1))
	foldsAndDoes(t, "m() { return 3 - 3 || 4 - 3 || nowhere; }", 2, nil, answers(1, 1))
	foldsAndDoes(t, "m() { return 3 - 3 && 999999999 * 2; }", 1, nil, answers(0, 1))
	foldsAndDoes(t, "m() { return 1 + 1 < 2 + 2; }", 2, nil, answers(1, 1))
	foldsAndDoes(t, "m() { return 1 + 1 == 2 + 2 == 0 + 0; }", 3, nil, faults(1))
	foldsAndDoes(t, "m() { return 5 - 5 ? 1 + 1 : 2 + 2; }", 3, nil, answers(4, 1))
	foldsAndDoes(t, "m() { return (1 + 2)(print(3)); }", 1, nil, faults(1))
	foldsAndDoes(t, "m() { return [1 + 2]; }", 1, nil, faults(1))
	foldsAndDoes(t, "m() { return (1 + 2).a; }", 1, nil, faults(1))
	foldsAndDoes(t, "m() { return () => 1 + 2; }", 1, nil, faults(1))
	foldsAndDoes(t, "m() { return 1 + 2..print(3); }", 1, nil, faults(1))
	foldsAndDoes(t, "m() { 1 + 2; return f(3 + 4, (5 + 6)); } f(a, b) { print(a * (1 + 1)); return b; }", 4, nil, answers(11, 4, 14))
	foldsAndDoes(t, "m() { var i = 2 - 2; while (i < 1 + 2) { print(10 * 10 + i); i = i + (2 - 1); } }", 4, nil, answers(0, 11, 100, 101, 102))
	foldsAndDoes(t, "m(n) { if (2 * 2 - 4) { return 1; } else { if (1 - 2) { return 2 + 2 + n; } } }", 1, []int{3}, answers(7, 3))
	foldsAndDoes(t, "m(n) { while (1 + 1) { n = n + 1; } }", 1, []int{3}, impl.Ran{Code: impl.RnSteps, Steps: 1000})
	foldsAndDoes(t, "m(n) { return n == 10 - 10 ? n + 2 * 3 : m(n - (3 - 2)) + 100; }", 3, []int{5}, answers(506, 6))
}

// knownMaker makes values of numbers, brackets and chains, and of other things where it is told to.
type knownMaker struct {
	chance *rand.Rand
	others int
}

var knownNumbers = []string{"0", "1", "2", "3", "7", "10", "007", "000000001", "31622", "31623", "99999", "333333333", "500000000", "999999998", "999999999", "1000000000", "0000000000"}

func (m *knownMaker) leaf() string {
	if m.others > 0 && m.chance.Intn(m.others) == 0 {
		return []string{"a", "'t'", "f(1 + 2)", "[3 - 4]", "a.b", "(a < 1 + 1)", "(1 ? 2 : 3 * 4)", "(() => 5 + 6)"}[m.chance.Intn(8)]
	}
	// Small numbers stand together, great ones seldom: most of what is reckoned should be in range.
	if m.chance.Intn(4) > 0 {
		return knownNumbers[m.chance.Intn(6)]
	}
	return knownNumbers[m.chance.Intn(len(knownNumbers))]
}

func (m *knownMaker) value(deep int) string {
	if deep == 0 || m.chance.Intn(4) == 0 {
		return m.leaf()
	}
	mark, parts := marksOfChains[4+m.chance.Intn(3)], []string{}
	for range 2 + m.chance.Intn(3) {
		part := m.value(deep - 1)
		if strings.Contains(part, " ") && m.chance.Intn(3) > 0 {
			part = "(" + part + ")"
		}
		parts = append(parts, part)
	}
	return strings.Join(parts, " "+mark+" ")
}

// TestKnownIsWhatRuns has values by chance of numbers alone: what is known is what a method returns, and what is not can't be.
func TestKnownIsWhatRuns(t *testing.T) {
	known, foldable, others := 0, 0, 0
	for seed := range int64(3000) {
		m := &knownMaker{chance: rand.New(rand.NewSource(seed))}
		value := m.value(1 + int(seed)%3)
		source := "m() { return " + value + "; }"
		nodes, _, ok := impl.ReadSource(source)
		if !ok {
			continue
		}
		constsAre(t, nodes)
		isFolded(t, nodes)
		k := nodes[len(nodes)-4].Kids[0]
		num, ok := impl.ConstOf(nodes, k)
		want := faults(1)
		if ok {
			want = answers(num, 1)
			known++
		} else {
			others++
		}
		for _, text := range []string{source, foldedTextIs(t, source, 40, 10)} {
			if got := impl.RunSource(text, "m", nil, 1); !sameRan(got, want) {
				t.Fatalf("%q does %v; want %v", text, got, want)
			}
		}
		if impl.Foldable(nodes, k) {
			foldable++
			valueFoldsTo(t, value, 1, strconv.Itoa(num))
		}
	}
	if known < 1500 || foldable < 600 || others < 500 {
		t.Errorf("%d values are known, %d may be a number, and %d are unknown", known, foldable, others)
	}
}

func TestFoldsOfValuesByChance(t *testing.T) {
	read, folds, wholes := 0, 0, 0
	for seed := range int64(1500) {
		m := &knownMaker{chance: rand.New(rand.NewSource(seed)), others: 3 + int(seed)%9}
		source := "m(a) { print(" + m.value(2) + "); return " + m.value(3) + "; } f(x) { print(x); return x + (2 - 1); }"
		nodes, _, ok := impl.ReadSource(source)
		if !ok {
			continue
		}
		read++
		constsAre(t, nodes)
		count := impl.FoldsIn(nodes)
		folds += count
		if count == 1 {
			wholes++
		}
		areTheSame(t, source, foldedTextIs(t, source, 40, 10), "m", []int{int(seed) % 5})
	}
	if read < 1000 || folds < 2000 || wholes < 100 {
		t.Errorf("of %d sources %d values are folded, %d of them alone", read, folds, wholes)
	}
}

func TestMethodsByChanceFolded(t *testing.T) {
	read, folds, counts := 0, 0, map[int]int{}
	for seed := range int64(500) {
		source, args := anyRun(seed)
		nodes, _, ok := impl.ReadSource(source)
		if !ok {
			continue
		}
		// More of it is known with numbers for some of its names.
		if seed%2 == 0 {
			more := withParsThatMustBe(withNumbers(rand.New(rand.NewSource(seed)), nodes))
			if nodes, _, ok = impl.ReadSource(impl.Flat(impl.SignsIn(more))); !ok {
				continue
			}
			source = impl.Flat(impl.SignsIn(nodes))
		}
		read++
		if count := impl.FoldsIn(nodes); count > 0 {
			folds += count
			counts[impl.RunSource(source, "m", args, mostRunSteps).Code]++
		}
		runsFolded(t, source, "m", args)
	}
	if read < 300 || folds < 500 || counts[0] < 50 || counts[impl.RnFault] < 50 || counts[impl.RnSteps] < 1 {
		t.Errorf("of %d methods %d values are folded, and there are the codes %v", read, folds, counts)
	}
}

// knownValue makes a value of numbers alone.
func knownValue(m *treeMaker, chance *rand.Rand, deep int) int {
	if deep == 0 || chance.Intn(3) == 0 {
		return m.add(impl.NdNum, knownNumbers[chance.Intn(len(knownNumbers))])
	}
	kids := []int{}
	for range 2 + chance.Intn(2) {
		kids = append(kids, knownValue(m, chance, deep-1))
	}
	return m.add(impl.NdChain, marksOfChains[4+chance.Intn(3)], kids...)
}

// withNumbers has numbers, and chains of them, in the place of some values, where any value may stand; mostly in what may be reckoned.
func withNumbers(chance *rand.Rand, nodes []impl.Node) []impl.Node {
	m := &treeMaker{}
	var down func(k int) int
	down = func(k int) int {
		node, kids := nodes[k], []int{}
		isChain := node.Kind == impl.NdChain && strings.Contains("+-*", node.Text)
		often := map[bool]int{true: 5, false: 2}[isChain]
		for i, kid := range node.Kids {
			if mayHavePar(nodes, k, i) && chance.Intn(7) < often {
				kids = append(kids, knownValue(m, chance, chance.Intn(3)))
				continue
			}
			kids = append(kids, down(kid))
		}
		place := m.add(node.Kind, node.Text, kids...)
		m.nodes[place].Blank = node.Blank
		return place
	}
	down(len(nodes) - 1)
	return m.nodes
}

// TestFoldsOfAnyTree has trees by chance, those that are read and others; all have the same signs but for what is reckoned.
func TestFoldsOfAnyTree(t *testing.T) {
	rights, folds := 0, 0
	for seed := range int64(2000) {
		chance := rand.New(rand.NewSource(seed))
		nodes := withNumbers(chance, withMarks(chance, anyTree(seed)))
		constsAre(t, nodes)
		isFolded(t, nodes)
		least := withParsThatMustBe(nodes)
		folded := isFolded(t, least)
		if !impl.TreeOk(least) {
			continue
		}
		rights++
		folds += impl.FoldsIn(least)
		if again, ok := readAgain(folded); !ok || !impl.SameTree(again, withoutBlank(folded)) {
			t.Fatalf("%v, which is folded, is read as %v, %v", folded, again, ok)
		}
		more := withParsByChance(chance, nodes)
		constsAre(t, more)
		isFolded(t, more)
	}
	if rights < 1500 || folds < 300 {
		t.Errorf("in %d right trees there are %d values to be folded", rights, folds)
	}
}

func TestFoldsOfAnySource(t *testing.T) {
	read, folds := 0, 0
	for seed := range int64(400) {
		chance := rand.New(rand.NewSource(seed))
		width := []int{leastWidth, 20, 40, 80, widest}[chance.Intn(5)]
		m := anySource(seed)
		foldedTextIs(t, m.out.String(), width, 100)
		constsAre(t, m.nodes)
		source := impl.Flat(impl.SignsIn(withParsByChance(chance, withParsThatMustBe(withNumbers(chance, m.nodes)))))
		foldedTextIs(t, source, width, 100)
		nodes, _, ok := impl.ReadSource(source)
		if !ok {
			continue
		}
		read++
		folds += impl.FoldsIn(nodes)
	}
	if read < 150 || folds < 100 {
		t.Errorf("%d sources with more numbers are read, and %d values are folded", read, folds)
	}
}

func TestFoldsOfManySources(t *testing.T) {
	for _, source := range manySources() {
		for _, width := range []int{leastWidth, 20, 40, 80, widest} {
			for _, budget := range []int{0, 10, enough} {
				foldedTextIs(t, source, width, budget)
			}
		}
	}
}

func TestFoldsOfTurnedTrees(t *testing.T) {
	rights, folds := 0, 0
	for seed := range int64(2000) {
		chance := rand.New(rand.NewSource(seed))
		nodes := withNumbers(chance, withMarks(chance, anyTree(seed)))
		turnOneThing(chance, nodes)
		constsAre(t, nodes)
		isFolded(t, nodes)
		if impl.TreeOk(nodes) {
			rights++
			folds += impl.FoldsIn(nodes)
		}
	}
	if rights < 200 || rights > 1800 || folds < 30 {
		t.Errorf("%d of the turned trees are right, with %d values to be folded", rights, folds)
	}
}

// anyKnownShared has numbers, and values of any that are there by now.
func anyKnownShared(chance *rand.Rand) []impl.Node {
	m := &treeMaker{}
	for len(m.nodes) < 24 {
		kids := chance.Perm(len(m.nodes))
		switch kind := chance.Intn(12); {
		case kind < 3 || len(kids) < 4:
			m.add(impl.NdNum, knownNumbers[chance.Intn(len(knownNumbers))])
		case kind == 3:
			m.name()
		case kind < 6:
			m.add(impl.NdPar, "", kids[0])
		case kind == 6:
			m.add(impl.NdChain, marksOfChains[chance.Intn(4)], kids[:2+chance.Intn(2)]...)
		default:
			m.add(impl.NdChain, marksOfChains[4+chance.Intn(3)], kids[:2+chance.Intn(3)]...)
		}
	}
	return m.nodes
}

// TestFoldsOfNodesOfSeveral has nodes that are the kids of many: no trees, but of a depth.
func TestFoldsOfNodesOfSeveral(t *testing.T) {
	known := 0
	for seed := range int64(1000) {
		chance := rand.New(rand.NewSource(seed))
		nodes := anyKnownShared(chance)
		constsAre(t, nodes)
		isFolded(t, nodes)
		for k, node := range nodes {
			if _, ok := impl.ConstOf(nodes, k); ok && node.Kind == impl.NdChain {
				known++
			}
		}
	}
	if known < 50 {
		t.Errorf("%d chains are known", known)
	}
}

func TestFoldedTextOfTurnedSources(t *testing.T) {
	read, folds := 0, 0
	sources := []string{}
	for seed := range int64(60) {
		m := &knownMaker{chance: rand.New(rand.NewSource(seed)), others: 8}
		sources = append(sources, "var v = "+m.value(3)+";\nm(a) { return "+m.value(2)+"; }")
	}
	sources = append(sources, byChance(40)...)
	for seed := range int64(2000) {
		source := turnedByte(rand.New(rand.NewSource(seed)), sources[seed%100])
		foldedTextIs(t, source, 40, 10)
		if nodes, _, ok := impl.ReadSource(source); ok {
			read++
			folds += impl.FoldsIn(nodes)
		}
	}
	if read < 300 || read > 1800 || folds < 300 {
		t.Errorf("%d of the turned sources are read, with %d values to be folded", read, folds)
	}
}
