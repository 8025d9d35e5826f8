package tests

import (
	"fmt"
	"math"
	"math/rand"
	"slices"
	"strconv"
	"strings"
	"testing"

	"loop.example/g00459/impl"
)

// returns asks what a value of a and b is, where it is one; else it is a fault.
func returns(t *testing.T, value string, a int, b int, want int, is bool) {
	t.Helper()
	all := faults(1)
	if is {
		all = answers(want, 1)
	}
	runsTo(t, "m(a, b) { return "+value+"; }", []int{a, b}, all)
}

func TestValuesAtTheirLimits(t *testing.T) {
	const most, half = impl.MaxValue, impl.MaxValue / 2
	for _, c := range []struct {
		value string
		a     int
		b     int
		ret   int
		is    bool
	}{
		{"a + b", most - 1, 1, most, true},
		{"a + b", most, 0, most, true},
		{"a + b", most, 1, 0, false},
		{"a + b", most, most, 0, false},
		{"a + b", 1 - most, -1, -most, true},
		{"a + b", -most, -1, 0, false},
		{"a + b", -most, -most, 0, false},
		{"a + b", most, -most, 0, true},
		{"a - b", most - 1, -1, most, true},
		{"a - b", most, -1, 0, false},
		{"a - b", most, -most, 0, false},
		{"a - b", 1 - most, 1, -most, true},
		{"a - b", -most, 1, 0, false},
		{"a - b", -most, most, 0, false},
		{"a - b", 0, most, -most, true},
		{"a * b", most, 1, most, true},
		{"a * b", most, -1, -most, true},
		{"a * b", half, 2, most, true},
		{"a * b", half, -2, -most, true},
		{"a * b", half + 1, 2, 0, false},
		{"a * b", half + 1, -2, 0, false},
		{"a * b", 31622, 31622, 999950884, true},
		{"a * b", 31623, 31623, 0, false},
		{"a * b", most, most, 0, false},
		{"a * b", -most, -most, 0, false},
		{"a * b", -most, most, 0, false},
		{"a * b", most, 0, 0, true},
	} {
		returns(t, c.value, c.a, c.b, c.ret, c.is)
	}
	// Halfway it must be in range, too, although the end is; what stands behind is not done.
	returns(t, "a + b - b", most, 1, 0, false)
	returns(t, "a - b + b", -most, 1, 0, false)
	returns(t, "a * b * 0", most, 2, 0, false)
	returns(t, "0 * a * b", most, 2, 0, true)
	returns(t, "a - 1 + b", most, 1, most, true)
	returns(t, "a + 1 - 1 - b", most, 1, 0, false)
	returns(t, "a < b", -most, most, 1, true)
	returns(t, "a == b", most, most, 1, true)
	runsTo(t, "m(a) { return print(1) + a + 1 + print(2); }", []int{most}, faults(1, 1))
	runsTo(t, "m(a) { return (print(1) + a) * 2 * print(2); }", []int{most}, faults(1, 1))
	runsTo(t, "m(a) { return print(1) + a - 1 + print(2); }", []int{most}, answers(most-1, 1, 1, 2))
}

func TestNumbersOfSourcesAtTheirLimits(t *testing.T) {
	valueRuns(t, "999999999 + 1", impl.MaxValue)
	valueRuns(t, "0 - 999999999 - 1", -impl.MaxValue)
	valueRuns(t, "print(999999999 + 1)", 0, impl.MaxValue)
	valueFaults(t, "999999999 + 2", "0 - 999999999 - 2", "0 - 999999999 - 1 - 1", "100000 * 100000", "999999999 * 2 - 999999999")
	// Figures are counted, not what they tell: 9 may be, 10 may not, up to the 12 that a number may have.
	for count := 1; count <= 12; count++ {
		for _, figure := range []string{"0", "9"} {
			text := strings.Repeat(figure, count)
			want := faults(1)
			if count <= 9 {
				num, _ := strconv.Atoi(text)
				want = answers(num, 1)
			}
			runsTo(t, "m() { return "+text+"; }", nil, want)
		}
	}
}

func TestArgsAtTheirLimits(t *testing.T) {
	const most = impl.MaxValue
	for _, arg := range []int{most, -most, most - 1, 1 - most, 0} {
		runsTo(t, "m(a) { print(a); return a; }", []int{arg}, answers(arg, 2, arg))
		runsTo(t, "m(a, b, c) { return b; }", []int{0, arg, most}, answers(arg, 1))
	}
	for _, arg := range []int{most + 1, -most - 1, math.MaxInt, math.MaxInt - 1, math.MinInt, math.MinInt + 1, 1 << 32, -1 << 32} {
		runsTo(t, "m(a) { return 1; }", []int{arg}, faults(0))
		runsTo(t, "m(a, b, c) { return 1; }", []int{arg, 1, 2}, faults(0))
		runsTo(t, "m(a, b, c) { return 1; }", []int{1, 2, arg}, faults(0))
		// Args that can't be are no fewer for it.
		runsTo(t, "m(a) { return 1; }", []int{arg, 0}, faults(0))
		runsTo(t, "m() { return 1; }", []int{arg}, faults(0))
	}
}

func TestStepsAreCounted(t *testing.T) {
	const source = "m(a) { print(1); // a note\n if (a) { print(2); } return 5; }"
	for _, c := range []struct {
		steps int
		want  impl.Ran
	}{
		{math.MinInt, impl.Ran{Code: impl.RnSteps}},
		{-1, impl.Ran{Code: impl.RnSteps}},
		{0, impl.Ran{Code: impl.RnSteps}},
		{1, impl.Ran{Out: []int{1}, Code: impl.RnSteps, Steps: 1}},
		{2, impl.Ran{Out: []int{1}, Code: impl.RnSteps, Steps: 2}},
		{3, impl.Ran{Out: []int{1, 2}, Code: impl.RnSteps, Steps: 3}},
		{4, answers(5, 4, 1, 2)},
		{5, answers(5, 4, 1, 2)},
		{mostRunSteps, answers(5, 4, 1, 2)},
		{mostRunSteps + 1, answers(5, 4, 1, 2)},
		{math.MaxInt, answers(5, 4, 1, 2)},
	} {
		if got := sourceRuns(t, source, "m", []int{1}, c.steps); !sameRan(got, c.want) {
			t.Errorf("with %d steps it does %v; want %v", c.steps, got, c.want)
		}
	}
	for _, steps := range []int{mostRunSteps - 1, mostRunSteps, mostRunSteps + 1, math.MaxInt} {
		want := impl.Ran{Code: impl.RnSteps, Steps: min(steps, mostRunSteps)}
		if got := sourceRuns(t, "m() { while (1) {} }", "m", nil, steps); !sameRan(got, want) {
			t.Errorf("with %d steps a loop that never ends does %v", steps, got)
		}
	}
}

// TestStepsOrFaults has what comes first: a step that is too many is one ahead of what its statement does.
func TestStepsOrFaults(t *testing.T) {
	const source = "m() { print(1); a = f(2); print(3); } f(x) { print(x); return x; }"
	for steps, want := range []impl.Ran{{}, {Out: []int{1}}, {Out: []int{1}}, {Out: []int{1, 2}}} {
		want.Code, want.Steps = impl.RnSteps, steps
		if got := sourceRuns(t, source, "m", nil, steps); !sameRan(got, want) {
			t.Errorf("with %d steps it does %v; want %v", steps, got, want)
		}
	}
	for _, steps := range []int{4, 5, mostRunSteps} {
		if got := sourceRuns(t, source, "m", nil, steps); !sameRan(got, faults(4, 1, 2)) {
			t.Errorf("with %d steps it does %v", steps, got)
		}
	}
	// What takes no step is wrong also without one.
	for _, steps := range []int{math.MinInt, -1, 0, 1} {
		for _, got := range []impl.Ran{
			sourceRuns(t, source, "none", nil, steps), sourceRuns(t, source, "m", []int{1}, steps), sourceRuns(t, source, "f", nil, steps),
			sourceRuns(t, source, "f", []int{impl.MaxValue + 1}, steps), sourceRuns(t, "m(", "m", nil, steps), sourceRuns(t, "", "", nil, steps),
		} {
			if !sameRan(got, faults(0)) {
				t.Errorf("with %d steps what is wrong does %v", steps, got)
			}
		}
		if got := sourceRuns(t, "m() { // a note\n }", "m", nil, steps); !sameRan(got, impl.Ran{}) {
			t.Errorf("with %d steps a method of a note does %v", steps, got)
		}
	}
}

func TestNoRunsOfNoSources(t *testing.T) {
	for _, source := range []string{"", " ", "// a note", "m", "m() {", "m() { return 1 }", "m() { return 1; } $", "m() { return 1; };", "return 1;", blanks(impl.MaxSource+1) + "m() {}", "m() { return '\x00'; }", wideSource(impl.MaxNodes + 1)} {
		for _, name := range []string{"m", "", "return", "// a note"} {
			if got := sourceRuns(t, source, name, nil, 9); !sameRan(got, faults(0)) {
				t.Errorf("%q of %q does %v", name, source, got)
			}
		}
	}
	for _, name := range []string{"", "M", "mm", "m ", "m()", "C", "v", "a", "\xff"} {
		if got := sourceRuns(t, "class C { a() {} } var v; m() {}", name, nil, 9); !sameRan(got, faults(0)) {
			t.Errorf("%q, which is no method, does %v", name, got)
		}
	}
}

func sameIs(t *testing.T, a impl.Ran, b impl.Ran, want bool) {
	t.Helper()
	if impl.SameRan(a, b) != want || impl.SameRan(b, a) != want {
		t.Errorf("SameRan of %v and %v is not %v", a, b, want)
	}
}

func TestSameRan(t *testing.T) {
	one := func() impl.Ran { return impl.Ran{Out: []int{1, 2, 3}, Ret: 4, Code: 1, Steps: 5} }
	sameIs(t, one(), one(), true)
	for why, change := range map[string]func(ran *impl.Ran){
		"Ret":                   func(ran *impl.Ran) { ran.Ret = -4 },
		"Code":                  func(ran *impl.Ran) { ran.Code = 2 },
		"Steps":                 func(ran *impl.Ran) { ran.Steps = 6 },
		"the first number":      func(ran *impl.Ran) { ran.Out[0] = 0 },
		"the last number":       func(ran *impl.Ran) { ran.Out[2] = 4 },
		"one more":              func(ran *impl.Ran) { ran.Out = append(ran.Out, 0) },
		"one fewer":             func(ran *impl.Ran) { ran.Out = ran.Out[:2] },
		"none":                  func(ran *impl.Ran) { ran.Out = nil },
		"the order":             func(ran *impl.Ran) { ran.Out = []int{1, 3, 2} },
		"Ret and Steps changed": func(ran *impl.Ran) { ran.Ret, ran.Steps = ran.Steps, ran.Ret },
	} {
		other := one()
		change(&other)
		if impl.SameRan(one(), other) {
			t.Errorf("another one by %s is the same", why)
		}
		sameIs(t, other, one(), false)
		sameIs(t, other, other, true)
	}
	sameIs(t, impl.Ran{}, impl.Ran{Out: []int{}}, true)
	sameIs(t, impl.Ran{}, impl.Ran{Out: make([]int, 0, 5)}, true)
	sameIs(t, impl.Ran{}, impl.Ran{Out: []int{0}}, false)
	sameIs(t, impl.Ran{Ret: 1}, impl.Ran{Steps: 1}, false)
	sameIs(t, impl.Ran{Ret: math.MinInt}, impl.Ran{Ret: math.MinInt}, true)
	roomy := one()
	roomy.Out = withRoom(roomy.Out)
	sameIs(t, roomy, one(), true)
	if room := roomy.Out[:cap(roomy.Out)]; !slices.Equal(room[:5], []int{1, 2, 3, 3, 3}) {
		t.Errorf("SameRan changes the list, or the room behind it: %v", room)
	}
}

// callsWhatIsInBrackets asks for what is called in brackets: it is no name, and without them it is one.
func callsWhatIsInBrackets(nodes []impl.Node) bool {
	return slices.ContainsFunc(nodes, func(node impl.Node) bool {
		return node.Kind == impl.NdCall && nodes[node.Kids[0]].Kind == impl.NdPar
	})
}

// areTheSame asks two sources for what their methods do, step by step.
func areTheSame(t *testing.T, source string, other string, name string, args []int) {
	t.Helper()
	all := impl.RunSource(source, name, args, mostRunSteps)
	for _, steps := range stepsToAsk(all.Steps) {
		a, b := impl.RunSource(source, name, args, steps), impl.RunSource(other, name, args, steps)
		if !sameRan(a, b) || !impl.SameRan(a, b) {
			t.Fatalf("with %d steps %s of\n%s\ndoes %v of %v, but %v of\n%s", steps, name, source, a, args, b, other)
		}
	}
}

// runsHoweverWritten holds promise 24, and tells in how many ways.
func runsHoweverWritten(t *testing.T, source string, name string, args []int) int {
	t.Helper()
	nodes := readTree(t, source)
	texts := []string{impl.Flat(impl.SignsIn(nodes))}
	for _, width := range []int{leastWidth, 16, 24, 40, 80, widest} {
		for _, budget := range []int{0, 20} {
			if text, _, code := impl.Format(source, width, budget); code == 0 {
				texts = append(texts, text)
			}
			if text, _ := impl.SparedText(source, width, budget); len(text) <= impl.MaxSource && !callsWhatIsInBrackets(nodes) && !hasArrowInTheWay(impl.Spared(nodes)) {
				texts = append(texts, text)
			}
		}
	}
	slices.Sort(texts)
	texts = slices.Compact(texts)
	for _, text := range texts {
		areTheSame(t, source, text, name, args)
	}
	return len(texts)
}

// bubbleSource has no lists to sort, but three cells.
const bubbleSource = `
// sorts three numbers
sort(a,b,c,) {
    var turned=1;
    while((turned)) {
        turned = 0; // no more

        if((b<a)) { var was = ((a)); a=b; b=was; turned=(turned)+1; }
        if(c<b){var was=b;b=c;c=(was);turned=turned+1;}
    }
    print(a);print((b));
    print(c,);
    return (a<b&&b<c)?(1):((a==b)||(b==c))?(2):0;
}

class Other { sort(a, b, c) { return 9; } }
var sort = 5;
`

func TestMethodsHoweverWritten(t *testing.T) {
	for _, args := range [][]int{{1, 2, 3}, {3, 2, 1}, {2, 3, 1}, {5, 5, -1}, {0, 0, 0}} {
		runsHoweverWritten(t, bubbleSource, "sort", args)
		sorted := slices.Sorted(slices.Values(args))
		if got := impl.RunSource(bubbleSource, "sort", args, mostRunSteps); got.Code != 0 || !slices.Equal(got.Out, sorted) {
			t.Errorf("sort of %v does %v", args, got)
		}
	}
	for _, source := range []string{
		"m(n){if((n)<2){return(n);}return(m((n-1)))+(m(n-2));}",
		"m(n){var a=(n*(n+1))-((n-1)*n);// the double\nprint(a);print(a==(n+n));return((a))<((n+n)+1);}",
		"m(n){while(((0<n)&&(n<100))){n=(n+n);print((n),);}c=n;}",
		"m(n){return(n)?((print(1))?(2):(print(3))):(print((4))+print((5)*6)-(print(7)-8));}",
		"m(n){var i=0;while(i<n){var j=i;while(j<n){if((i+j)==n){print(i*10+j);}else{// none\n}j=j+1;}i=i+1;}return(i||(0&&'text'));}",
		"m(n){var first=n;var second=first;third=second;}",
		"m(n){while(1){n=n+1;print(n);}}",
		"m(n){print((n==n)==(n<n));print(((n)==(n))==n);return n==n==n;}",
	} {
		for _, n := range []int{0, 1, 2, 5} {
			if ways := runsHoweverWritten(t, source, "m", []int{n}); ways < 3 {
				t.Errorf("%q is written in %d ways alone", source, ways)
			}
		}
	}
}

// TestBracketsOfWhatIsCalled holds what is so by the chapter's words: what is called in brackets is no name, until they are spared.
func TestBracketsOfWhatIsCalled(t *testing.T) {
	const source = "m() { print(1); return (f)(2); } f(x) { return x; }"
	runsTo(t, source, nil, faults(2, 1))
	text, _ := impl.SparedText(source, 40, 9)
	runsTo(t, text, nil, answers(2, 3, 1))
}

// runHead is a method that is there to be called.
type runHead struct {
	name  string
	names []string
}

// runMaker makes methods that mostly can be: most names have a cell, most calls as many values as names.
type runMaker struct {
	chance *rand.Rand
	heads  []runHead
	at     int
	names  []string
	loops  int
}

func (m *runMaker) oneOf(texts ...string) string { return texts[m.chance.Intn(len(texts))] }

func (m *runMaker) isRare() bool { return m.chance.Intn(60) == 0 }

func (m *runMaker) leaf() string {
	switch {
	case m.isRare():
		return m.oneOf("'text'", "[1]", "nowhere", "1234567890", "0000000000", "a.b", "none()", "(() => 1)", "(1..f())")
	case len(m.names) > 0 && m.chance.Intn(3) > 0:
		return m.oneOf(m.names...)
	}
	return m.oneOf("0", "1", "2", "3", "7", "010", "40000", "999999999")
}

// tight has what can stand in each place of a chain.
func (m *runMaker) tight(deep int) string {
	value := m.value(deep)
	if strings.Contains(value, " ") && m.chance.Intn(8) > 0 {
		return "(" + value + ")"
	}
	return value
}

func (m *runMaker) chain(deep int, mark string, count int) string {
	parts := []string{}
	for range count {
		parts = append(parts, m.tight(deep))
	}
	return strings.Join(parts, " "+mark+" ")
}

func (m *runMaker) call(deep int) string {
	// Those behind can be called without coming back.
	to := m.at + 1 + m.chance.Intn(len(m.heads))
	if to >= len(m.heads) {
		if m.chance.Intn(4) > 0 {
			return "print(" + m.value(deep) + ")"
		}
		to = m.chance.Intn(len(m.heads))
	}
	count := len(m.heads[to].names)
	if m.isRare() {
		count++
	}
	values := []string{}
	for range count {
		values = append(values, m.value(deep))
	}
	return m.heads[to].name + "(" + strings.Join(values, ", ") + ")"
}

func (m *runMaker) value(deep int) string {
	if deep == 0 {
		return m.leaf()
	}
	switch m.chance.Intn(9) {
	case 0, 1:
		return m.leaf()
	case 2, 3:
		return m.chain(deep-1, m.oneOf("+", "-", "*"), 2+m.chance.Intn(2))
	case 4:
		return m.chain(deep-1, m.oneOf("&&", "||"), 2+m.chance.Intn(2))
	case 5:
		return m.chain(deep-1, m.oneOf("==", "<"), 2)
	case 6:
		return m.tight(deep-1) + " ? " + m.value(deep-1) + " : " + m.value(deep-1)
	case 7:
		return "(" + m.value(deep-1) + ")"
	}
	return m.call(deep - 1)
}

func (m *runMaker) steps(deep int, count int) string {
	steps := []string{}
	for range count {
		steps = append(steps, m.step(deep))
	}
	return strings.Join(steps, " ")
}

func (m *runMaker) block(deep int, count int) string {
	return "{ " + m.steps(deep, count) + " }"
}

func (m *runMaker) step(deep int) string {
	switch kind := m.chance.Intn(12); {
	case kind < 2:
		value := m.value(2)
		name := m.oneOf("a", "b", "c", "x")
		m.names = append(m.names, name)
		return "var " + name + m.oneOf("", " = "+value, " = "+value) + ";"
	case kind < 4:
		return m.oneOf(append(m.names, "x")...) + " = " + m.value(2) + ";"
	case kind == 4 && m.chance.Intn(3) == 0:
		return "return" + m.oneOf("", " "+m.value(2)) + ";"
	case kind < 7 && deep > 0:
		return "if (" + m.value(2) + ") " + m.block(deep-1, 1+m.chance.Intn(2)) + m.oneOf("", " else "+m.block(deep-1, 1))
	case kind < 9 && deep > 0:
		return m.loop(deep - 1)
	case kind == 9:
		return "// a note\n"
	case kind == 10:
		return m.call(1) + ";"
	}
	return "print(" + m.value(2) + ");"
}

// loop has a cell that counts, and ends mostly.
func (m *runMaker) loop(deep int) string {
	m.loops++
	name := "i" + strconv.Itoa(m.loops)
	body := m.steps(deep, 1+m.chance.Intn(2))
	most := m.oneOf("0", "1", "2", "3", "4", "30", "400")
	return fmt.Sprintf("var %s = 0; while (%s < %s) { %s = %s + 1; %s }", name, name, most, name, name, body)
}

// anyRun has a source by chance, whose first method is m, and as many args as that has names.
func anyRun(seed int64) (string, []int) {
	m := &runMaker{chance: rand.New(rand.NewSource(seed))}
	for _, name := range []string{"m", "f", "g", "print"}[:1+m.chance.Intn(4)] {
		names := []string{"a", "b", "x", "a"}[:m.chance.Intn(5)]
		m.heads = append(m.heads, runHead{name: name, names: names})
	}
	methods := []string{}
	for at, head := range m.heads {
		m.at, m.names = at, slices.Clone(head.names)
		methods = append(methods, head.name+"("+strings.Join(head.names, ", ")+") "+m.block(2, 1+m.chance.Intn(4)))
	}
	args := []int{}
	for range m.heads[0].names {
		args = append(args, []int{0, 1, 2, -1, 5, 30, impl.MaxValue, -impl.MaxValue}[m.chance.Intn(8)])
	}
	if m.isRare() {
		args = append(args, m.chance.Intn(9))
	}
	return strings.Join(methods, "\n"), args
}

func TestMethodsByChance(t *testing.T) {
	read, told, counts := 0, 0, map[int]int{}
	for seed := range int64(1500) {
		source, args := anyRun(seed)
		if _, _, ok := impl.ReadSource(source); !ok {
			continue
		}
		read++
		all := sourceRuns(t, source, "m", args, mostRunSteps)
		if again := sourceRuns(t, source, "m", args, mostRunSteps); !sameRan(all, again) {
			t.Fatalf("%q does %v of %v, then %v", source, all, args, again)
		}
		runsStepByStep(t, source, "m", args)
		counts[all.Code]++
		told += min(len(all.Out), 10)
	}
	if read < 1000 || told < 2000 || counts[0] < 400 || counts[impl.RnFault] < 300 || counts[impl.RnSteps] < 30 {
		t.Errorf("of %d methods there are the codes %v, and %d numbers", read, counts, told)
	}
}

func TestMethodsByChanceHoweverWritten(t *testing.T) {
	ways, counts := 0, map[int]int{}
	for seed := range int64(150) {
		source, args := anyRun(seed)
		if _, _, ok := impl.ReadSource(source); !ok {
			continue
		}
		ways += runsHoweverWritten(t, source, "m", args)
		counts[impl.RunSource(source, "m", args, mostRunSteps).Code]++
	}
	if ways < 700 || counts[0] < 40 || counts[impl.RnFault] < 40 || counts[impl.RnSteps] < 2 {
		t.Errorf("there are %d ways in which they are written, and the codes %v", ways, counts)
	}
}

// allRun asks for each method that there is, with as many args as it has names, and one fewer and more.
func allRun(t *testing.T, chance *rand.Rand, nodes []impl.Node) int {
	t.Helper()
	count := 0
	for _, node := range nodes {
		if node.Kind != impl.NdMethod {
			continue
		}
		for more := range 3 {
			args := []int{}
			for range len(node.Kids) - 2 + more {
				args = append(args, chance.Intn(5)-1)
			}
			if runIs(t, nodes, node.Text, args, chance.Intn(50)).Steps > 0 {
				count++
			}
		}
		methodAtIs(t, nodes, node.Text, methodByWord(nodes, node.Text))
	}
	return count
}

// TestMethodsOfTurnedTrees has one thing turned in the tree of a source; if it is still right, it is run as it is now.
func TestMethodsOfTurnedTrees(t *testing.T) {
	rights, began := 0, 0
	for seed := range int64(2000) {
		chance := rand.New(rand.NewSource(seed))
		source, _ := anyRun(seed % 500)
		nodes, _, ok := impl.ReadSource(source)
		if !ok {
			continue
		}
		turnOneThing(chance, nodes)
		began += allRun(t, chance, nodes)
		if impl.TreeOk(nodes) {
			rights++
		}
	}
	if rights < 200 || rights > 1500 || began < 500 {
		t.Errorf("%d of the turned trees are right, and %d methods began", rights, began)
	}
}

func TestMethodsOfAnyTree(t *testing.T) {
	began := 0
	for seed := range int64(1500) {
		chance := rand.New(rand.NewSource(seed))
		nodes := anyTree(seed)
		began += allRun(t, chance, nodes)
		began += allRun(t, chance, withMarks(chance, nodes))
		turnOneThing(chance, nodes)
		allRun(t, chance, nodes)
		allRun(t, chance, anyShared(seed))
	}
	for seed := range int64(200) {
		began += allRun(t, rand.New(rand.NewSource(seed)), anySource(seed).nodes)
	}
	if began < 100 {
		t.Errorf("%d methods began alone", began)
	}
}

// TestMethodsOfTurnedSources has a byte that is turned, which may be a mark or a figure of what is still a source.
func TestMethodsOfTurnedSources(t *testing.T) {
	read, other := 0, 0
	for seed := range int64(3000) {
		chance := rand.New(rand.NewSource(seed))
		source, args := anyRun(seed % 300)
		turned := turnedByte(chance, source)
		got := sourceRuns(t, turned, "m", args, 200)
		if _, _, ok := impl.ReadSource(turned); !ok {
			continue
		}
		read++
		if !sameRan(got, impl.RunSource(source, "m", args, 200)) {
			other++
		}
	}
	if read < 500 || other < 50 {
		t.Errorf("%d of the turned sources are read, and %d do another thing", read, other)
	}
}

func TestRunsLeaveTheLists(t *testing.T) {
	// The Kids lie in one list, the nodes in another one, with room behind them.
	kids := []int{0, 1, 2, 7, 7}
	room := []impl.Node{{Kind: impl.NdName, Text: "print"}, {Kind: impl.NdNum, Text: "1"}, {Kind: impl.NdName, Text: "a"}, {Kind: impl.NdChain, Text: "+", Kids: kids[1:3]}, {Kind: impl.NdCall, Kids: []int{0, 3}}, {Kind: impl.NdReturn, Kids: []int{4}}, {Kind: impl.NdBlock, Kids: []int{5}}, {Kind: impl.NdName, Text: "a"}, {Kind: impl.NdMethod, Text: "m", Kids: []int{7, 6}}, {Kind: impl.NdFile, Kids: []int{8}}, {Kind: 99, Text: "spare"}}
	want, wantKids := cloneTree(room), slices.Clone(kids)
	args := []int{4, 5, 6}
	for size := range len(room) + 1 {
		got := runIs(t, room[:size], "m", args[:1], 9)
		if size == len(room)-1 && !sameRan(got, answers(0, 1, 5)) {
			t.Errorf("the method does %v", got)
		}
		// What is answered is nobody else's.
		out := got.Out[:cap(got.Out)]
		for i := range out {
			out[i] = -7
		}
	}
	if !slices.Equal(kids, wantKids) || !impl.SameTree(room, want) || !slices.Equal(args, []int{4, 5, 6}) {
		t.Errorf("the lists are %v, %v, %v behind the calls", room, kids, args)
	}
	long := fromTo(1, mostKids-1)
	first, second := impl.RunSource("m(a, b, c) { print(a); print(b); print(c); }", "m", long[:3], 9), impl.RunSource("m(a, b, c) { print(a); print(b); print(c); }", "m", long[:3], 9)
	first.Out[0], long[1] = -7, -7
	if !slices.Equal(second.Out, []int{1, 2, 3}) || !slices.Equal(first.Out, []int{-7, 2, 3}) || long[0] != 1 {
		t.Errorf("answers share their memory: %v, %v, %v", first, second, long)
	}
}

func TestRunsKeepNothing(t *testing.T) {
	asks := []func() string{}
	whole, _ := wholeTree()
	loop := readTree(t, "m(a) { while (a) { print(a); a = a - 1; } f(a); } f(a) { f(a + 1); }")
	for _, nodes := range [][]impl.Node{nil, whole, loop, nested(11), wideTree(impl.MaxNodes), anyShared(3), {{}}} {
		for _, steps := range []int{-1, 0, 5, 80, mostRunSteps} {
			asks = append(asks, func() string {
				return fmt.Sprint(impl.MethodAt(nodes, "m"), impl.RunMethod(nodes, "m", []int{9}, steps), impl.RunMethod(nodes, "f", nil, steps))
			})
		}
	}
	for seed := range int64(20) {
		source, args := anyRun(seed)
		asks = append(asks, func() string { return fmt.Sprint(impl.RunSource(source, "m", args, 200)) })
	}
	for _, list := range [][]impl.Cell{nil, cellsOf("a", "b", "a")} {
		asks = append(asks, func() string { return fmt.Sprint(impl.CellPut(list, "b", 7)) })
	}
	keepNothing(t, asks)
}
