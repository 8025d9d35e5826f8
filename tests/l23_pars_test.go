package tests

import (
	"fmt"
	"math"
	"math/rand"
	"slices"
	"strings"
	"testing"

	"loop.example/g00459/impl"
)

var levelsOfKinds = map[int]int{
	impl.NdName: 8, impl.NdNum: 8, impl.NdText: 8, impl.NdList: 8, impl.NdCall: 8, impl.NdDot: 8, impl.NdPar: 8,
	impl.NdPick: 1, impl.NdFn: 1, impl.NdCascade: 0,
}

var levelsOfMarks = map[string]int{"||": 2, "&&": 3, "==": 4, "<": 5, "+": 6, "-": 6, "*": 7}

// marksOfChains are all of them, in an order that is always the same.
var marksOfChains = []string{"||", "&&", "==", "<", "+", "-", "*"}

func levelByWord(nodes []impl.Node, k int) int {
	if impl.DeepOf(nodes, k) == 0 {
		return -1
	}
	if nodes[k].Kind == impl.NdChain {
		return levelsOfMarks[nodes[k].Text]
	}
	if level, told := levelsOfKinds[nodes[k].Kind]; told {
		return level
	}
	return -1
}

func wantsByWord(nodes []impl.Node, k int, i int) bool {
	if impl.DeepOf(nodes, k) == 0 || i < 0 || i >= len(nodes[k].Kids) {
		return false
	}
	node, kid, level := nodes[k], nodes[nodes[k].Kids[i]], levelByWord(nodes, nodes[k].Kids[i])
	switch node.Kind {
	case impl.NdCall:
		return i == 0 && level < 8
	case impl.NdDot:
		return level < 8
	case impl.NdChain:
		if both := node.Text + kid.Text; i == 0 && kid.Kind == impl.NdChain && (both == "+-" || both == "-+") {
			return false
		}
		return level <= levelsOfMarks[node.Text]
	case impl.NdPick:
		return level < 1 || i == 0 && level < 2
	case impl.NdFn:
		return i == len(node.Kids)-1 && level < 1
	case impl.NdCascade:
		return i == 0 && level < 1
	}
	return false
}

func bareByWord(nodes []impl.Node, k int) int {
	if impl.DeepOf(nodes, k) == 0 || nodes[k].Kind != impl.NdPar {
		return k
	}
	return bareByWord(nodes, nodes[k].Kids[0])
}

// inOrderOfEnds has the nodes under the last one, each behind what it has.
func inOrderOfEnds(nodes []impl.Node) []impl.Node {
	m := &treeMaker{}
	var down func(k int) int
	down = func(k int) int {
		node, kids := nodes[k], []int{}
		for _, kid := range node.Kids {
			kids = append(kids, down(kid))
		}
		place := m.add(node.Kind, node.Text, kids...)
		m.nodes[place].Blank = node.Blank
		return place
	}
	down(len(nodes) - 1)
	return m.nodes
}

// withKid has another kid in the place of one.
func withKid(nodes []impl.Node, k int, i int, kid int) []impl.Node {
	list := cloneTree(nodes)
	list[k].Kids[i] = kid
	return list
}

// sparedByWord puts what is bare in the place of each NdPar that need not be, and leaves out what is nobody's then.
func sparedByWord(nodes []impl.Node) []impl.Node {
	if !impl.TreeOk(nodes) {
		return nodes
	}
	list := nodes
	for k := len(nodes) - 1; k >= 0; k-- {
		for i, kid := range nodes[k].Kids {
			if nodes[kid].Kind != impl.NdPar {
				continue
			}
			without := withKid(list, k, i, bareByWord(nodes, kid))
			if nodes[k].Kind == impl.NdPar || !wantsByWord(without, k, i) {
				list = without
			}
		}
	}
	return inOrderOfEnds(list)
}

func parsByWord(nodes []impl.Node) int {
	count := 0
	for _, node := range nodes {
		if node.Kind == impl.NdPar {
			count++
		}
	}
	return count
}

// endsInArrow asks for an arrow that would take in what stands behind a value.
func endsInArrow(nodes []impl.Node, k int) bool {
	node := nodes[k]
	return node.Kind == impl.NdFn || node.Kind == impl.NdChain && endsInArrow(nodes, node.Kids[len(node.Kids)-1])
}

// hasArrowInTheWay asks for an arrow at the end of a value with more of a chain or a pick behind it: it is read in another way than it stands.
func hasArrowInTheWay(nodes []impl.Node) bool {
	return slices.ContainsFunc(nodes, func(node impl.Node) bool {
		ahead := []int{}
		switch node.Kind {
		case impl.NdChain:
			ahead = node.Kids[:len(node.Kids)-1]
		case impl.NdPick:
			ahead = node.Kids[:1]
		}
		return slices.ContainsFunc(ahead, func(kid int) bool { return endsInArrow(nodes, kid) })
	})
}

// bracketsAre holds what is told of each place, and of some that are none.
func bracketsAre(t *testing.T, nodes []impl.Node) {
	t.Helper()
	for _, k := range append(farFrom(len(nodes)), fromTo(0, len(nodes)-1)...) {
		if got, want := impl.LevelOf(nodes, k), levelByWord(nodes, k); got != want {
			t.Fatalf("LevelOf(%v, %d) is %d; want %d", nodes, k, got, want)
		}
		if got, want := impl.Bare(nodes, k), bareByWord(nodes, k); got != want {
			t.Fatalf("Bare(%v, %d) is %d; want %d", nodes, k, got, want)
		}
		count := mostKids
		if amongst(k, 0, len(nodes)-1) {
			count = len(nodes[k].Kids)
		}
		for _, i := range append(farFrom(count), fromTo(0, count-1)...) {
			if got, want := impl.WantsPar(nodes, k, i), wantsByWord(nodes, k, i); got != want {
				t.Fatalf("WantsPar(%v, %d, %d) is %v; want %v", nodes, k, i, got, want)
			}
		}
	}
	if got, want := impl.ParsIn(nodes), parsByWord(nodes); got != want {
		t.Fatalf("ParsIn(%v) is %d; want %d", nodes, got, want)
	}
}

// withoutBrackets has the Texts of the signs of a tree but `(` and `)`.
func withoutBrackets(nodes []impl.Node) []string {
	return slices.DeleteFunc(signsByForm(nodes, len(nodes)-1), func(text string) bool { return text == "(" || text == ")" })
}

// isSpared holds Spared against the chapter's words, and of a right tree what the issue says of it.
func isSpared(t *testing.T, nodes []impl.Node) []impl.Node {
	t.Helper()
	held := cloneTree(nodes)
	got, want := impl.Spared(nodes), sparedByWord(nodes)
	if !impl.SameTree(got, want) || !impl.SameTree(nodes, held) {
		t.Fatalf("Spared(%v) is\n%v; want\n%v", held, got, want)
	}
	if !impl.TreeOk(nodes) {
		if !impl.SameTree(got, nodes) {
			t.Fatalf("Spared(%v), which is no right tree, is %v", nodes, got)
		}
		return got
	}
	if !impl.TreeOk(got) || impl.ParsIn(got) > impl.ParsIn(nodes) || len(nodes)-len(got) != impl.ParsIn(nodes)-impl.ParsIn(got) {
		t.Fatalf("Spared(%v) is no right tree, or has lost or won others than NdPars: %v", nodes, got)
	}
	if !impl.SameTree(inOrderOfEnds(got), got) || !impl.SameTree(impl.Spared(got), got) {
		t.Fatalf("Spared(%v) is not in the order in which its nodes end, or not the same again: %v", nodes, got)
	}
	if !slices.Equal(withoutBrackets(got), withoutBrackets(nodes)) {
		t.Fatalf("Spared(%v) has other signs: %v", nodes, got)
	}
	for k, node := range got {
		for i, kid := range node.Kids {
			if got[kid].Kind == impl.NdPar && (node.Kind == impl.NdPar || !impl.WantsPar(withKid(got, k, i, impl.Bare(got, kid)), k, i)) {
				t.Fatalf("Spared(%v) keeps the NdPar %d of %v", nodes, kid, got)
			}
		}
	}
	return got
}

// sparedTextIs holds SparedText against the chapter's words, and promise 23: what is written is read as what Spared answers.
func sparedTextIs(t *testing.T, source string, width int, budget int) string {
	t.Helper()
	text, ok := impl.SparedText(source, width, budget)
	nodes, _, read := impl.ReadSource(source)
	if !read {
		if ok || text != "" {
			t.Fatalf("SparedText(%q, %d, %d), which is no source, is %q, %v", source, width, budget, text, ok)
		}
		return ""
	}
	spared := isSpared(t, nodes)
	want := impl.JoinLines(fileWrittenByWord(spared, width, budget).Lines)
	if text != want || !ok {
		t.Fatalf("SparedText(%q, %d, %d) is\n%s\n%v; want\n%s", source, width, budget, text, ok, want)
	}
	// What is written may be too long for a source; an arrow in the way takes in more than it did.
	if len(text) <= impl.MaxSource && !hasArrowInTheWay(spared) {
		if again := readTree(t, text); !impl.SameTree(again, spared) {
			t.Fatalf("SparedText(%q, %d, %d) is\n%s\nwhich is read as %v; want %v", source, width, budget, text, again, spared)
		}
	}
	return text
}

// sparesTo holds a source and what becomes of it by hand; that has no more to spare.
func sparesTo(t *testing.T, source string, want string) {
	t.Helper()
	if got := sparedTextIs(t, source, wide, enough); got != want {
		t.Errorf("SparedText of %q is\n%s; want\n%s", source, got, want)
	}
	if !impl.SameTree(impl.Spared(readTree(t, source)), readTree(t, want)) {
		t.Errorf("Spared of %q is not what is read of %q", source, want)
	}
	if got := sparedTextIs(t, want, wide, enough); got != want {
		t.Errorf("SparedText of %q is\n%s", want, got)
	}
}

func valueSparesTo(t *testing.T, value string, want string) {
	t.Helper()
	sparesTo(t, "var v = "+value+";", "var v = "+want+";\n")
}

func TestBracketsOfTheDocument(t *testing.T) {
	sparesTo(t, "main() { f((a) + ((b + c)) * (d)); }", "main() {\n  f(a + (b + c) * d);\n}\n")
	nodes, k := valueIn(t, "(b + c) * d")
	if impl.LevelOf(nodes, k) != 7 || impl.WantsPar(nodes, k, 0) || impl.ParsIn(nodes) != 1 || impl.Bare(nodes, 3) != 2 || impl.LevelOf(nodes, 2) != 6 || impl.LevelOf(nodes, 3) != 8 {
		t.Error("brackets that must be")
	}
}

// leveledValues has values of each level; none of them has brackets.
var leveledValues = []struct {
	level int
	text  string
}{
	{0, "x..y()"}, {0, "x..y()..z(w)"}, {1, "x ? y : z"}, {1, "() => x"}, {1, "(x) => y"}, {1, "(x, y) => z ? w : x"},
	{2, "x || y"}, {3, "x && y"}, {4, "x == y"}, {5, "x < y"}, {6, "x + y"}, {6, "x - y"}, {7, "x * y"}, {2, "x || y || z"}, {6, "x + y + z"}, {6, "x - y - z"}, {7, "x * y * z"},
	{8, "x"}, {8, "7"}, {8, "'t'"}, {8, "[]"}, {8, "[x, y]"}, {8, "x()"}, {8, "x(y, z)"}, {8, "x.y"}, {8, "x.y(z).w"},
}

// placesOfValues has values with a `@` in the place of one of theirs, and how tight that must be at least; loose is the mark of chains that may stand there nevertheless.
var placesOfValues = []struct {
	least int
	text  string
	loose string
}{
	{8, "@()", ""}, {8, "@(a)", ""}, {8, "@(a, b).c", ""}, {8, "@.a", ""}, {8, "@.a.b()", ""}, {0, "f(@)", ""}, {0, "f(a, @)", ""}, {0, "f(a, @, b)(c)", ""}, {0, "f.g(@)", ""},
	{0, "@", ""}, {0, "[@]", ""}, {0, "[a, @]", ""}, {0, "[@, a, b]", ""}, {0, "f([@])", ""},
	{3, "@ || a", ""}, {3, "a || @", ""}, {3, "a || @ || b", ""}, {3, "@ || a || b", ""}, {4, "@ && a", ""}, {4, "a && @", ""}, {4, "a && @ && b", ""}, {5, "@ == a", ""}, {5, "a == @", ""}, {5, "a == b == @", ""},
	{6, "@ < a", ""}, {6, "a < @", ""}, {6, "a < @ < b", ""}, {7, "@ + a", "-"}, {7, "@ + a + b", "-"}, {7, "a + @", ""}, {7, "a + @ + b", ""}, {7, "a + b + @", ""}, {7, "@ - a", "+"}, {7, "@ - a - b", "+"}, {7, "a - @", ""}, {7, "a - @ - b", ""},
	{8, "@ * a", ""}, {8, "a * @", ""}, {8, "a * @ * b", ""}, {8, "@ * a * b", ""},
	{2, "@ ? a : b", ""}, {1, "a ? @ : b", ""}, {1, "a ? b : @", ""}, {1, "() => @", ""}, {1, "(a) => @", ""}, {1, "(a, b) => @", ""}, {1, "@..a()", ""}, {1, "@..a()..b(c)", ""}, {0, "a..b(@)", ""}, {0, "a..b()..c(d, @)", ""},
}

// ownerOf tells which node has a kid, and as which one.
func ownerOf(nodes []impl.Node, kid int) (int, int) {
	for k, node := range nodes {
		if i := slices.Index(node.Kids, kid); i >= 0 {
			return k, i
		}
	}
	return -1, -1
}

func TestBracketsOfEachLevelInEachPlace(t *testing.T) {
	for _, place := range placesOfValues {
		for _, value := range leveledValues {
			must := value.level < place.least && (place.loose == "" || !strings.Contains(value.text, place.loose))
			want, inPlace := value.text, func(text string) string { return strings.Replace(place.text, "@", text, 1) }
			if must {
				want = "(" + want + ")"
			}
			for pars := 1; pars < 4; pars++ {
				valueSparesTo(t, inPlace(inOneAnother("(", value.text, ")", pars)), inPlace(want))
			}
			nodes, _ := valueIn(t, inPlace("("+value.text+")"))
			par := slices.IndexFunc(nodes, func(node impl.Node) bool { return node.Kind == impl.NdPar })
			k, i := ownerOf(nodes, par)
			bare := nodes[par].Kids[0]
			if impl.WantsPar(nodes, k, i) || impl.WantsPar(nodes, par, 0) || impl.WantsPar(withKid(nodes, k, i, bare), k, i) != must {
				t.Errorf("WantsPar of %s in %s is not %v, or true of what is in brackets", value.text, place.text, must)
			}
			if impl.LevelOf(nodes, bare) != value.level || impl.LevelOf(nodes, par) != 8 || impl.Bare(nodes, par) != bare || impl.Bare(nodes, bare) != bare {
				t.Errorf("the level of %s is %d; want %d", value.text, impl.LevelOf(nodes, bare), value.level)
			}
		}
	}
}

func TestBracketsOfStatements(t *testing.T) {
	for _, value := range leveledValues {
		for pars := 1; pars < 4; pars++ {
			text := inOneAnother("(", value.text, ")", pars)
			sparesTo(t, "class C{var a="+text+";}", "class C {\n  var a = "+value.text+";\n}\n")
			for before, after := range map[string]string{
				"var a=@;": "var a = @;", "a=@;": "a = @;", "@;": "@;", "return@;": "return @;",
				"if(@){}": "if (@) {\n  }", "if(@){}else{}": "if (@) {\n  } else {\n  }", "while(@){}": "while (@) {\n  }",
			} {
				sparesTo(t, "m(){"+strings.Replace(before, "@", text, 1)+"}", "m() {\n  "+strings.Replace(after, "@", value.text, 1)+"\n}\n")
			}
		}
	}
}

func TestLevelsOfWhatIsNoValue(t *testing.T) {
	nodes, _ := wholeTree()
	for k, node := range nodes {
		if got := impl.LevelOf(nodes, k); (got == -1) != (node.Kind >= impl.NdVar) {
			t.Errorf("LevelOf the kind %d is %d", node.Kind, got)
		}
	}
	for _, mark := range marksOfChains {
		nodes, k := valueIn(t, "a "+mark+" b")
		if got := impl.LevelOf(nodes, k); got != levelsOfMarks[mark] {
			t.Errorf("LevelOf a chain of %s is %d", mark, got)
		}
	}
	bracketsAre(t, nodes)
}

// TestChainsInChains has each mark in each other one, as the first value (F) and as later ones (L).
func TestChainsInChains(t *testing.T) {
	for _, outer := range marksOfChains {
		for _, inner := range marksOfChains {
			chain := "a " + inner + " b"
			first, later := "("+chain+")", "("+chain+")"
			if levelsOfMarks[inner] > levelsOfMarks[outer] {
				first, later = chain, chain
			}
			if outer+inner == "+-" || outer+inner == "-+" {
				first = chain
			}
			for _, form := range []string{"F # c", "F # c # d", "c # L", "c # L # d", "c # L # d # e", "c # d # L", "F # L", "F # L # L"} {
				after := strings.NewReplacer("F", first, "L", later, "#", outer).Replace(form)
				for pars := 1; pars < 4; pars++ {
					chain := inOneAnother("(", chain, ")", pars)
					valueSparesTo(t, strings.NewReplacer("F", chain, "L", chain, "#", outer).Replace(form), after)
				}
			}
		}
	}
}

func TestBracketsInBrackets(t *testing.T) {
	for before, after := range map[string]string{
		"a": "a", "(a)": "a", "((a))": "a", "(((a)))": "a", "(((((((((((a)))))))))))": "a",
		"((a + ((b)))) * (((c)))":                     "(a + b) * c",
		"(((a * (b + (c * (d))))))":                   "a * (b + c * d)",
		"((((a * ((b + ((c)))))))) * d":               "(a * (b + c)) * d",
		"((a + b) + c) + d":                           "((a + b) + c) + d",
		"(((a + (b)) + ((c))) + (d))":                 "((a + b) + c) + d",
		"a + (b + (c + d))":                           "a + (b + (c + d))",
		"((a - b) + c) - d":                           "a - b + c - d",
		"((a + b) - c) + ((d - e))":                   "a + b - c + (d - e)",
		"a - (b + (c - d))":                           "a - (b + (c - d))",
		"(a - b) - c":                                 "(a - b) - c",
		"((a || b) && (c || d)) || (e && (f || g))":   "(a || b) && (c || d) || e && (f || g)",
		"((a < b) == (c < d)) < (e == f)":             "(a < b == c < d) < (e == f)",
		"((a).b).c(((d)))":                            "a.b.c(d)",
		"(((a)(b)))((c), ((d)))":                      "a(b)(c, d)",
		"(((((a) => ((b)))))((c)))":                   "((a) => b)(c)",
		"((1)).a":                                     "1.a",
		"('t').a((1))":                                "'t'.a(1)",
		"([(a), ((b))]).c":                            "[a, b].c",
		"[((a)), ((b..c((d)))), (((e ? (f) : (g))))]": "[a, b..c(d), e ? f : g]",
		"((a ? b : c) ? (d) : e)":                     "(a ? b : c) ? d : e",
		"(a ? (b ? c : d) : (e ? f : g))":             "a ? b ? c : d : e ? f : g",
		"((a..b())..c((d)))..e()":                     "((a..b())..c(d))..e()",
		"((a))..b((c))..d(((e)))":                     "a..b(c)..d(e)",
		"((a) => (b..c()))":                           "(a) => (b..c())",
		"((a) => ((b) => (c ? (d) : e)))..f()":        "(a) => (b) => c ? d : e..f()",
		"f(((a) => (b)), (() => ((c + d)))) + ((e))":  "f((a) => b, () => c + d) + e",
	} {
		valueSparesTo(t, before, after)
	}
}

// TestArrowsAtTheEndOfChains has arrows that stand without brackets as the last value of a chain: WantsPar knows the level of the whole value alone.
func TestArrowsAtTheEndOfChains(t *testing.T) {
	for before, after := range map[string]string{
		"(a + (b) => c) * d":       "(a + (b) => c) * d",
		"d + (a * (b) => c)":       "d + a * (b) => c",
		"f((a + (b) => c), d)":     "f(a + (b) => c, d)",
		"(a + (b) => c)..d()":      "a + (b) => c..d()",
		"p ? (a + (b) => c) : d":   "p ? a + (b) => c : d",
		"(d) => (a + (b) => c)":    "(d) => a + (b) => c",
		"a + ((b) => c)":           "a + ((b) => c)",
		"(a + ((b) => c)) == d":    "a + ((b) => c) == d",
		"(a + ((b) => c)) ? d : e": "a + ((b) => c) ? d : e",
	} {
		valueSparesTo(t, before, after)
	}
	for before, after := range map[string]string{
		"(a || (b) => c) ? d : e": "a || (b) => c ? d : e",
		"(a + (b) => c) - d":      "a + (b) => c - d",
		"(a * (b) => c) + d":      "a * (b) => c + d",
		"(a < b + (c) => d) == e": "a < b + (c) => d == e",
	} {
		if got := sparedTextIs(t, "var v="+before+";", wide, enough); got != "var v = "+after+";\n" {
			t.Errorf("SparedText of %q is %q", before, got)
		}
	}
}

func TestBareByHand(t *testing.T) {
	// var v = ((a + (b)))..f();
	nodes := nodesOf([]string{"name a", "name b", "par 1", "chain + 0 2", "par 3", "par 4", "name f", "call 6", "cascade 5 7", "var v 8", "file 9"})
	for k, want := range []int{0, 1, 1, 3, 3, 3, 6, 7, 8, 9, 10} {
		if got := impl.Bare(nodes, k); got != want {
			t.Errorf("Bare at %d is %d; want %d", k, got, want)
		}
	}
	for _, k := range farFrom(len(nodes)) {
		if got := impl.Bare(nodes, k); got != k {
			t.Errorf("Bare at %d is %d", k, got)
		}
	}
	// Behind a node that is wrong none has a depth.
	wrong := cloneTree(nodes)
	wrong[1].Text = "1"
	for k := range wrong {
		if got := impl.Bare(wrong, k); got != k {
			t.Errorf("Bare at %d, which has no depth, is %d", k, got)
		}
	}
	bracketsAre(t, nodes)
	bracketsAre(t, wrong)
	spared := isSpared(t, nodes)
	if !impl.SameTree(spared, nodesOf([]string{"name a", "name b", "chain + 0 1", "name f", "call 3", "cascade 2 4", "var v 5", "file 6"})) {
		t.Errorf("Spared is %v", spared)
	}
	if impl.ParsIn(nodes) != 3 || impl.ParsIn(wrong) != 3 || impl.ParsIn(spared) != 0 || impl.ParsIn(nodes[:5]) != 2 || impl.ParsIn(nil) != 0 {
		t.Error("ParsIn is another number")
	}
}

// TestSparedKeepsBlanksAndNotes has brackets in each statement, and all else stays.
func TestSparedKeepsBlanksAndNotes(t *testing.T) {
	sparesTo(t, "// (a)\nvar a=('(b)');\n\n\nclass C{\n\nvar d;\n\n// ((e))\nm(f,g){h=(f);\n\n(h)(i);// (j)\nif((h)){\n\n(k);}else{(l);\n\n(m);}}}",
		"// (a)\nvar a = '(b)';\n\nclass C {\n  var d;\n\n  // ((e))\n  m(f, g) {\n    h = f;\n\n    h(i);\n    // (j)\n    if (h) {\n      k;\n    } else {\n      l;\n\n      m;\n    }\n  }\n}\n")
	sparesTo(t, "", "")
	sparesTo(t, "// (a)\n", "// (a)\n")
	// Where ReadSource sets none, a Blank stays, too.
	nodes := nodesOf([]string{"name a", "par 0", "blank do 1", "blank note // n", "block 2 3", "blank method m 4", "file 5"})
	if spared := isSpared(t, nodes); !impl.SameTree(spared, nodesOf([]string{"name a", "blank do 0", "blank note // n", "block 1 2", "blank method m 3", "file 4"})) {
		t.Errorf("Spared is %v", spared)
	}
}

// TestSparedPutsNodesInOrder has nodes by hand in another order than that in which they end.
func TestSparedPutsNodesInOrder(t *testing.T) {
	for _, c := range []struct{ nodes, want []string }{
		{[]string{"name a", "name b", "chain + 1 0", "var v 2", "file 3"}, []string{"name b", "name a", "chain + 0 1", "var v 2", "file 3"}},
		{[]string{"var v", "note // n", "file 1 0"}, []string{"note // n", "var v", "file 0 1"}},
		{[]string{"block", "name x", "name a", "par 2", "if 3 0", "do 1", "block 5 4", "method m 6", "file 7"}, []string{"name x", "do 0", "name a", "block", "if 2 3", "block 1 4", "method m 5", "file 6"}},
		{[]string{"name a", "num 1", "chain - 0 1", "text 't'", "par 2", "par 4", "chain * 5 3", "name b", "par 7", "dot c 8", "list 9 6", "var v 10", "file 11"},
			[]string{"name b", "dot c 0", "name a", "num 1", "chain - 2 3", "par 4", "text 't'", "chain * 5 6", "list 1 7", "var v 8", "file 9"}},
	} {
		if got := isSpared(t, nodesOf(c.nodes)); !impl.SameTree(got, nodesOf(c.want)) {
			t.Errorf("Spared of %q is %v", c.nodes, got)
		}
	}
}

// bracketedWide has so many nodes, names in as many brackets as there are nodes for.
func bracketedWide(size int) []impl.Node {
	m, classes := &treeMaker{}, []int{}
	for len(m.nodes) < size-1 {
		vars := []int{}
		for range mostKids {
			left := size - 2 - len(m.nodes)
			if left == 1 {
				vars = append(vars, m.add(impl.NdVar, "v"))
			}
			if left < 2 {
				continue
			}
			value := m.name()
			for range min(left-2, 5) {
				value = m.add(impl.NdPar, "", value)
			}
			vars = append(vars, m.add(impl.NdVar, "v", value))
		}
		classes = append(classes, m.add(impl.NdClass, "C", vars...))
	}
	m.add(impl.NdFile, "", classes...)
	return m.nodes
}

func TestBracketsOfTheMostNodes(t *testing.T) {
	for _, size := range []int{1, 2, 3, 4, 9, 26, 299, 300, 301, 302} {
		nodes := bracketedWide(size)
		spared := isSpared(t, nodes)
		switch {
		case len(nodes) != size || impl.TreeOk(nodes) != (size <= impl.MaxNodes):
			t.Fatalf("a tree of %d nodes has %d, or is not right", size, len(nodes))
		case size > impl.MaxNodes && len(spared) != size:
			t.Errorf("a tree of too many nodes is spared to %d", len(spared))
		case size <= impl.MaxNodes && (impl.ParsIn(spared) != 0 || len(spared) != size-impl.ParsIn(nodes)):
			t.Errorf("a tree of %d nodes is spared to %d", size, len(spared))
		}
	}
	// A list that is too long for a tree has levels and brackets all the same.
	nodes := bracketedWide(2000)
	last := len(nodes) - 1
	if impl.LevelOf(nodes, 0) != 8 || impl.LevelOf(nodes, 5) != 8 || impl.LevelOf(nodes, 6) != -1 || impl.Bare(nodes, 5) != 0 || impl.WantsPar(nodes, last, 0) || impl.ParsIn(nodes) != parsByWord(nodes) {
		t.Error("brackets of more nodes than a tree may have")
	}
	for _, size := range []int{299, 300, 301} {
		sparedTextIs(t, wideSource(size), 80, 100)
	}
}

func TestBracketsOfTheDeepest(t *testing.T) {
	for pars := range 16 {
		nodes := nested(pars)
		bracketsAre(t, nodes)
		spared := isSpared(t, nodes)
		if isRight := pars+3 <= impl.MaxDeep; isRight != impl.SameTree(spared, nested(0)) && pars > 0 {
			t.Errorf("a name in %d brackets is spared to %v", pars, spared)
		}
		for k := 1; k <= pars; k++ {
			want := 0
			if k >= impl.MaxDeep {
				want = k
			}
			if got := impl.Bare(nodes, k); got != want {
				t.Errorf("Bare of a name in %d brackets is %d", k, got)
			}
		}
	}
	// Brackets that must be, each in the next one: there are three nodes more in one another each time, and two needless ones make the greatest depth.
	for count := 1; count <= 3; count++ {
		value := inOneAnother("(a + ", "b", ") * c", count)
		valueSparesTo(t, value, value)
		valueSparesTo(t, inOneAnother("(a + ", "((b))", ") * c", count), value)
		valueSparesTo(t, "(("+value+"))", value)
	}
	valueSparesTo(t, inOneAnother("(((a + ", "b", "))) * c", 2), "(a + (a + b) * c) * c")
	valueSparesTo(t, inOneAnother("(((((((((a + ", "b", "))))))))) * c", 1), "(a + b) * c")
	tooDeep := "var v = " + inOneAnother("(a + ", "(((b)))", ") * c", 3) + ";"
	isNotRead(t, tooDeep, 0)
	sparedTextIs(t, tooDeep, 80, enough)
	sparesTo(t, "class C{m(){if("+inOneAnother("(", "a", ")", 8)+"){"+inOneAnother("(", "b", ")", 5)+".c;}}}", "class C {\n  m() {\n    if (a) {\n      b.c;\n    }\n  }\n}\n")
}

func TestBracketsOfWrongTrees(t *testing.T) {
	for why, nodes := range wrongTrees() {
		if impl.TreeOk(nodes) {
			t.Fatalf("%s is right", why)
		}
		bracketsAre(t, nodes)
		isSpared(t, nodes)
		// With brackets around what is there, it is as wrong as it was.
		if last := len(nodes) - 1; last > 0 {
			list := slices.Insert(cloneTree(nodes), last, impl.Node{Kind: impl.NdPar, Kids: []int{0}})
			if !impl.TreeOk(list) {
				bracketsAre(t, list)
				isSpared(t, list)
			}
		}
	}
	for _, kid := range []int{math.MinInt, -1, 1, 2, math.MaxInt} {
		for kind := -1; kind <= impl.NdFile+1; kind++ {
			nodes := []impl.Node{{Kind: impl.NdName, Text: "a"}, {Kind: kind, Text: rightTexts[kind], Kids: []int{kid}}, {Kind: impl.NdFile, Kids: []int{0, 1}}}
			bracketsAre(t, nodes)
			isSpared(t, nodes)
			for _, k := range []int{1, 2} {
				if impl.LevelOf(nodes, k) != -1 || impl.Bare(nodes, k) != k || impl.WantsPar(nodes, k, 0) {
					t.Errorf("the node %d of %v has brackets", k, nodes)
				}
			}
		}
	}
}

// TestBracketsWithoutAFile has lists that are no trees, but whose nodes have a depth.
func TestBracketsWithoutAFile(t *testing.T) {
	nodes, _ := valueIn(t, "((a + b)) * (c)")
	for size := range nodes {
		bracketsAre(t, nodes[:size])
		if got := impl.Spared(nodes[:size]); !impl.SameTree(got, nodes[:size]) {
			t.Errorf("Spared of the first %d nodes is %v", size, got)
		}
	}
	twice := append(cloneTree(nodes), impl.Node{Kind: impl.NdFile, Kids: nodes[len(nodes)-1].Kids})
	bracketsAre(t, twice)
	isSpared(t, twice)
}

func TestSparedTextOfNoSources(t *testing.T) {
	for _, source := range []string{
		"$", "\x00", "\xff", "var", "var a", "var a = (b;", "var a = b);", "var a = ();", "var a = (());", "var a = (b c);", "var a = (b,c);", "m() { (a) = b; }", "m() { (a..b)(); }", "m((a)) {}", "(a);", "var a = ((b) => c;", "var a = b..(c)();", "var a = (return);",
		"var a = '(';)", blanks(impl.MaxSource + 1), "var v = " + inOneAnother("(", "a", ")", 12) + ";", wideSource(impl.MaxNodes + 1),
	} {
		for _, width := range []int{-1, 0, 10, 80} {
			if text, ok := impl.SparedText(source, width, 100); ok || text != "" {
				t.Errorf("SparedText(%q, %d, 100) is %q, %v", source, width, text, ok)
			}
		}
	}
	for _, source := range []string{"", " ", "\n", blanks(impl.MaxSource)} {
		if text, ok := impl.SparedText(source, 80, 100); !ok || text != "" {
			t.Errorf("SparedText(%q, 80, 100) is %q, %v", source, text, ok)
		}
	}
}

func TestSparedTextAtTheMostBytes(t *testing.T) {
	for size := impl.MaxSource - 3; size <= impl.MaxSource+3; size++ {
		source := "var v = (a);"
		source += blanks(size - len(source))
		text, ok := impl.SparedText(source, 80, 100)
		if want := size <= impl.MaxSource; ok != want || want != (text == "var v = a;\n") {
			t.Errorf("SparedText of %d bytes is %q, %v", size, text, ok)
		}
	}
}

// TestSparedTextAtOddBounds has bounds that Format would refuse: the chapter has none.
func TestSparedTextAtOddBounds(t *testing.T) {
	for _, source := range []string{"var v = ((a + b)) * (f((c), [d, (e)]));", "m() { (a); return ((b ? c : d)); }"} {
		for _, width := range append([]int{7, 9, 10, 11, 15, 20, 200, 201}, oddWidths...) {
			for _, budget := range append([]int{100000, 100001}, oddBudgets...) {
				sparedTextIs(t, source, width, budget)
			}
		}
	}
	if text, ok := impl.SparedText("var v = (aaaa + bbbb);", 8, enough); !ok || text != "var v =\n    aaaa +\n    bbbb;\n" {
		t.Errorf("with a width of 8 it is %q, %v", text, ok)
	}
}

func TestSparedTextOfManySources(t *testing.T) {
	for _, source := range manySources() {
		for _, width := range []int{leastWidth, 20, 40, 80, widest} {
			for _, budget := range []int{0, 10, enough} {
				sparedTextIs(t, source, width, budget)
			}
		}
	}
}

// withMarks gives each chain a mark by chance.
func withMarks(chance *rand.Rand, nodes []impl.Node) []impl.Node {
	list := cloneTree(nodes)
	for k := range list {
		if list[k].Kind == impl.NdChain {
			list[k].Text = marksOfChains[chance.Intn(len(marksOfChains))]
		}
	}
	return list
}

// mayHavePar asks whether any value may stand there: names of an arrow or a method, and the calls of a cascade and what they call, are no others.
func mayHavePar(nodes []impl.Node, k int, i int) bool {
	node, kid := nodes[k], nodes[nodes[k].Kids[i]]
	isValue := kid.Kind >= impl.NdName && kid.Kind <= impl.NdPar
	switch owner, at := ownerOf(nodes, k); node.Kind {
	case impl.NdFn:
		return i == len(node.Kids)-1
	case impl.NdMethod:
		return false
	case impl.NdCascade:
		return i == 0
	case impl.NdCall:
		return i > 0 || owner < 0 || nodes[owner].Kind != impl.NdCascade || at == 0
	}
	return isValue
}

// inPars puts each kid into as many NdPars as are told; the tree may be none that is right then.
func inPars(nodes []impl.Node, count func(k int, i int) int) []impl.Node {
	m := &treeMaker{}
	var down func(k int) int
	down = func(k int) int {
		kids := []int{}
		for i, kid := range nodes[k].Kids {
			place := down(kid)
			for range count(k, i) {
				place = m.add(impl.NdPar, "", place)
			}
			kids = append(kids, place)
		}
		place := m.add(nodes[k].Kind, nodes[k].Text, kids...)
		m.nodes[place].Blank = nodes[k].Blank
		return place
	}
	down(len(nodes) - 1)
	return m.nodes
}

// withParsByChance has needless brackets and others.
func withParsByChance(chance *rand.Rand, nodes []impl.Node) []impl.Node {
	return inPars(nodes, func(k int, i int) int {
		if !mayHavePar(nodes, k, i) {
			return 0
		}
		return max(0, chance.Intn(8)-5)
	})
}

// withParsThatMustBe has brackets where WantsPar says so.
func withParsThatMustBe(nodes []impl.Node) []impl.Node {
	return inPars(nodes, func(k int, i int) int {
		if wantsByWord(nodes, k, i) {
			return 1
		}
		return 0
	})
}

// readAgain reads a tree from its signs, without empty lines.
func readAgain(nodes []impl.Node) ([]impl.Node, bool) {
	list, _, ok := impl.ReadSource(impl.Flat(impl.SignsIn(nodes)))
	return list, ok
}

// eachParMustBe takes out each NdPar: without it the tree is not read as the same. Around an arrow that ends a chain it would be, where nothing stands behind.
func eachParMustBe(t *testing.T, nodes []impl.Node) int {
	t.Helper()
	asked := 0
	for par, node := range nodes {
		k, i := ownerOf(nodes, par)
		if node.Kind != impl.NdPar || nodes[k].Kind == impl.NdChain && nodes[node.Kids[0]].Kind == impl.NdFn {
			continue
		}
		less := inOrderOfEnds(withKid(nodes, k, i, node.Kids[0]))
		if again, ok := readAgain(less); ok && impl.SameTree(again, withoutBlank(less)) {
			t.Fatalf("without the brackets at %d %v is read as the same", par, nodes)
		}
		asked++
	}
	return asked
}

// TestBracketsOfAnyTree has, of trees by chance, one with the brackets that must be, and needless ones around them: these alone go, and it is read as it stands.
func TestBracketsOfAnyTree(t *testing.T) {
	right, went, stayed := 0, 0, 0
	for seed := range int64(1200) {
		chance := rand.New(rand.NewSource(seed))
		nodes := withMarks(chance, anyTree(seed))
		isSpared(t, nodes)
		least := isSpared(t, withParsThatMustBe(nodes))
		more := withParsByChance(chance, least)
		isSpared(t, more)
		if !impl.TreeOk(least) {
			continue
		}
		if again, ok := readAgain(least); !ok || !impl.SameTree(again, withoutBlank(least)) {
			t.Fatalf("%v is read as %v, %v", least, again, ok)
		}
		stayed += eachParMustBe(t, least)
		if !impl.TreeOk(more) {
			continue
		}
		right++
		went += impl.ParsIn(more) - impl.ParsIn(least)
		if got := impl.Spared(more); !impl.SameTree(got, least) {
			t.Fatalf("Spared(%v) is\n%v; want\n%v", more, got, least)
		}
	}
	if right < 1000 || went < 3000 || stayed < 600 {
		t.Errorf("of %d trees %d brackets went, and %d must be", right, went, stayed)
	}
}

func TestBracketsOfAnySource(t *testing.T) {
	read, went := 0, 0
	for seed := range int64(400) {
		chance := rand.New(rand.NewSource(seed))
		width := []int{leastWidth, 20, 40, 80, widest}[chance.Intn(5)]
		m := anySource(seed)
		sparedTextIs(t, m.out.String(), width, 100)
		bracketsAre(t, m.nodes)
		more := withParsByChance(chance, m.nodes)
		source := impl.Flat(impl.SignsIn(more))
		sparedTextIs(t, source, width, 100)
		nodes, _, ok := impl.ReadSource(source)
		if !ok || !impl.SameTree(nodes, withoutBlank(more)) {
			continue
		}
		read++
		went += impl.ParsIn(nodes) - impl.ParsIn(impl.Spared(nodes))
	}
	if read < 150 || went < 600 {
		t.Errorf("%d sources with more brackets are read, and %d brackets went", read, went)
	}
}

func TestBracketsOfTurnedTrees(t *testing.T) {
	rights := 0
	for seed := range int64(1000) {
		chance := rand.New(rand.NewSource(seed))
		nodes := withParsByChance(chance, withMarks(chance, anyTree(seed)))
		turnOneThing(chance, nodes)
		bracketsAre(t, nodes)
		isSpared(t, nodes)
		if impl.TreeOk(nodes) {
			rights++
		}
	}
	if rights < 100 || rights > 900 {
		t.Errorf("%d of the turned trees are right", rights)
	}
}

func TestBracketsOfNodesOfSeveral(t *testing.T) {
	for seed := range int64(500) {
		nodes := withMarks(rand.New(rand.NewSource(seed)), anyShared(seed))
		bracketsAre(t, nodes)
		isSpared(t, nodes)
	}
}

func TestSparedTextOfTurnedSources(t *testing.T) {
	read := 0
	sources := byChance(60)
	for seed := range int64(900) {
		source := turnedByte(rand.New(rand.NewSource(seed)), sources[seed%60])
		sparedTextIs(t, source, 40, 10)
		if _, _, ok := impl.ReadSource(source); ok {
			read++
		}
	}
	if read < 200 || read > 800 {
		t.Errorf("%d of the turned sources are read", read)
	}
}

func TestSparedIsNewMemory(t *testing.T) {
	const source = "var all = ((first + second)) * ('text');\nclass Box { m(item) { (item).size; // a note\n } }"
	right := readTree(t, source)
	for _, nodes := range [][]impl.Node{right, right[:len(right)-1], readTree(t, "var all = first;")} {
		held, handed, texts := cloneTree(nodes), []string{}, []string{}
		for _, node := range nodes {
			handed = append(handed, node.Text)
		}
		list := impl.Spared(nodes)
		for k, node := range list {
			texts = append(texts, node.Text)
			room := node.Kids[:cap(node.Kids)]
			for i := range room {
				room[i] = -7
			}
			list[k].Text = "turned"
		}
		isNewMemory(t, "Spared", texts, handed)
		for _, node := range list {
			if slices.ContainsFunc(node.Kids, func(kid int) bool { return kid != -7 }) {
				t.Error("lists of one answer share their room")
			}
		}
		if !impl.SameTree(nodes, held) {
			t.Error("an answer that was changed changes the nodes")
		}
	}
	text, _ := impl.SparedText(source, 80, 100)
	isNewMemory(t, "SparedText", []string{text}, []string{source})
}

func TestBracketsLeaveTheLists(t *testing.T) {
	// The Kids lie in one list, the nodes in another one, with room behind them.
	kids := []int{0, 1, 7, 7, 7}
	room := []impl.Node{{Kind: impl.NdName, Text: "a"}, {Kind: impl.NdNum, Text: "1"}, {Kind: impl.NdChain, Text: "*", Kids: kids[:2]}, {Kind: impl.NdPar, Kids: []int{2}}, {Kind: impl.NdVar, Text: "v", Kids: []int{3}}, {Kind: impl.NdFile, Kids: []int{4}}, {Kind: 99, Text: "spare"}}
	want, wantKids := cloneTree(room), slices.Clone(kids)
	for range 2 {
		for size := range len(room) + 1 {
			bracketsAre(t, room[:size])
			isSpared(t, room[:size])
		}
	}
	if !slices.Equal(kids, wantKids) || !impl.SameTree(room, want) {
		t.Errorf("a list is %v, %v behind its calls; want %v, %v", room, kids, want, wantKids)
	}
}

func TestBracketsKeepNothing(t *testing.T) {
	asks := []func() string{}
	whole, _ := wholeTree()
	deep, _ := valueIn(t, "((((a + b)))) * ((c))")
	for _, nodes := range [][]impl.Node{nil, whole, deep, nested(11), nested(12), bracketedWide(impl.MaxNodes), bracketedWide(impl.MaxNodes + 1), anyShared(3), {{}}} {
		for _, k := range []int{-1, 0, 5, len(nodes) - 1, len(nodes)} {
			asks = append(asks, func() string {
				return fmt.Sprint(impl.LevelOf(nodes, k), impl.WantsPar(nodes, k, 0), impl.Bare(nodes, k), impl.Spared(nodes), impl.ParsIn(nodes))
			})
		}
	}
	for _, source := range []string{"", "$", "var v = ((a + b)) * (c);", pointSource} {
		asks = append(asks, func() string { return fmt.Sprint(impl.SparedText(source, 40, 100)) })
	}
	keepNothing(t, asks)
}
