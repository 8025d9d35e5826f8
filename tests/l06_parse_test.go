package tests

import (
	"slices"
	"strconv"
	"strings"
	"testing"

	"loop.example/g00459/impl"
)

// kindWords has the kinds by the words that nodes are told with here; those with a Text have it behind the word.
var kindWords = map[string]int{
	"name": impl.NdName, "num": impl.NdNum, "text": impl.NdText, "list": impl.NdList, "call": impl.NdCall, "dot": impl.NdDot, "chain": impl.NdChain, "pick": impl.NdPick,
	"fn": impl.NdFn, "cascade": impl.NdCascade, "par": impl.NdPar, "var": impl.NdVar, "set": impl.NdSet, "do": impl.NdDo, "return": impl.NdReturn, "if": impl.NdIf,
	"while": impl.NdWhile, "block": impl.NdBlock, "note": impl.NdNote, "method": impl.NdMethod, "class": impl.NdClass, "file": impl.NdFile,
}

// nodeOf makes a node of a line: a word of its kind, its Text, and its Kids; `blank` stands ahead of one that has Blank.
func nodeOf(line string) impl.Node {
	line, blank := strings.CutPrefix(line, "blank ")
	word, rest, _ := strings.Cut(line, " ")
	node := impl.Node{Kind: kindWords[word], Blank: blank}
	if node.Kind == 0 {
		panic("no kind: " + line)
	}
	if word == "note" {
		node.Text = rest
		return node
	}
	parts := strings.Fields(rest)
	if rightTexts[node.Kind] != "" {
		node.Text, parts = parts[0], parts[1:]
	}
	for _, part := range parts {
		kid, err := strconv.Atoi(part)
		if err != nil {
			panic(err)
		}
		node.Kids = append(node.Kids, kid)
	}
	return node
}

func nodesOf(lines []string) []impl.Node {
	nodes := []impl.Node{}
	for _, line := range lines {
		nodes = append(nodes, nodeOf(line))
	}
	return nodes
}

// withoutBlank is for trees of sources that are the same but for their empty lines.
func withoutBlank(nodes []impl.Node) []impl.Node {
	list := cloneTree(nodes)
	for k := range list {
		list[k].Blank = false
	}
	return list
}

// readTree reads a source that is right, and holds promise 6: its tree is right, and is read alike from its signs.
func readTree(t *testing.T, source string) []impl.Node {
	t.Helper()
	nodes, at, ok := impl.ReadSource(source)
	if at != 0 || !ok {
		t.Fatalf("ReadSource(%q) refuses at %d, %v", source, at, ok)
	}
	if !impl.TreeOk(nodes) {
		t.Fatalf("ReadSource(%q) tells a tree that is not right: %v", source, nodes)
	}
	flat := impl.Flat(isRead(t, source))
	again, at, ok := impl.ReadSource(flat)
	if len(flat) <= impl.MaxSource && (at != 0 || !ok || !impl.SameTree(withoutBlank(nodes), again)) {
		t.Fatalf("ReadSource(%q) is %v, %d, %v; of the source that it is the Flat of, %v", flat, again, at, ok, nodes)
	}
	return nodes
}

func hasNodes(t *testing.T, source string, want ...string) {
	t.Helper()
	if nodes := readTree(t, source); !impl.SameTree(nodes, nodesOf(want)) {
		t.Errorf("ReadSource(%q) is\n%v; want\n%v", source, nodes, nodesOf(want))
	}
}

// hasValue is for the nodes of a value alone, the last of which it is.
func hasValue(t *testing.T, value string, want ...string) {
	t.Helper()
	last := len(want) - 1
	hasNodes(t, "var v = "+value+";", append(slices.Clone(want), "var v "+strconv.Itoa(last), "file "+strconv.Itoa(last+1))...)
}

// hasSteps is for the nodes of statements in a method; steps has the places of the statements among them.
func hasSteps(t *testing.T, body string, steps string, want ...string) {
	t.Helper()
	block := len(want)
	hasNodes(t, "m() {"+body+"}", append(slices.Clone(want), "block "+steps, "method m "+strconv.Itoa(block), "file "+strconv.Itoa(block+1))...)
}

func isNotRead(t *testing.T, source string, want int) {
	t.Helper()
	nodes, at, ok := impl.ReadSource(source)
	if len(nodes) != 0 || at != want || ok {
		t.Errorf("ReadSource(%q) = %v, %d, %v; want nothing, %d, false", source, nodes, at, ok, want)
	}
}

// faultIn has `@`, which is no sign, ahead of the sign that may not stand there, or at the end.
func faultIn(t *testing.T, source string) {
	t.Helper()
	at := strings.Index(source, "@")
	if at < 0 || strings.Count(source, "@") != 1 {
		t.Fatalf("%q has not one fault", source)
	}
	isNotRead(t, source[:at]+source[at+1:], at)
}

func faultsIn(t *testing.T, ahead string, behind string, sources ...string) {
	t.Helper()
	for _, source := range sources {
		faultIn(t, ahead+source+behind)
	}
}

func TestReadMembers(t *testing.T) {
	hasNodes(t, "", "file")
	hasNodes(t, " \n\n  \n", "file")
	hasNodes(t, "var a;", "var a", "file 0")
	hasNodes(t, "var a = 1;", "num 1", "var a 0", "file 1")
	hasNodes(t, "// said", "note // said", "file 0")
	hasNodes(t, "m() {}", "block", "method m 0", "file 1")
	hasNodes(t, "m(a) {}", "name a", "block", "method m 0 1", "file 2")
	hasNodes(t, "m(a,) {}", "name a", "block", "method m 0 1", "file 2")
	hasNodes(t, "m(a, a) {}", "name a", "name a", "block", "method m 0 1 2", "file 3")
	hasNodes(t, "m(a, b, c,) { return; }", "name a", "name b", "name c", "return", "block 3", "method m 0 1 2 4", "file 5")
	hasNodes(t, "class C {}", "class C", "file 0")
	hasNodes(t, "class C { var a; }", "var a", "class C 0", "file 1")
	hasNodes(t, "class C { m(x) {} var a = 'b'; // n\n }", "name x", "block", "method m 0 1", "text 'b'", "var a 3", "note // n", "class C 2 4 5", "file 6")
	hasNodes(t, "class A {} class B {} // n\n var a; m() {} class C {}", "class A", "class B", "note // n", "var a", "block", "method m 4", "class C", "file 0 1 2 3 5 6")
	hasNodes(t, "class A { a() { b(); } }", "name b", "call 0", "do 1", "block 2", "method a 3", "class A 4", "file 5")
}

func TestReadStatements(t *testing.T) {
	hasSteps(t, "", "")
	hasSteps(t, "var a;", "0", "var a")
	hasSteps(t, "var a = b;", "1", "name b", "var a 0")
	hasSteps(t, "a = b;", "1", "name b", "set a 0")
	hasSteps(t, "a = a == b;", "3", "name a", "name b", "chain == 0 1", "set a 2")
	hasSteps(t, "return;", "0", "return")
	hasSteps(t, "return 7;", "1", "num 7", "return 0")
	hasSteps(t, "return (a);", "2", "name a", "par 0", "return 1")
	hasSteps(t, "a;", "1", "name a", "do 0")
	hasSteps(t, "'a';", "1", "text 'a'", "do 0")
	hasSteps(t, "[a];", "2", "name a", "list 0", "do 1")
	hasSteps(t, "(a);", "2", "name a", "par 0", "do 1")
	hasSteps(t, "(a) => b;", "3", "name a", "name b", "fn 0 1", "do 2")
	hasSteps(t, "a.b(c);", "4", "name a", "dot b 0", "name c", "call 1 2", "do 3")
	hasSteps(t, "if (a) {}", "2", "name a", "block", "if 0 1")
	hasSteps(t, "if (a) {} else {}", "3", "name a", "block", "block", "if 0 1 2")
	hasSteps(t, "if (a) { b; } else { c; d; }", "9", "name a", "name b", "do 1", "block 2", "name c", "do 4", "name d", "do 6", "block 5 7", "if 0 3 8")
	hasSteps(t, "while (a < 3) { a = a + 1; }", "8", "name a", "num 3", "chain < 0 1", "name a", "num 1", "chain + 3 4", "set a 5", "block 6", "while 2 7")
	hasSteps(t, "if (a..b()) {}", "5", "name a", "name b", "call 1", "cascade 0 2", "block", "if 3 4")
	hasSteps(t, "if ((a)) {}", "3", "name a", "par 0", "block", "if 1 2")
	hasSteps(t, "if (a) { if (b) {} else {} }", "6", "name a", "name b", "block", "block", "if 1 2 3", "block 4", "if 0 5")
	hasSteps(t, "if (a) { while (b) {} } else { if (c) {} }", "9", "name a", "name b", "block", "while 1 2", "block 3", "name c", "block", "if 5 6", "block 7", "if 0 4 8")
	hasSteps(t, "// one\nreturn; // two\n// three\n", "0 1 2 3", "note // one", "return", "note // two", "note // three")
}

func TestReadEnds(t *testing.T) {
	hasValue(t, "a", "name a")
	hasValue(t, "_A9", "name _A9")
	hasValue(t, "007", "num 007")
	hasValue(t, "'if'", "text 'if'")
	hasValue(t, "[]", "list")
	hasValue(t, "[a]", "name a", "list 0")
	hasValue(t, "[a,]", "name a", "list 0")
	hasValue(t, "[a, 1, 'b']", "name a", "num 1", "text 'b'", "list 0 1 2")
	hasValue(t, "[a, 1,]", "name a", "num 1", "list 0 1")
	hasValue(t, "[[], [[]],]", "list", "list", "list 1", "list 0 2")
	hasValue(t, "[a ? b : c, d..e()]", "name a", "name b", "name c", "pick 0 1 2", "name d", "name e", "call 5", "cascade 4 6", "list 3 7")
	hasValue(t, "f()", "name f", "call 0")
	hasValue(t, "f(a)", "name f", "name a", "call 0 1")
	hasValue(t, "f(a,)", "name f", "name a", "call 0 1")
	hasValue(t, "f(a, b,)", "name f", "name a", "name b", "call 0 1 2")
	hasValue(t, "f(g(), h(a),)", "name f", "name g", "call 1", "name h", "name a", "call 3 4", "call 0 2 5")
	hasValue(t, "f()()", "name f", "call 0", "call 1")
	hasValue(t, "f(1)(2)(3)", "name f", "num 1", "call 0 1", "num 2", "call 2 3", "num 3", "call 4 5")
	hasValue(t, "a.b", "name a", "dot b 0")
	hasValue(t, "a.b.c", "name a", "dot b 0", "dot c 1")
	hasValue(t, "a.b(1).c(2)", "name a", "dot b 0", "num 1", "call 1 2", "dot c 3", "num 2", "call 4 5")
	hasValue(t, "a().b()().c.d", "name a", "call 0", "dot b 1", "call 2", "call 3", "dot c 4", "dot d 5")
	hasValue(t, "1.a", "num 1", "dot a 0")
	hasValue(t, "'t'.a('u')", "text 't'", "dot a 0", "text 'u'", "call 1 2")
	hasValue(t, "[a].b", "name a", "list 0", "dot b 1")
	hasValue(t, "[](a)", "list", "name a", "call 0 1")
	hasValue(t, "(a).b", "name a", "par 0", "dot b 1")
}

func TestReadBrackets(t *testing.T) {
	hasValue(t, "(a)", "name a", "par 0")
	hasValue(t, "((a))", "name a", "par 0", "par 1")
	hasValue(t, "(1)", "num 1", "par 0")
	hasValue(t, "(a + b)", "name a", "name b", "chain + 0 1", "par 2")
	hasValue(t, "(a)(b)", "name a", "par 0", "name b", "call 1 2")
	hasValue(t, "(a) == b", "name a", "par 0", "name b", "chain == 1 2")
	hasValue(t, "(a..b())", "name a", "name b", "call 1", "cascade 0 2", "par 3")
	hasValue(t, "(a) => b", "name a", "name b", "fn 0 1")
	hasValue(t, "(a,) => b", "name a", "name b", "fn 0 1")
	hasValue(t, "(a, b) => c", "name a", "name b", "name c", "fn 0 1 2")
	hasValue(t, "(a, b, c,) => 1", "name a", "name b", "name c", "num 1", "fn 0 1 2 3")
	hasValue(t, "() => 1", "num 1", "fn 0")
	hasValue(t, "() => () => a", "name a", "fn 0", "fn 1")
	hasValue(t, "(a) => (a)", "name a", "name a", "par 1", "fn 0 2")
	hasValue(t, "(a) => (b) => c", "name a", "name b", "name c", "fn 1 2", "fn 0 3")
	hasValue(t, "((a) => b)", "name a", "name b", "fn 0 1", "par 2")
	hasValue(t, "((a) => b)(c)", "name a", "name b", "fn 0 1", "par 2", "name c", "call 3 4")
	hasValue(t, "f((a) => b)", "name f", "name a", "name b", "fn 1 2", "call 0 3")
	hasValue(t, "f((a), (b, c) => d)", "name f", "name a", "par 1", "name b", "name c", "name d", "fn 3 4 5", "call 0 2 6")
	hasValue(t, "(a) => b(c).d", "name a", "name b", "name c", "call 1 2", "dot d 3", "fn 0 4")
	hasValue(t, "(a) => b + c", "name a", "name b", "name c", "chain + 1 2", "fn 0 3")
	hasValue(t, "a + (b) => c + d", "name a", "name b", "name c", "name d", "chain + 2 3", "fn 1 4", "chain + 0 5")
	hasValue(t, "a * (b) => c || d", "name a", "name b", "name c", "name d", "chain || 2 3", "fn 1 4", "chain * 0 5")
	hasValue(t, "(a) => b ? c : d", "name a", "name b", "name c", "name d", "pick 1 2 3", "fn 0 4")
	hasValue(t, "a ? (b) => c : (d) => e", "name a", "name b", "name c", "fn 1 2", "name d", "name e", "fn 4 5", "pick 0 3 6")
	hasValue(t, "a ? (b) : c", "name a", "name b", "par 1", "name c", "pick 0 2 3")
}

func TestReadChains(t *testing.T) {
	for _, mark := range []string{"||", "&&", "==", "<", "+", "-", "*"} {
		hasValue(t, "a"+mark+"b", "name a", "name b", "chain "+mark+" 0 1")
		hasValue(t, "a"+mark+"b"+mark+"c"+mark+"d", "name a", "name b", "name c", "name d", "chain "+mark+" 0 1 2 3")
		hasValue(t, "(a"+mark+"b)"+mark+"c", "name a", "name b", "chain "+mark+" 0 1", "par 2", "name c", "chain "+mark+" 3 4")
		hasValue(t, "a"+mark+"(b"+mark+"c)", "name a", "name b", "name c", "chain "+mark+" 1 2", "par 3", "chain "+mark+" 0 4")
	}
	hasValue(t, "a + b - c", "name a", "name b", "chain + 0 1", "name c", "chain - 2 3")
	hasValue(t, "a - b + c", "name a", "name b", "chain - 0 1", "name c", "chain + 2 3")
	hasValue(t, "a + b - c + d", "name a", "name b", "chain + 0 1", "name c", "chain - 2 3", "name d", "chain + 4 5")
	hasValue(t, "a - b - c + d + e - f", "name a", "name b", "name c", "chain - 0 1 2", "name d", "name e", "chain + 3 4 5", "name f", "chain - 6 7")
	hasValue(t, "a + b * c", "name a", "name b", "name c", "chain * 1 2", "chain + 0 3")
	hasValue(t, "a * b - c * d", "name a", "name b", "chain * 0 1", "name c", "name d", "chain * 3 4", "chain - 2 5")
	hasValue(t, "a == b < c", "name a", "name b", "name c", "chain < 1 2", "chain == 0 3")
	hasValue(t, "a < b == c < d == e", "name a", "name b", "chain < 0 1", "name c", "name d", "chain < 3 4", "name e", "chain == 2 5 6")
	hasValue(t, "a || b && c == d < e + f * g", "name a", "name b", "name c", "name d", "name e", "name f", "name g", "chain * 5 6", "chain + 4 7", "chain < 3 8", "chain == 2 9", "chain && 1 10", "chain || 0 11")
	hasValue(t, "a * b + c < d == e && f || g", "name a", "name b", "chain * 0 1", "name c", "chain + 2 3", "name d", "chain < 4 5", "name e", "chain == 6 7", "name f", "chain && 8 9", "name g", "chain || 10 11")
	hasValue(t, "a.b + f(1)", "name a", "dot b 0", "name f", "num 1", "call 2 3", "chain + 1 4")
}

// TestReadEachLevelInEachOther has marks of all levels on both sides of each other.
func TestReadEachLevelInEachOther(t *testing.T) {
	levels := [][]string{{"||"}, {"&&"}, {"=="}, {"<"}, {"+", "-"}, {"*"}}
	for i, outers := range levels {
		for j, inners := range levels {
			for _, outer := range outers {
				for _, inner := range inners {
					source := "a " + outer + " b " + inner + " c"
					switch {
					case outer == inner:
						hasValue(t, source, "name a", "name b", "name c", "chain "+outer+" 0 1 2")
					case i < j:
						hasValue(t, source, "name a", "name b", "name c", "chain "+inner+" 1 2", "chain "+outer+" 0 3")
					default:
						hasValue(t, source, "name a", "name b", "chain "+outer+" 0 1", "name c", "chain "+inner+" 2 3")
					}
				}
			}
		}
	}
}

func TestReadPicks(t *testing.T) {
	hasValue(t, "a ? b : c", "name a", "name b", "name c", "pick 0 1 2")
	hasValue(t, "a || b ? c + d : e", "name a", "name b", "chain || 0 1", "name c", "name d", "chain + 3 4", "name e", "pick 2 5 6")
	hasValue(t, "a ? b ? c : d : e", "name a", "name b", "name c", "name d", "pick 1 2 3", "name e", "pick 0 4 5")
	hasValue(t, "a ? b : c ? d : e", "name a", "name b", "name c", "name d", "name e", "pick 2 3 4", "pick 0 1 5")
	hasValue(t, "a ? b ? c : d : e ? f : g", "name a", "name b", "name c", "name d", "pick 1 2 3", "name e", "name f", "name g", "pick 5 6 7", "pick 0 4 8")
	hasValue(t, "a ? b : c || d", "name a", "name b", "name c", "name d", "chain || 2 3", "pick 0 1 4")
	hasValue(t, "(a ? b : c) ? d : e", "name a", "name b", "name c", "pick 0 1 2", "par 3", "name d", "name e", "pick 4 5 6")
	hasValue(t, "a ? (b..c()) : d", "name a", "name b", "name c", "call 2", "cascade 1 3", "par 4", "name d", "pick 0 5 6")
}

func TestReadCascades(t *testing.T) {
	hasValue(t, "a..b()", "name a", "name b", "call 1", "cascade 0 2")
	hasValue(t, "a..b(1)..c(2, 3,)", "name a", "name b", "num 1", "call 1 2", "name c", "num 2", "num 3", "call 4 5 6", "cascade 0 3 7")
	hasValue(t, "a.b()..c()", "name a", "dot b 0", "call 1", "name c", "call 3", "cascade 2 4")
	hasValue(t, "a + b..c()", "name a", "name b", "chain + 0 1", "name c", "call 3", "cascade 2 4")
	hasValue(t, "a ? b : c..d()", "name a", "name b", "name c", "pick 0 1 2", "name d", "call 4", "cascade 3 5")
	hasValue(t, "(a) => b..c()", "name a", "name b", "fn 0 1", "name c", "call 3", "cascade 2 4")
	hasValue(t, "(a) => (b..c())", "name a", "name b", "name c", "call 2", "cascade 1 3", "par 4", "fn 0 5")
	hasValue(t, "(a..b())..c()", "name a", "name b", "call 1", "cascade 0 2", "par 3", "name c", "call 5", "cascade 4 6")
	hasValue(t, "(a..b()).c", "name a", "name b", "call 1", "cascade 0 2", "par 3", "dot c 4")
	hasValue(t, "a..b(c..d())", "name a", "name b", "name c", "name d", "call 3", "cascade 2 4", "call 1 5", "cascade 0 6")
	hasValue(t, "f(a..b(), c)", "name f", "name a", "name b", "call 2", "cascade 1 3", "name c", "call 0 4 5")
	hasValue(t, "[a..b()..c()]", "name a", "name b", "call 1", "name c", "call 3", "cascade 0 2 4", "list 5")
	hasSteps(t, "a..b();", "4", "name a", "name b", "call 1", "cascade 0 2", "do 3")
	hasSteps(t, "return a..b();", "4", "name a", "name b", "call 1", "cascade 0 2", "return 3")
	hasSteps(t, "x = a..b();", "4", "name a", "name b", "call 1", "cascade 0 2", "set x 3")
}

func TestReadBlank(t *testing.T) {
	// The first one of the file, of a class and of a block has none, whatever stands ahead of it.
	hasNodes(t, "\n\n\nvar a;", "var a", "file 0")
	hasNodes(t, "\n\n// n\nvar a;", "note // n", "var a", "file 0 1")
	hasNodes(t, "class C {\n\n  var a;\n}", "var a", "class C 0", "file 1")
	hasNodes(t, "class C {\n\n  // n\n\n  var a;\n}", "note // n", "blank var a", "class C 0 1", "file 2")
	hasSteps(t, "\n\nreturn;", "0", "return")
	hasSteps(t, "\n\n// n\n\n// o\n// p\n", "0 1 2", "note // n", "blank note // o", "note // p")
	// A later one has it as its first sign has it.
	hasNodes(t, "var a;\n\nvar b;\nvar c;\n \n \nvar d; var e;", "var a", "blank var b", "var c", "blank var d", "var e", "file 0 1 2 3 4")
	hasNodes(t, "var a;\n\nclass C {}\n\nm() {}\n\n// n\n\n// o", "var a", "blank class C", "block", "blank method m 2", "blank note // n", "blank note // o", "file 0 1 3 4 5")
	hasNodes(t, "class C {\nvar a;\n\nm() {}\n\n// n\n\n}", "var a", "block", "blank method m 1", "blank note // n", "class C 0 2 3", "file 4")
	hasSteps(t, "a;\n\nvar b;\n\nc = d;\n\nreturn;", "1 2 4 5", "name a", "do 0", "blank var b", "name d", "blank set c 3", "blank return")
	hasSteps(t, "a;\n\nif (b) {\n\nc;\n\nd; }\n\nelse {\n\ne; }\n\nwhile (f) {}", "1 11 14",
		"name a", "do 0", "name b", "name c", "do 3", "name d", "blank do 5", "block 4 6", "name e", "do 8", "block 9", "blank if 2 7 10", "name f", "block", "blank while 12 13")
}

func TestReadBlankInside(t *testing.T) {
	// Empty lines inside of a statement or member are none of its own.
	hasNodes(t, "var\n\na\n\n=\n\n1\n\n;\n\n", "num 1", "var a 0", "file 1")
	hasNodes(t, "var a;\nvar\n\nb;", "var a", "var b", "file 0 1")
	hasNodes(t, "class\n\nC\n\n{\n\n}\nm\n\n(\n\n)\n\n{\n\n}", "class C", "block", "method m 1", "file 0 2")
	hasSteps(t, "a\n\n;b\n\n=\n\nc;", "1 3", "name a", "do 0", "name c", "set b 2")
	// One byte 10 ahead of the first sign of a later one is no empty line; a note's own line end counts.
	hasNodes(t, "// n\nvar a;", "note // n", "var a", "file 0 1")
	hasNodes(t, "// n\n\nvar a;", "note // n", "blank var a", "file 0 1")
}

func TestReadNotes(t *testing.T) {
	hasNodes(t, "// a\n// b\nvar c; // d\n// e", "note // a", "note // b", "var c", "note // d", "note // e", "file 0 1 2 3 4")
	hasNodes(t, "class C { // a\n m() { // b\n } // c\n // d\n } // e", "note // a", "note // b", "block 1", "method m 2", "note // c", "note // d", "class C 0 3 4 5", "note // e", "file 6 7")
	hasNodes(t, "m() {} // a  \n//", "block", "method m 0", "note // a", "note //", "file 1 2 3")
	hasSteps(t, "// a\nb; // c\nif (d) { // e\n } else { // f\n } // g\n", "0 2 3 9 10",
		"note // a", "name b", "do 1", "note // c", "name d", "note // e", "block 5", "note // f", "block 7", "if 4 6 8", "note // g")
	// None may begin inside of something.
	faultsIn(t, "", "",
		"var @// n\na;", "var a @// n\n;", "var a = @// n\n1;", "var a = 1 @// n\n;", "m @// n\n() {}", "m(@// n\n) {}", "m(a @// n\n) {}", "m(a, @// n\nb) {}", "m() @// n\n{}",
		"class @// n\nC {}", "class C @// n\n{}", "class C {} @) // n", "class C { // n\n @) }", "class C { // n @")
	faultsIn(t, "m() { ", " }",
		"a @// n\n;", "a @// n\n= b;", "a = @// n\nb;", "return @// n\n;", "return a @// n\n;", "if @// n\n(a) {}", "if (@// n\na) {}", "if (a @// n\n) {}", "if (a) @// n\n{}", "if (a) {} // n\n@else {}",
		"if (a) {} else @// n\n{}", "while @// n\n(a) {}", "while (@// n\na) {}", "while (a) @// n\n{}")
	faultsIn(t, "var v = ", ";",
		"[@// n\n]", "[a @// n\n]", "[a, @// n\n]", "f(@// n\n)", "f @// n\n()", "f(a, @// n\nb)", "(@// n\na)", "(a @// n\n)", "(a @// n\n) => b", "(a) @// n\n=> b", "(a) => @// n\nb",
		"a @// n\n+ b", "a + @// n\nb", "a ? @// n\nb : c", "a ? b @// n\n: c", "a ? b : @// n\nc", "a @// n\n.b", "a.@// n\nb", "a @// n\n..b()", "a..@// n\nb()", "a..b @// n\n()", "a..b(@// n\n)")
}

func TestReadRefusesMembers(t *testing.T) {
	faultsIn(t, "", "",
		"@1", "@'a'", "@;", "@,", "@{}", "@}", "@(", "@=", "@if (a) {}", "@while (a) {}", "@return;", "@else", "a@", "a @;", "a @= 1;", "a @b", "a @. b", "a @.. b()", "a @{}",
		"var@", "var @;", "var @= 1;", "var @1;", "var @'a';", "var @var a;", "var a@", "var a @b;", "var a @1;", "var a @, b;", "var a @== 1;", "var a @=> 1;", "var a =@", "var a = @;", "var a = @= 1;",
		"var a = 1@", "var a = 1 @}", "var a = 1 @2;", "var a = 1 @b;", "var a = 1 @= 2;", "var a = 1 @var b;", "var a @var b;", "var a;@;", "var a; @1",
		"m(@", "m @) {}", "m(@1) {}", "m(@'a') {}", "m(@() {}", "m(@{}", "m(@(", "m(@,) {}", "m(@, a) {}", "m(a@", "m(a @b) {}", "m(a @{}", "m(a @= 1) {}", "m(a @] {}", "m(a,@", "m(a, @,) {}", "m(a, b, @, c) {}", "m(a, @1) {}",
		"m(a@.b) {}", "m()@", "m() @;", "m() @a", "m() @=> a", "m() @) {}", "m() @() {}", "m() {@", "m() {}@}", "m() @[", "m @m", "m() {} @{}")
	faultsIn(t, "", "",
		"class@", "class @{}", "class @1 {}", "class @class C {}", "class C@", "class C @D {}", "class C @;", "class C @(", "class C @}", "class C {@", "class C {@;}", "class C { @{} }", "class C {} @}", "class C {}@;",
		"class C { @class D {} }", "class C { @class D {} var a; }", "class C { var a; @class D {} }", "class C { // n\n @class D {} }", "class C { m() {} @class D {} }", "m() { @class C {} }", "class C { a @= 1; }",
		"class C { a @; }", "class C { @return; }", "class C { @if (a) {} }", "class C { var a @}", "class C { var a;@", "class C { m() @}", "class C { m() {@", "class C { m() {}@", "class C { @) }")
}

func TestReadRefusesStatements(t *testing.T) {
	faultsIn(t, "m() { ", " }",
		"@;", "a; @;", "@)", "@,", "@=", "@else {}", "@{}", "@]", "@:", "@=> a;", "a @b;", "a @1;", "a @:", "a @, b;", "a @{}", "a() @{}", "a(b) @{}", "a = @;", "a = @= b;", "a = b @= c;", "a.b @= c;", "a() @= b;", "(a) @= b;", "1 @= b;", "a == b @= c;",
		"a = b @c;", "a = b @);", "a =@;", "a = @= b;", "var @;", "var a @b;", "var a = @;", "var a = b @= c;",
		"return @return;", "return @= a;", "return a @b;", "return @);", "return @{}", "return @if (a) {}", "return a @else", "return a;@;", "return @,;",
		"if @a {}", "if @{}", "if (@) {}", "if (a @{}", "if (a @;", "if (a @b) {}", "if (a @= b) {}", "if (a@, b) {}", "if (a@,) {}", "if (a) @b;", "if (a) @;", "if (a) @) {}", "if (a) @return;", "if ((a) @{}", "if (a) {} else @b;", "if (a) {} else @if (b) {}",
		"if (a) {} else @else {}", "if (a) {} else {} @else {}", "if (a) {} @{}", "if (a) {}@;", "if (a) @else {}", "if (a) {} else @(b) {}", "if (@var a) {}", "if @if (a) {}", "if @= 1;",
		"while @a {}", "while @{}", "while (@) {}", "while (a @{}", "while (a @b) {}", "while (a) @b;", "while (a) @;", "while (a) {} @else {}", "while @while (a) {}", "while (a) {}@;")
	faultsIn(t, "m() { ", "",
		"@", "a@", "a;@", "a =@", "a = b@", "a = b;@", "var@", "var a@", "var a =@", "return@", "return a@", "if@", "if (@", "if (a@", "if (a)@", "if (a) {@", "if (a) {}@", "if (a) {} else@", "if (a) {} else {@", "if (a) {} else {}@", "while@", "while (@", "while (a@", "while (a)@", "while (a) {@", "// n@", "// n\n@")
}

func TestReadRefusesValues(t *testing.T) {
	faultsIn(t, "var v = ", ";",
		"@)", "@,", "@=", "@{", "@}", "@+", "@.a", "@..a()", "@=> a", "@]", "@:", "@? a : b", "@&& a", "@- 1", "@* a", "@== a", "@< a", "@|| a", "a @b", "a @1", "1 @2", "'a' @'b'", "a @'b'", "a @[b]", "a @{}", "a @=> b", "1 (a) @=> b",
		"[@,]", "[@, a]", "[a @b]", "[a, @,]", "[a, b, @, c]", "[a @)", "[a @;", "[@)", "[a @= b]", "[a]@]", "[@var a]", "[a, ]@]", "[[a]@;",
		"f(@,)", "f(@, a)", "f(a @b)", "f(a, @,)", "f(a, b, @, c)", "f(a @]", "f(a @;", "f(@]", "f(a)@)", "f(a @= b)", "f(a) @=> b", "f(a, b) @=> c", "f() @=> a", "f(@if)", "f(a)(b @;", "f(a) @b", "f(a @: b)", "f(@..a())",
		"a.@1", "a.@", "a.@'b'", "a.@(b)", "a. @.b", "a.@[b]", "a.b @c", "a.@if", "a.b.@", "a..@.b()", "a..@..b()", "a.b.@()",
		"(@)", "(@))", "(a @;", "(a @]", "(a @b)", "(a)@)", "((a)@;", "(@;", "(a @= b)", "(@var a)", "(a @: b)", "[(a @]")
	faultsIn(t, "var v = ", ";",
		"a +@", "a + @+ b", "a + @* b", "a + b @c", "a + @)", "a + @", "a * @- b", "a - @- b", "a && @&& b", "a && @|| b", "a || @", "a == @== b", "a == @= b", "a < @< b", "a < @= b", "a * @? b : c", "a + @if", "a + @.. b()",
		"a ?@", "a ? @: c", "a ? b@", "a ? b @; c", "a ? b @c : d", "a ? b :@", "a ? b : @: c", "a ? b : c @: d", "a ? b : c ? d @", "a ? @? b : c", "a ? b ? c : d @", "a @: b", "a ? b@, c : d", "a ? b : @)", "a ? b@..c() : d", "a ? b : c..d() @? e : f", "a..b() @? c : d", "a ? @return : b",
		"a ..@", "a..@1", "a..@(b)", "a..b@", "a..b @c", "a..b @.c()", "a..b @..c()", "a..b(@", "a..b(@,)", "a..b() @c", "a..b() @.c", "a..b() @(c)", "a..b() @+ c", "a..b() @* c", "a..b() @|| c", "a..b() @=> c", "a + b..c() @+ d", "a..b(c @d)", "a..b(c @;", "a..b@[c]", "a..@if()", "(a..b() @+ c)", "[a..b() @? c : d]", "f(a..b() @.c)")
}

func TestReadNamesThatAreNoArrow(t *testing.T) {
	faultsIn(t, "var v = ", ";",
		"(a @, b)", "(a @,)", "(a @, b) + c", "(a @, b,)", "(a @, b)(c)", "(a @, b).c", "(a @, b) == c", "(a @, b) = c", "(a @, b", "(a @,", "(@)", "(@) + a", "(@)(a)", "(@) == a", "f((a @, b))", "[(a @, b)]", "((a @, b))", "((@)) => a",
		"(@,)", "(@,) => a", "(@, a) => b", "(a @,,) => b", "(a @, b,,) => c", "(a @b) => c", "(a @, b c) => d", "(a @, 1) => b", "(a @, if) => b", "(1 @, a) => b", "('a' @, b) => c", "(a @, b) c => d", "(a @, (b)) => c", "(a @, b.c) => d", "(a @, [b]) => c",
		"(a) @b => c", "(1) @=> a", "('a') @=> b", "((a)) @=> b", "(a.b) @=> c", "(a()) @=> b", "(a + b) @=> c", "([a]) @=> b", "(@if) => a", "(@var a) => a", "a @=> b", "(a).b @=> c", "(a)(b) @=> c", "(a)() @=> b", "f(a) @=> b", "f() @=> a", "f(a, b) @=> c",
		"(a) => @", "(a) => @)", "(a) => @=> b", "(a) =>@", "() => @", "() => (@)", "(a) => @{}", "(a) => b @=> c", "(a) => b @c", "(a) => @..b()", "(a) => b..c() @+ d", "(a, b) => @,", "(a @, b = c) => d", "(a) @= b")
	faultsIn(t, "m() { ", " }", "(a @, b);", "(@);", "(a) @{}", "(a) => @{}", "(a) => @return b;", "(a) => b @= c;", "x = (a @, b);", "if ((a @, b)) {}", "if (@) {}", "while ((@)) {}")
	hasValue(t, "f(a, b)", "name f", "name a", "name b", "call 0 1 2")
	hasValue(t, "(f)(a, b)", "name f", "par 0", "name a", "name b", "call 1 2 3")
	hasSteps(t, "(a);", "2", "name a", "par 0", "do 1")
	hasSteps(t, "m(a, b);", "4", "name m", "name a", "name b", "call 0 1 2", "do 3")
}

func TestReadRefusesKeyWordsAsNames(t *testing.T) {
	for _, word := range keyWords {
		at := "@" + word
		faultsIn(t, "", "", "var "+at+";", "var "+at+" = 1;", "m("+at+") {}", "m(a, "+at+") {}", "class "+at+" {}", "var v = "+at+";", "var v = a."+at+";", "var v = a.."+at+"();", "var v = "+at+"(a);", "var v = ("+at+") => a;",
			"var v = [a, "+at+"];", "m() { x = "+at+"; }", "m() { return "+at+"; }", "m() { if ("+at+") {} }")
		// A name may begin with a key word, or have other letters.
		hasValue(t, word+"s", "name "+word+"s")
		hasValue(t, strings.ToUpper(word), "name "+strings.ToUpper(word))
		hasValue(t, "'"+word+"'", "text '"+word+"'")
	}
	faultsIn(t, "", "", "@else() {}", "@if() {}", "@while() {}", "@return() {}", "var @(a) {}", "class @(a) {}", "m() { if @= 1; }", "m() { while @= 1; }", "m() { return @= 1; }", "m() { var @= 1; }", "m() { @else = 1; }", "m() { @class = 1; }")
}

func TestReadBytesThatAreNoSign(t *testing.T) {
	for _, c := range []struct {
		source string
		want   int
	}{
		{"$", 0}, {"var a = $;", 8}, {"var a = 1; %", 11}, {"m() { a = 'b; }", 10}, {"// \x7f", 0}, {"var a;\tvar b;", 6}, {"var a = 1234567890123;", 8}, {"var a > b;", 6}, {"\xff", 0}, {"m() { a & b; }", 8},
		// Signs are told apart ahead of all reading.
		{") $", 2}, {"m() { ) } 'x", 10}, {strings.Repeat("(", 40) + "!", 40},
	} {
		isNotRead(t, c.source, c.want)
	}
}

func TestReadTellsTheLengthAtTheEnd(t *testing.T) {
	for _, source := range []string{"var", "var a", "var a =", "var a = 1", "m", "m(", "m()", "m() {", "class", "class C", "class C {", "m() { if", "var v = [", "var v = f(", "var v = (", "var v = a ?", "var v = a..b", "var v = a.", "var v = () =>"} {
		for _, behind := range []string{"", " ", "\n", "  \n\n "} {
			isNotRead(t, source+behind, len(source+behind))
		}
	}
}

// wideSource is the source of wideTree.
func wideSource(size int) string {
	var out strings.Builder
	for made := 0; made < size-1; made++ {
		out.WriteString("class C{")
		for range mostKids {
			switch left := size - 2 - made; {
			case left >= 2:
				out.WriteString("var v=a;")
				made += 2
			case left == 1:
				out.WriteString("var v;")
				made++
			}
		}
		out.WriteString("}")
	}
	return out.String()
}

func TestReadTheMostNodes(t *testing.T) {
	for _, size := range []int{1, 2, 3, 26, 27, 28, 299, 300} {
		if nodes := readTree(t, wideSource(size)); !impl.SameTree(nodes, wideTree(size)) {
			t.Errorf("a source of %d nodes is read as %v", size, nodes)
		}
	}
	// The file is the node that is one too many.
	isNotRead(t, wideSource(301), len(wideSource(301)))
	isNotRead(t, wideSource(301)+" \n", len(wideSource(301))+2)
	// The place is that of the sign behind the node that is one too many.
	many := strings.Repeat("var a = b; ", 150)
	faultIn(t, many+"@")
	faultIn(t, many+"var c;@")
	faultIn(t, many+"var c; @var d;")
	faultIn(t, many+"var c = d @;")
	faultIn(t, many+"var c = d @+ e;")
	faultIn(t, many+"var c = f @(d, e);")
	faultIn(t, many+"var c = [] @;")
	faultIn(t, many+"var c = (d @) => e;")
	faultIn(t, many+"m(d @, e) {}")
	faultIn(t, many+"m() { return; @return; }")
	faultIn(t, many+"m() {} @n() {}")
	faultIn(t, many+"class C {} @class D {}")
	faultIn(t, many+"// n\n@// o\n")
	// A sign that may not stand there is told ahead of a later node.
	faultIn(t, many+"@;")
	faultIn(t, many+"var c = @;")
	faultIn(t, many+"class C { @class")
}

// inOneAnother has a middle in as many as are told.
func inOneAnother(begin string, middle string, end string, count int) string {
	return strings.Repeat(begin, count) + middle + strings.Repeat(end, count)
}

func TestReadTheMostPicks(t *testing.T) {
	// The value is a PICK, and each of these has one more in it; last has the fault of the 20th.
	for _, c := range []struct{ begin, last, end string }{
		{"(", "(@", ")"}, {"[", "[@", "]"}, {"f(", "f(@", ")"}, {"a.b(", "a.b(@", ")"}, {"() => ", "() => @", ""}, {"(b) => ", "(b) => @", ""}, {"b ? ", "b ? @", " : c"}, {"b + (", "b + (@", ")"}, {"b == c * [", "b == c * [@", "]"},
		{"b ? c : ", "b ? @c : ", ""}, {"[b, ", "[@b, ", "]"}, {"x.f(b, ", "x.f(@b, ", ")"},
	} {
		source := func(count int) string { return "var v = " + inOneAnother(c.begin, "a", c.end, count) }
		readTree(t, source(3)+";")
		isNotRead(t, source(19)+";", 0)
		faultIn(t, source(19)+" @)")
		faultIn(t, source(19)+"@")
		for count := 20; count < 24; count++ {
			ahead := "var v = " + strings.Repeat(c.begin, 19) + c.last
			faultIn(t, ahead+inOneAnother(c.begin, "a", c.end, count-20)+strings.Repeat(c.end, 20)+";")
		}
	}
	// What is called of a cascade stands behind the PICK, not in it.
	isNotRead(t, "var v = "+inOneAnother("a..f(", "b", ")", 40)+";", 0)
	isNotRead(t, "var v = "+inOneAnother("a..f(", inOneAnother("(", "b", ")", 19), ")", 40)+";", 0)
	faultIn(t, "var v = "+strings.Repeat("a..f(", 40)+strings.Repeat("(", 20)+"@b")
}

func TestReadTheMostBlocks(t *testing.T) {
	for _, step := range []string{"if (a) {", "while (a) {", "if (a) {} else {"} {
		// The method has a block, too.
		for _, c := range []struct{ begin, end string }{{"m() {", "}"}, {"class C { m(x) {", "}}"}} {
			full := c.begin + strings.Repeat(step, 19)
			end := strings.Repeat("}", 19) + c.end
			for _, inside := range []string{"", "return;", "var a;", "// n\n"} {
				isNotRead(t, full+inside+end, 0)
				faultIn(t, full+inside+"@)"+end)
				faultIn(t, full+inside+end+"@}")
			}
			for _, inside := range []string{"@a;", "return @a;", "x = @a;", "var x = @a;", "if (@a) {}", "while (@a) {}", "@(a) => b;", "@[];"} {
				faultIn(t, full+inside+end)
			}
		}
	}
	// Blocks and PICKs are told together.
	full := "m() {" + strings.Repeat("if (a) {", 9) + "x = "
	end := ";" + strings.Repeat("}", 10)
	isNotRead(t, full+inOneAnother("(", "a", ")", 9)+end, 0)
	faultIn(t, full+inOneAnother("(", "@a", ")", 10)+end)
	faultIn(t, full+strings.Repeat("(", 10)+"@(a)"+strings.Repeat(")", 10)+end)
}

func TestReadManyBegunInARow(t *testing.T) {
	deep := inOneAnother("(", "a", ")", 5)
	readTree(t, "var v = ["+strings.Repeat(deep+",", 12)+"];")
	readTree(t, "var v = "+deep+strings.Repeat(" + "+deep, 11)+";")
	readTree(t, "m() {"+strings.Repeat("x = "+deep+";", 12)+"}")
	readTree(t, "m() {"+strings.Repeat("if (a) { if (b) {} else {} }", 12)+"}")
	readTree(t, strings.Repeat("m() { while (a ? b : c) { return () => 1; } }", 12))
	readTree(t, "var v = a"+strings.Repeat("..f(a ? b : c)", 11)+";")
}

func TestReadTheMostKids(t *testing.T) {
	for _, c := range []struct {
		begin, each, end string
		most             int
	}{
		{"var v = [", "a,", "];", 12}, {"var v = f(", "a,", ");", 11}, {"var v = (", "a,", ") => b;", 11}, {"m(", "a,", ") {}", 11}, {"var v = a", "..f()", ";", 11},
		{"var v = a", "||b", ";", 11}, {"var v = a", "&&b", ";", 11}, {"var v = a", "==b", ";", 11}, {"var v = a", "<b", ";", 11}, {"var v = a", "+b", ";", 11}, {"var v = a", "-b", ";", 11}, {"var v = a", "*b", ";", 11},
		{"m() {", "a;", "}", 12}, {"m() {", "// n\n", "}", 12}, {"m() {", "if (a) {}", "}", 12}, {"class C {", "var a;", "}", 12}, {"class C {", "m() {}", "}", 12}, {"class C {", "// n\n", "}", 12},
		{"", "var a;", "", 12}, {"", "m() {}", "", 12}, {"", "class C {}", "", 12}, {"", "// n\n", "", 12},
	} {
		for count := range 20 {
			source := c.begin + strings.Repeat(c.each, count) + c.end
			if count > c.most {
				isNotRead(t, source, 0)
				faultIn(t, source+"@)")
			} else {
				readTree(t, source)
			}
		}
	}
}

func TestReadTheDeepest(t *testing.T) {
	for _, c := range []struct {
		begin, each, middle, end, behind string
		most                             int
	}{
		{"var v = ", "(", "a", ")", ";", 11}, {"var v = ", "[", "a", "]", ";", 11}, {"var v = ", "[", "", "]", ";", 12}, {"var v = ", "f(", "a", ")", ";", 11}, {"var v = ", "() => ", "a", "", ";", 11}, {"var v = ", "a ? ", "b", " : c", ";", 11}, {"var v = ", "a ? b : ", "c", "", ";", 11},
		{"var v = a", ".b", "", "", ";", 11}, {"var v = a", "(b)", "", "", ";", 11}, {"var v = a", "()", "", "", ";", 11}, {"var v = a", " + b - c", "", "", ";", 5}, {"var v = a - b", " + c - d", "", "", ";", 5}, {"var v = ", "a..f(", "b", ")", ";", 5},
		{"m() { ", "(", "a", ")", "; }", 9}, {"m() { return ", "[", "a", "]", "; }", 9}, {"class C { m() { x = ", "(", "a", ")", "; } }", 8}, {"class C { var v = ", "(", "a", ")", "; }", 10},
		{"m() {", "if (a) {", "", "}", "}", 5}, {"m() {", "while (a) {", "return;", "}", "}", 5}, {"class C { m() {", "if (a) {", "", "}", "} }", 5}, {"class C { m() {", "if (a) {", "return;", "}", "} }", 4},
	} {
		for count := 1; count < 15; count++ {
			source := c.begin + inOneAnother(c.each, c.middle, c.end, count) + c.behind
			if count > c.most {
				isNotRead(t, source, 0)
				continue
			}
			nodes := readTree(t, source)
			if deep := impl.DeepOf(nodes, len(nodes)-1); count == c.most && deep < impl.MaxDeep-1 {
				t.Errorf("the file of %q is %d deep", source, deep)
			}
		}
	}
	if nodes := readTree(t, "var v = "+inOneAnother("(", "a", ")", 11)+";"); impl.DeepOf(nodes, len(nodes)-1) != impl.MaxDeep {
		t.Errorf("11 brackets are %v", nodes)
	}
}

func TestReadTheLongest(t *testing.T) {
	full := func(source string, fill string) string {
		return source + strings.Repeat(fill, impl.MaxSource-len(source))
	}
	for _, source := range []string{full("", " "), full("", "\n"), full("var a;", " "), full("//", "x"), full("m() {} //", "x"), full("var a = '", "x")[:impl.MaxSource-2] + "';"} {
		if len(source) != impl.MaxSource {
			t.Fatalf("a source has %d bytes", len(source))
		}
		readTree(t, source)
		isNotRead(t, source+" ", impl.MaxSource)
		isNotRead(t, source+"\n", impl.MaxSource)
	}
	isNotRead(t, full("", " ")[1:]+")", impl.MaxSource-1)
	isNotRead(t, full("", " ")[1:]+"a", impl.MaxSource)
	isNotRead(t, full("var a", " "), impl.MaxSource)
	// A source that is too long is told so, whatever stands in it.
	isNotRead(t, full(")", " ")+" ", impl.MaxSource)
	isNotRead(t, strings.Repeat("var a = b;", 400), impl.MaxSource)
}

func TestReadIsNewMemory(t *testing.T) {
	source := "class C { m(a, b) { if (a - b + c) { return [a, 1, f(b)]; } else {} x = a..g(1)..h(); y = a ? b : (c) => d.e; } } var v = (1);"
	nodes, want := readTree(t, source), readTree(t, source)
	for k := range nodes {
		// The spare room behind one list is no part of another one.
		room := nodes[k].Kids[:cap(nodes[k].Kids)]
		for i := len(nodes[k].Kids); i < len(room); i++ {
			room[i] = -1
		}
	}
	if !impl.SameTree(nodes, want) {
		t.Error("lists of one answer share their room")
	}
	for k := range nodes {
		for i := range nodes[k].Kids {
			nodes[k].Kids[i] = -1
		}
		changed := cloneTree(want)
		for j := range k + 1 {
			for i := range changed[j].Kids {
				changed[j].Kids[i] = -1
			}
		}
		if !impl.SameTree(nodes, changed) {
			t.Fatalf("the Kids of %d are those of another one, too", k)
		}
	}
	if !impl.SameTree(readTree(t, source), want) {
		t.Error("an answer that was changed changes the next one")
	}
	// What is refused leaves nothing behind.
	isNotRead(t, "m() { ( ( (", 11)
	isNotRead(t, strings.Repeat("var a = b;", 151), 1509)
	if !impl.SameTree(readTree(t, source), want) {
		t.Error("a fault changes the next answer")
	}
}
