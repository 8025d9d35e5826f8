package tests

import (
	"fmt"
	"math/big"
	"slices"
	"strconv"
	"strings"
	"testing"

	"loop.example/g00459/impl"
)

// constByWord is nil of what is no known number; its numbers may be of any size.
func constByWord(nodes []impl.Node, k int) *big.Int {
	if impl.DeepOf(nodes, k) == 0 {
		return nil
	}
	return knownByWord(nodes, k)
}

func knownByWord(nodes []impl.Node, k int) *big.Int {
	node := nodes[k]
	switch {
	case node.Kind == impl.NdNum && len(node.Text) <= 9:
		num, _ := new(big.Int).SetString(node.Text, 10)
		return num
	case node.Kind == impl.NdPar:
		return knownByWord(nodes, node.Kids[0])
	case node.Kind != impl.NdChain || !strings.Contains("+-*", node.Text):
		return nil
	}
	var all *big.Int
	for i, kid := range node.Kids {
		num := knownByWord(nodes, kid)
		if num == nil {
			return nil
		}
		if i == 0 {
			all = num
			continue
		}
		if all = reckonedByWord(all, node.Text, num); all.CmpAbs(big.NewInt(1000000000)) > 0 {
			return nil
		}
	}
	return all
}

func reckonedByWord(a *big.Int, mark string, b *big.Int) *big.Int {
	switch mark {
	case "+":
		return new(big.Int).Add(a, b)
	case "-":
		return new(big.Int).Sub(a, b)
	}
	return new(big.Int).Mul(a, b)
}

func foldableByWord(nodes []impl.Node, k int) bool {
	num := constByWord(nodes, k)
	return num != nil && nodes[k].Kind == impl.NdChain && num.Sign() >= 0 && num.Cmp(big.NewInt(999999999)) <= 0
}

// foldedByWord puts a number for each chain that may be one. Those in another one are nobody's then.
func foldedByWord(nodes []impl.Node) []impl.Node {
	if !impl.TreeOk(nodes) {
		return nodes
	}
	list := cloneTree(nodes)
	for k := range nodes {
		if foldableByWord(nodes, k) {
			list[k] = impl.Node{Kind: impl.NdNum, Text: constByWord(nodes, k).String()}
		}
	}
	return inOrderOfEnds(list)
}

// foldsByWord counts the chains that may be a number and are in none that may.
func foldsByWord(nodes []impl.Node) int {
	if !impl.TreeOk(nodes) {
		return 0
	}
	var down func(k int) int
	down = func(k int) int {
		if foldableByWord(nodes, k) {
			return 1
		}
		count := 0
		for _, kid := range nodes[k].Kids {
			count += down(kid)
		}
		return count
	}
	return down(len(nodes) - 1)
}

func constIs(t *testing.T, nodes []impl.Node, k int) {
	t.Helper()
	want, is := 0, false
	if num := constByWord(nodes, k); num != nil {
		want, is = int(num.Int64()), true
	}
	if got, ok := impl.ConstOf(nodes, k); got != want || ok != is {
		t.Fatalf("ConstOf(%v, %d) is %d, %v; want %d, %v", nodes, k, got, ok, want, is)
	}
	if got, want := impl.Foldable(nodes, k), foldableByWord(nodes, k); got != want {
		t.Fatalf("Foldable(%v, %d) is %v; want %v", nodes, k, got, want)
	}
}

// constsAre holds what is told of each place, and of some that are none.
func constsAre(t *testing.T, nodes []impl.Node) {
	t.Helper()
	for _, k := range append(farFrom(len(nodes)), fromTo(0, len(nodes)-1)...) {
		constIs(t, nodes, k)
	}
}

// isFolded holds Folded and FoldsIn against the chapter's words, and of a right tree what the issue says of them.
func isFolded(t *testing.T, nodes []impl.Node) []impl.Node {
	t.Helper()
	held := cloneTree(nodes)
	got, want := impl.Folded(nodes), foldedByWord(nodes)
	if !impl.SameTree(got, want) {
		t.Fatalf("Folded(%v) is\n%v; want\n%v", held, got, want)
	}
	count := impl.FoldsIn(nodes)
	if want := foldsByWord(nodes); count != want {
		t.Fatalf("FoldsIn(%v) is %d; want %d", held, count, want)
	}
	if !impl.SameTree(nodes, held) {
		t.Fatalf("Folded(%v) or FoldsIn changes what it is handed: %v", held, nodes)
	}
	if !impl.TreeOk(nodes) {
		return got
	}
	if !impl.TreeOk(got) || !impl.SameTree(inOrderOfEnds(got), got) {
		t.Fatalf("Folded(%v) is no right tree, or not in the order in which its nodes end: %v", nodes, got)
	}
	for k := range got {
		if impl.Foldable(got, k) {
			t.Fatalf("Folded(%v) has more to be reckoned at %d: %v", nodes, k, got)
		}
	}
	if !impl.SameTree(impl.Folded(got), got) || impl.FoldsIn(got) != 0 {
		t.Fatalf("Folded(%v) is not the same again: %v", nodes, got)
	}
	if changed := !impl.SameTree(inOrderOfEnds(nodes), got); changed != (count > 0) {
		t.Fatalf("FoldsIn(%v) is %d, and Folded is %v", nodes, count, got)
	}
	return got
}

// foldedTextIs holds FoldedText against the chapter's words; what is written is read as what Folded answers.
func foldedTextIs(t *testing.T, source string, width int, budget int) string {
	t.Helper()
	text, ok := impl.FoldedText(source, width, budget)
	nodes, _, read := impl.ReadSource(source)
	if !read {
		if ok || text != "" {
			t.Fatalf("FoldedText(%q, %d, %d), which is no source, is %q, %v", source, width, budget, text, ok)
		}
		return ""
	}
	folded := isFolded(t, nodes)
	want := impl.JoinLines(fileWrittenByWord(folded, width, budget).Lines)
	if text != want || !ok {
		t.Fatalf("FoldedText(%q, %d, %d) is\n%s\n%v; want\n%s", source, width, budget, text, ok, want)
	}
	// What is written may be too long for a source.
	if len(text) <= impl.MaxSource {
		if again := readTree(t, text); !impl.SameTree(again, folded) {
			t.Fatalf("FoldedText(%q, %d, %d) is\n%s\nwhich is read as %v; want %v", source, width, budget, text, again, folded)
		}
		if again, ok := impl.FoldedText(text, width, budget); again != text || !ok {
			t.Fatalf("FoldedText of %q, which FoldedText wrote, is %q, %v", text, again, ok)
		}
	}
	return text
}

// foldsTo holds a source, how many of its values become numbers, and what it becomes, by hand.
func foldsTo(t *testing.T, source string, count int, want string) {
	t.Helper()
	if got := foldedTextIs(t, source, wide, enough); got != want {
		t.Errorf("FoldedText of %q is\n%s; want\n%s", source, got, want)
	}
	nodes := readTree(t, source)
	if got := impl.FoldsIn(nodes); got != count {
		t.Errorf("FoldsIn of %q is %d; want %d", source, got, count)
	}
	if !impl.SameTree(impl.Folded(nodes), readTree(t, want)) {
		t.Errorf("Folded of %q is not what is read of %q", source, want)
	}
}

func valueFoldsTo(t *testing.T, value string, count int, want string) {
	t.Helper()
	foldsTo(t, "var v = "+value+";", count, "var v = "+want+";\n")
}

// valueStays is of a value that has nothing to be reckoned in it.
func valueStays(t *testing.T, values ...string) {
	t.Helper()
	for _, value := range values {
		valueFoldsTo(t, value, 0, value)
	}
}

// isKnown has by hand what number a value is, and whether it may stand for it.
func isKnown(t *testing.T, value string, num int, foldable bool) {
	t.Helper()
	nodes, k := valueIn(t, value)
	if got, ok := impl.ConstOf(nodes, k); got != num || !ok {
		t.Errorf("ConstOf %s is %d, %v; want %d", value, got, ok, num)
	}
	if got := impl.Foldable(nodes, k); got != foldable {
		t.Errorf("Foldable of %s is %v", value, got)
	}
	foldedTextIs(t, "var v = "+value+";", 80, 100)
}

func isUnknown(t *testing.T, values ...string) {
	t.Helper()
	for _, value := range values {
		nodes, k := valueIn(t, value)
		if got, ok := impl.ConstOf(nodes, k); got != 0 || ok {
			t.Errorf("ConstOf %s is %d, %v", value, got, ok)
		}
		if impl.Foldable(nodes, k) {
			t.Errorf("Foldable of %s is true", value)
		}
		foldedTextIs(t, "var v = "+value+";", 80, 100)
	}
}

func TestFoldsOfTheDocument(t *testing.T) {
	foldsTo(t, "var a = b + (2 + 3) * 4; var c = 1 - 2;", 1, "var a = b + 20;\nvar c = 1 - 2;\n")
	nodes, k := valueIn(t, "2 * 3 + 1")
	if num, ok := impl.ConstOf(nodes, k); num != 7 || !ok || !impl.Foldable(nodes, k) {
		t.Errorf("2 * 3 + 1 is %d, %v", num, ok)
	}
	if got := isFolded(t, nodes); !impl.SameTree(got, nodesOf([]string{"num 7", "var v 0", "file 1"})) {
		t.Errorf("Folded is %v", got)
	}
}

func TestWhatIsKnown(t *testing.T) {
	for value, num := range map[string]int{
		"1 + 2": 3, "5 - 3": 2, "2 * 3": 6, "1 + 2 + 3": 6, "9 - 3 - 2": 4, "2 * 3 * 4": 24, "1 + 2 * 3": 7, "2 * 3 + 1": 7, "10 - 2 * 3": 4, "2 * 3 - 4 * 1": 2, "8 - 3 + 4 - 1": 8,
		"8 - (3 + 4)": 1, "(8 - 3) * 4": 20, "2 * (3 + 4) * (5 - 2)": 42, "((1) + ((2)))": 3, "(((1 + 2)) * 3)": 9, "100 - (50 - (20 - (8 - 3)))": 65,
		"0 + 0": 0, "0 * 7": 0, "7 - 7": 0, "1 - 2 + 1": 0, "1 - 2 + 5": 4, "(1 - 2) * (3 - 5)": 2, "3 - (1 - 2)": 4, "(0 - 3) * (0 - 3)": 9, "0 * (1 - 2)": 0, "(0 - 1) * 0": 0,
		"007 + 1": 8, "000 + 000": 0, "0 - 0": 0,
	} {
		// What is in brackets is known, but it is no chain.
		isKnown(t, value, num, !strings.HasPrefix(value, "((") || value == "((1 + 2)) * 3")
		isKnown(t, "("+value+")", num, false)
		isKnown(t, "1 + ("+value+")", num+1, true)
		isUnknown(t, "a + ("+value+")", "("+value+") - a", "1 * ("+value+") * a")
	}
	for value, num := range map[string]int{"1 - 2": -1, "0 - 1": -1, "3 - 4 + 0": -1, "3 + (1 - 2) * 4": -1, "2 * (3 - 4)": -2, "1 - 2 - 3": -4, "(1 - 2) * 7": -7, "5 * (0 - 5) + 24": -1} {
		isKnown(t, value, num, false)
		isKnown(t, "("+value+")", num, false)
		isKnown(t, "0 - ("+value+")", -num, true)
		valueStays(t, value, "("+value+")", "a + ("+value+")")
	}
	for value, num := range map[string]int{"0": 0, "7": 7, "(7)": 7, "((7))": 7, "007": 7, "000000000": 0, "((((0))))": 0} {
		isKnown(t, value, num, false)
		valueStays(t, value, "f("+value+")", "a + "+value, value+" - a")
	}
}

func TestWhatIsUnknown(t *testing.T) {
	isUnknown(t, "a", "'1'", "[1]", "[]", "f()", "f(1)", "1(2)", "1.a", "(1).a", "1 ? 2 : 3", "() => 1", "(a) => 1", "1..f()", "(a)", "('1')", "([1])", "(f(1))", "(1 ? 2 : 3)")
	for _, mark := range marksOfChains[:4] {
		isUnknown(t, "1 "+mark+" 2", "1 "+mark+" 1", "(1 "+mark+" 2)", "1 "+mark+" 2 "+mark+" 3", "2 + (1 "+mark+" 2)", "(1 "+mark+" 2) * 0", "0 * (1 "+mark+" 2)")
		valueStays(t, "1 "+mark+" 2", "(1 "+mark+" 2) + 3", "3 + (1 "+mark+" 2)", "3 "+mark+" a "+mark+" 4")
	}
	for _, mark := range marksOfChains[4:] {
		isUnknown(t, "a "+mark+" 1", "1 "+mark+" a", "1 "+mark+" 2 "+mark+" a", "1 "+mark+" a "+mark+" 2", "a "+mark+" 1 "+mark+" 2", "1 "+mark+" '2'", "1 "+mark+" [2]", "1 "+mark+" f(2)", "1 "+mark+" 2.a", "1 "+mark+" (2 ? 3 : 4)", "(1..f()) "+mark+" 2")
		valueStays(t, "a "+mark+" 1 "+mark+" 2", "1 "+mark+" 2 "+mark+" a", "1 "+mark+" a "+mark+" 2")
	}
	isUnknown(t, "a * 0", "0 * a", "a - a", "0 * f()", "1234567890 * 0", "0 * 1234567890")
}

// TestFoldsInOneAnother has chains of which the outermost that may be a number becomes one, or those in it.
func TestFoldsInOneAnother(t *testing.T) {
	for _, c := range []struct {
		value string
		count int
		want  string
	}{
		{"1 + 2", 1, "3"},
		{"1 + 2 * 3", 1, "7"},
		{"(1 + 2) * 3", 1, "9"},
		{"((1 + 2))", 1, "((3))"},
		{"(1 + 2) * (3 + 4) * (5 + 6)", 1, "231"},
		{"a + 1 + 2", 0, "a + 1 + 2"},
		{"1 + 2 + a", 0, "1 + 2 + a"},
		{"1 + 2 - a", 1, "3 - a"},
		{"1 - 2 + a", 0, "1 - 2 + a"},
		{"3 - 2 + a", 1, "1 + a"},
		{"a - 1 + 2", 0, "a - 1 + 2"},
		{"a - (1 + 2)", 1, "a - (3)"},
		{"a + 2 * 3 + 4 * 5", 2, "a + 6 + 20"},
		{"2 * 3 * a", 0, "2 * 3 * a"},
		{"(2 * 3) * a", 1, "(6) * a"},
		{"(1 + (2 + 3) * a) * (4 + 5)", 2, "(1 + (5) * a) * (9)"},
		{"1 - (2 + 3)", 1, "1 - (5)"},
		{"(2 + 3) - (4 + 5)", 2, "(5) - (9)"},
		{"2 * 3 - 4 * 5", 2, "6 - 20"},
		{"2 * 3 - 4 * 5 + 14", 1, "0"},
		{"2 * 3 - 4 * 5 + 13", 2, "6 - 20 + 13"},
		{"(1 - 2) * (3 - 4)", 1, "1"},
		{"(1 - 2) * (3 + 4)", 1, "(1 - 2) * (7)"},
		{"(0 - 1) * (0 - 2) * (0 - 3)", 0, "(0 - 1) * (0 - 2) * (0 - 3)"},
		{"a * (1 - 2) * (2 + 3)", 1, "a * (1 - 2) * (5)"},
		{"1 + 2 - 4", 1, "3 - 4"},
		{"3 - (1 - 2) * (0 - 4)", 1, "3 - 4"},
		{"1 + 2 - 4 + 1", 1, "0"},
		{"1 + 2 - 5 + 1", 1, "3 - 5 + 1"},
		{"1 + 2 - 5 + 1 - a", 1, "3 - 5 + 1 - a"},
		{"1 + 2 < 3 * 4", 2, "3 < 12"},
		{"1 + 2 < a < 3 * 4", 2, "3 < a < 12"},
		{"1 + 2 == 3", 1, "3 == 3"},
		{"1 + 2 == 3 == 5 - 4", 2, "3 == 3 == 1"},
		{"1 + 2 && 3 - 4 && 5 - 5", 2, "3 && 3 - 4 && 0"},
		{"1 + 2 || 3 * 4 || a", 2, "3 || 12 || a"},
		{"(1 + 2 < 3) + 4 * 5", 2, "(3 < 3) + 20"},
		{"(1 + 2 ? 3 : 4) + 5", 1, "(3 ? 3 : 4) + 5"},
		{"2 * ((1 + 2) + a)", 1, "2 * ((3) + a)"},
		{"1234567890 + 1 * 2", 1, "1234567890 + 2"},
		{"999999999 * 2 - 999999999", 0, "999999999 * 2 - 999999999"},
		{"999999999 + 1 - 1", 1, "999999999"},
		{"999999999 * (1 + 1)", 1, "999999999 * (2)"},
		{"999999999 + 1 + 0 * 1", 1, "999999999 + 1 + 0"},
		{"007 + 1 + a - 007", 0, "007 + 1 + a - 007"},
		{"(007 + 1) - a - 007", 1, "(8) - a - 007"},
	} {
		valueFoldsTo(t, c.value, c.count, c.want)
	}
}

// TestFoldsInEachPlace has a chain of numbers in each place of a value, in brackets and, where they need not be, without.
func TestFoldsInEachPlace(t *testing.T) {
	for _, place := range placesOfValues {
		inPlace := func(text string) string { return strings.Replace(place.text, "@", text, 1) }
		for _, value := range []struct {
			level int
			text  string
			num   string
		}{{6, "2 + 3", "5"}, {6, "7 - 3", "4"}, {7, "2 * 3", "6"}, {6, "1 + 2 + 3", "6"}, {6, "9 - 1 - 1", "7"}, {6, "2 * 3 + 4 * (5 + 6)", "50"}, {6, "3 - 3", "0"}, {7, "2 * (4 - 1)", "6"}} {
			valueFoldsTo(t, inPlace("("+value.text+")"), 1, inPlace("("+value.num+")"))
			valueFoldsTo(t, inPlace("(("+value.text+"))"), 1, inPlace("(("+value.num+"))"))
			if value.level >= place.least || place.loose != "" && strings.Contains(value.text, " "+place.loose+" ") && !strings.Contains(value.text, "*") {
				valueFoldsTo(t, inPlace(value.text), 1, inPlace(value.num))
			}
		}
		for _, value := range []string{"(a)", "(3 - 7)", "(1 < 2)", "('1')", "(1234567890 + 1)", "(999999999 + 1)", "7", "(7)"} {
			valueStays(t, inPlace(value))
		}
	}
}

func TestFoldsOfStatements(t *testing.T) {
	foldsTo(t, "class C{var a=1+2;m(b){return(3*4);}}", 2, "class C {\n  var a = 3;\n  m(b) {\n    return (12);\n  }\n}\n")
	for before, after := range map[string]string{
		"var a=@;": "var a = @;", "a=@;": "a = @;", "@;": "@;", "return @;": "return @;",
		"if(@){}": "if (@) {\n  }", "if(@){}else{}": "if (@) {\n  } else {\n  }", "while(@){}": "while (@) {\n  }",
	} {
		foldsTo(t, "m(){"+strings.Replace(before, "@", "4*5-6", 1)+"}", 1, "m() {\n  "+strings.Replace(after, "@", "14", 1)+"\n}\n")
	}
	foldsTo(t, "m(){if(1+1){a=2+2;}else{while(3+3){4+4;}}}", 4, "m() {\n  if (2) {\n    a = 4;\n  } else {\n    while (6) {\n      8;\n    }\n  }\n}\n")
	foldsTo(t, "// 1 + 2\nvar a = '1 + 2';\n\n\nvar b = 1 + 2;\nclass C{\n\nvar c;\n\n// 3 + 4\nm(d) {\n\nd = 3 + 4;\n\nd;\n} }", 2,
		"// 1 + 2\nvar a = '1 + 2';\n\nvar b = 3;\nclass C {\n  var c;\n\n  // 3 + 4\n  m(d) {\n    d = 7;\n\n    d;\n  }\n}\n")
	foldsTo(t, "", 0, "")
	foldsTo(t, "// 1 + 2\n", 0, "// 1 + 2\n")
	foldsTo(t, "var a = 12 + 34;", 1, "var a = 46;\n")
	// Where ReadSource sets none, a Blank stays, too.
	nodes := nodesOf([]string{"num 1", "num 2", "chain - 1 0", "blank do 2", "blank note // n", "block 3 4", "blank method m 5", "file 6"})
	if got := isFolded(t, nodes); !impl.SameTree(got, nodesOf([]string{"num 1", "blank do 0", "blank note // n", "block 1 2", "blank method m 3", "file 4"})) {
		t.Errorf("Folded is %v", got)
	}
}

// TestFoldsInOrder has nodes by hand in another order than that in which they end.
func TestFoldsInOrder(t *testing.T) {
	for _, c := range []struct{ nodes, want []string }{
		{[]string{"num 1", "num 3", "chain - 1 0", "var v 2", "file 3"}, []string{"num 2", "var v 0", "file 1"}},
		{[]string{"num 1", "num 3", "chain - 0 1", "var v 2", "file 3"}, []string{"num 1", "num 3", "chain - 0 1", "var v 2", "file 3"}},
		{[]string{"num 3", "num 1", "chain - 1 0", "var v 2", "file 3"}, []string{"num 1", "num 3", "chain - 0 1", "var v 2", "file 3"}},
		{[]string{"num 1", "name a", "chain + 1 0", "var v 2", "file 3"}, []string{"name a", "num 1", "chain + 0 1", "var v 2", "file 3"}},
		{[]string{"num 4", "num 3", "num 2", "num 1", "chain + 3 2", "chain * 1 0", "chain < 5 4", "var v 6", "file 7"}, []string{"num 12", "num 3", "chain < 0 1", "var v 2", "file 3"}},
		{[]string{"num 2", "name a", "num 3", "num 4", "chain * 0 3", "chain - 1 2", "list 4 5", "var v 6", "var w", "file 8 7"}, []string{"var w", "num 8", "name a", "num 3", "chain - 2 3", "list 1 4", "var v 5", "file 0 6"}},
		{[]string{"var v", "note // n", "file 1 0"}, []string{"note // n", "var v", "file 0 1"}},
	} {
		nodes := nodesOf(c.nodes)
		constsAre(t, nodes)
		if got := isFolded(t, nodes); !impl.SameTree(got, nodesOf(c.want)) {
			t.Errorf("Folded of %q is %v", c.nodes, got)
		}
	}
}

// TestFoldsThatAreNotRead has chains where none is read without brackets: they are values all the same.
func TestFoldsThatAreNotRead(t *testing.T) {
	for _, c := range []struct {
		nodes []string
		count int
		want  []string
	}{
		{[]string{"num 2", "num 3", "chain + 0 1", "num 4", "chain * 2 3", "var v 4", "file 5"}, 1, []string{"num 20", "var v 0", "file 1"}},
		{[]string{"num 2", "num 3", "chain + 0 1", "num 4", "chain + 3 2", "var v 4", "file 5"}, 1, []string{"num 9", "var v 0", "file 1"}},
		{[]string{"num 2", "num 3", "chain + 0 1", "dot a 2", "var v 3", "file 4"}, 1, []string{"num 5", "dot a 0", "var v 1", "file 2"}},
		{[]string{"num 2", "num 3", "chain + 0 1", "num 4", "num 5", "chain * 3 4", "call 2 5", "var v 6", "file 7"}, 2, []string{"num 5", "num 20", "call 0 1", "var v 2", "file 3"}},
		{[]string{"name a", "num 2", "num 3", "chain * 1 2", "chain * 0 3", "var v 4", "file 5"}, 1, []string{"name a", "num 6", "chain * 0 1", "var v 2", "file 3"}},
		{[]string{"num 2", "num 3", "chain < 0 1", "num 4", "chain + 2 3", "var v 4", "file 5"}, 0, []string{"num 2", "num 3", "chain < 0 1", "num 4", "chain + 2 3", "var v 4", "file 5"}},
	} {
		nodes := nodesOf(c.nodes)
		constsAre(t, nodes)
		if got := isFolded(t, nodes); !impl.SameTree(got, nodesOf(c.want)) || impl.FoldsIn(nodes) != c.count {
			t.Errorf("Folded of %q is %v", c.nodes, got)
		}
	}
}

// numberBy is a value of the number by figures, as a source may have it.
func numberBy(num int) string {
	switch {
	case num == impl.MaxValue:
		return "(999999999 + 1)"
	case num == -impl.MaxValue:
		return "(0 - 999999999 - 1)"
	case num < 0:
		return "(0 - " + strconv.Itoa(-num) + ")"
	}
	return strconv.Itoa(num)
}

func TestFoldsAtTheirLimits(t *testing.T) {
	const most, half = impl.MaxValue, impl.MaxValue / 2
	for _, c := range []struct {
		a    int
		mark string
		b    int
	}{
		{most, "+", 0}, {most - 1, "+", 1}, {most - 2, "+", 1}, {1 - most, "+", -1}, {-most, "+", 0}, {most, "+", -most}, {half, "+", half}, {most, "+", -1}, {most, "+", -2}, {-1, "+", 1}, {-2, "+", 1}, {0, "+", -1},
		{most, "-", 0}, {most - 1, "-", -1}, {1 - most, "-", 1}, {-most, "-", 0}, {0, "-", most}, {0, "-", -most}, {most, "-", most}, {-half, "-", half}, {most, "-", 1}, {most, "-", 2}, {7, "-", 7}, {7, "-", 8},
		{most, "*", 1}, {most, "*", -1}, {half, "*", 2}, {half, "*", -2}, {-half, "*", -2}, {31622, "*", 31622}, {most, "*", 0}, {0, "*", -most}, {333333333, "*", 3}, {100000, "*", 10000}, {-1, "*", -1}, {-1, "*", 1}, {most - 1, "*", 1},
	} {
		num := map[string]int{"+": c.a + c.b, "-": c.a - c.b, "*": c.a * c.b}[c.mark]
		value := numberBy(c.a) + " " + c.mark + " " + numberBy(c.b)
		isKnown(t, value, num, num >= 0 && num <= 999999999)
	}
	for _, c := range []struct {
		a    int
		mark string
		b    int
	}{
		{most, "+", 1}, {most - 1, "+", 2}, {most, "+", most}, {-most, "+", -1}, {1 - most, "+", -2}, {-most, "+", -most}, {half, "+", half + 1}, {-half, "+", -half - 1},
		{most, "-", -1}, {-most, "-", 1}, {1 - most, "-", 2}, {most, "-", -most}, {-most, "-", most}, {-half, "-", half + 1},
		{most, "*", 2}, {half + 1, "*", 2}, {half + 1, "*", -2}, {31623, "*", 31623}, {most, "*", most}, {-most, "*", -most}, {most, "*", -most}, {most - 1, "*", most - 1}, {100000, "*", 10001}, {333333334, "*", 3},
	} {
		value := numberBy(c.a) + " " + c.mark + " " + numberBy(c.b)
		// What comes later doesn't bring it back.
		isUnknown(t, value, value+" - "+numberBy(c.b), value+" + "+numberBy(-c.b), "("+value+") * 0", "0 * ("+value+")", "1 - ("+value+")", "("+value+")")
	}
	// 1 more or less of what comes out is the limit of what becomes a number.
	valueFoldsTo(t, "999999998 + 1", 1, "999999999")
	valueStays(t, "999999999 + 1", "999999998 + 2", "1 - 2", "0 - 1", "0 - 999999999", "0 - 999999999 - 1")
	valueFoldsTo(t, "500000000 * 2 - 1", 1, "999999999")
	valueFoldsTo(t, "0 - 999999999 - 1 + 999999999 + 1", 1, "0")
	valueFoldsTo(t, "(0 - 999999999 - 1) * (0 - 1) - 1", 1, "999999999")
	valueFoldsTo(t, "1 - 1", 1, "0")
	valueFoldsTo(t, "a + 500000000 * 2", 0, "a + 500000000 * 2")
	valueFoldsTo(t, "a + 499999999 * 2", 1, "a + 999999998")
	// Halfway too great, by a step of each mark.
	valueStays(t, "999999999 + 2 - 2", "0 - 999999999 - 2 + 2", "999999999 * 2 - 999999999", "500000001 * 2 * 0", "(999999999 + 2) * 0", "0 * (999999999 + 2)", "99999 * 99999 - 99999 * 99999")
}

func TestFoldsOfManyFigures(t *testing.T) {
	// Figures are counted, not what they tell: 9 may be, 10 may not, up to the 12 that a number may have.
	for count := 1; count <= 12; count++ {
		for _, figures := range []string{strings.Repeat("0", count), strings.Repeat("9", count), strings.Repeat("0", count-1) + "7", "1" + strings.Repeat("0", count-1)} {
			if count > 9 {
				isUnknown(t, figures, "("+figures+")", figures+" + 0", "0 * "+figures, "0 - "+figures, figures+" - "+figures)
				valueStays(t, figures+" + 1", figures+" - 1", "1 * "+figures)
				continue
			}
			num, _ := strconv.Atoi(figures)
			isKnown(t, figures, num, false)
			isKnown(t, figures+" + 0", num, true)
			valueStays(t, figures, "("+figures+")", "a + "+figures)
			valueFoldsTo(t, "0 + "+figures, 1, strconv.Itoa(num))
			valueFoldsTo(t, figures+" * 1", 1, strconv.Itoa(num))
			isKnown(t, "0 - "+figures, -num, num == 0)
		}
	}
}

// numbersInOneAnother is a value of so many nodes in one another; each chain has one 1 more.
func numbersInOneAnother(deep int) ([]impl.Node, int) {
	m := &treeMaker{}
	value := m.add(impl.NdNum, "1")
	for i := range deep - 1 {
		if i%3 == 2 {
			value = m.add(impl.NdPar, "", value)
			continue
		}
		value = m.add(impl.NdChain, "+", value, m.add(impl.NdNum, "1"))
	}
	return m.nodes, value
}

func TestFoldsOfTheDeepest(t *testing.T) {
	for deep := 1; deep <= impl.MaxDeep+3; deep++ {
		nodes, k := numbersInOneAnother(deep)
		constsAre(t, nodes)
		num, ok := impl.ConstOf(nodes, k)
		if want := deep - (deep-1)/3; ok != (deep <= impl.MaxDeep) || ok && num != want {
			t.Errorf("ConstOf a value %d deep is %d, %v", deep, num, ok)
		}
		if want := deep <= impl.MaxDeep && deep%3 != 1; impl.Foldable(nodes, k) != want {
			t.Errorf("Foldable of a value %d deep is not %v", deep, want)
		}
		file := append(nodes, impl.Node{Kind: impl.NdVar, Text: "v", Kids: []int{k}}, impl.Node{Kind: impl.NdFile, Kids: []int{k + 1}})
		constsAre(t, file)
		folded := isFolded(t, file)
		isRight := deep+2 <= impl.MaxDeep
		if impl.TreeOk(file) != isRight || isRight != (impl.FoldsIn(file) == 1) && deep > 1 {
			t.Errorf("FoldsIn of a file of a value %d deep is %d", deep, impl.FoldsIn(file))
		}
		if isRight && deep > 1 && len(folded) != 3+map[bool]int{true: 1}[deep%3 == 1] {
			t.Errorf("a value %d deep is folded to %v", deep, folded)
		}
	}
	valueFoldsTo(t, inOneAnother("(", "1 + 2", ")", 9), 1, inOneAnother("(", "3", ")", 9))
	valueFoldsTo(t, inOneAnother("(", "1", ")", 8)+" + 2", 1, "3")
	valueFoldsTo(t, inOneAnother("(1 + ", "1", ")", 5), 1, "(6)")
	isNotRead(t, "var v = "+inOneAnother("(", "1 + 2", ")", 11)+";", 0)
	foldedTextIs(t, "var v = "+inOneAnother("(", "1 + 2", ")", 11)+";", 80, 100)
}

// foldsWide has so many nodes, chains of two numbers as long as there is room for them.
func foldsWide(size int) ([]impl.Node, int) {
	m, classes, count := &treeMaker{}, []int{}, 0
	for len(m.nodes) < size-1 {
		vars := []int{}
		for range mostKids {
			switch left := size - 2 - len(m.nodes); {
			case left >= 4:
				vars = append(vars, m.add(impl.NdVar, "v", m.add(impl.NdChain, "+", m.add(impl.NdNum, "1"), m.add(impl.NdNum, strconv.Itoa(count)))))
				count++
			case left >= 1:
				vars = append(vars, m.add(impl.NdVar, "v"))
			}
		}
		classes = append(classes, m.add(impl.NdClass, "C", vars...))
	}
	m.add(impl.NdFile, "", classes...)
	return m.nodes, count
}

func TestFoldsOfTheMostNodes(t *testing.T) {
	for _, size := range []int{1, 2, 3, 5, 6, 7, 50, 298, 299, 300, 301, 302, 400} {
		nodes, count := foldsWide(size)
		if len(nodes) != size || impl.TreeOk(nodes) != (size <= impl.MaxNodes) {
			t.Fatalf("a tree of %d nodes has %d, or is not right", size, len(nodes))
		}
		constsAre(t, nodes)
		folded := isFolded(t, nodes)
		if size > impl.MaxNodes {
			count = 0
		}
		if impl.FoldsIn(nodes) != count || len(folded) != size-2*count {
			t.Errorf("of %d nodes %d are folded, and %d are left", size, impl.FoldsIn(nodes), len(folded))
		}
	}
	// A list that is too long for a tree has numbers all the same.
	nodes, _ := foldsWide(3000)
	if num, ok := impl.ConstOf(nodes, 2); num != 1 || !ok || !impl.Foldable(nodes, 2) {
		t.Errorf("a chain in more nodes than a tree may have is %d, %v", num, ok)
	}
	list := []impl.Node{}
	for range 4000 {
		list = append(list, impl.Node{Kind: impl.NdNum, Text: "4"})
	}
	last := len(list)
	list = append(list, impl.Node{Kind: impl.NdChain, Text: "*", Kids: []int{0, 3999, 17}})
	if num, ok := impl.ConstOf(list, last); num != 64 || !ok || !impl.Foldable(list, last) || impl.Foldable(list, 3999) {
		t.Errorf("a chain of far numbers is %d, %v", num, ok)
	}
	nums := []string{}
	for i := range mostKids {
		nums = append(nums, strconv.Itoa(i))
	}
	valueFoldsTo(t, strings.Join(nums, " + "), 1, "66")
	valueFoldsTo(t, "["+strings.Join(nums, " + ")+", 1 + 1]", 2, "[66, 2]")
	sums := slices.Repeat([]string{"1 + 1"}, mostKids)
	valueFoldsTo(t, "["+strings.Join(sums, ", ")+"]", mostKids, "["+strings.Join(slices.Repeat([]string{"2"}, mostKids), ", ")+"]")
	for _, size := range []int{299, 300, 301} {
		foldedTextIs(t, wideSource(size), 80, 100)
	}
}

// TestFoldsOfKidsOfMany has lists in which each node is the kid of twelve others, and these are the Kids of twelve: there are too many ways down to go them all.
func TestFoldsOfKidsOfMany(t *testing.T) {
	m := &treeMaker{}
	kids := []int{}
	for range mostKids {
		kids = append(kids, m.add(impl.NdNum, "1"))
	}
	for range impl.MaxDeep - 1 {
		chains := []int{}
		for range mostKids {
			chains = append(chains, m.add(impl.NdChain, "*", kids...))
		}
		kids = chains
	}
	for _, k := range kids {
		if num, ok := impl.ConstOf(m.nodes, k); num != 1 || !ok || !impl.Foldable(m.nodes, k) {
			t.Fatalf("ConstOf(%d) is %d, %v", k, num, ok)
		}
	}
	deeper := m.add(impl.NdChain, "*", kids...)
	file := m.add(impl.NdFile, "", m.add(impl.NdVar, "v", kids[0]))
	for _, k := range []int{deeper, file} {
		if num, ok := impl.ConstOf(m.nodes, k); num != 0 || ok || impl.Foldable(m.nodes, k) {
			t.Errorf("ConstOf(%d) is %d, %v", k, num, ok)
		}
	}
	if !impl.SameTree(impl.Folded(m.nodes), m.nodes) || impl.FoldsIn(m.nodes) != 0 {
		t.Error("Folded or FoldsIn of what is no tree")
	}
}

func TestFoldsByHand(t *testing.T) {
	// var v = (1 - 2) * 3; var w = 4 + 5;
	nodes := nodesOf([]string{"num 1", "num 2", "chain - 0 1", "par 2", "num 3", "chain * 3 4", "var v 5", "num 4", "num 5", "chain + 7 8", "var w 9", "file 6 10"})
	for k, want := range []int{1, 2, -1, -1, 3, -3, 0, 4, 5, 9, 0, 0} {
		if got, ok := impl.ConstOf(nodes, k); got != want || ok != (want != 0) {
			t.Errorf("ConstOf at %d is %d, %v", k, got, ok)
		}
		if got := impl.Foldable(nodes, k); got != (k == 9) {
			t.Errorf("Foldable at %d is %v", k, got)
		}
	}
	for _, k := range farFrom(len(nodes)) {
		if got, ok := impl.ConstOf(nodes, k); got != 0 || ok || impl.Foldable(nodes, k) {
			t.Errorf("ConstOf at %d is %d, %v", k, got, ok)
		}
	}
	// Behind a node that is wrong none has a depth; those ahead of it have one.
	for at, turn := range map[int]func(node *impl.Node){
		0: func(node *impl.Node) { node.Text = "x" },
		4: func(node *impl.Node) { node.Text = "" },
		5: func(node *impl.Node) { node.Text = "/" },
		8: func(node *impl.Node) { node.Blank = true },
		9: func(node *impl.Node) { node.Kids = []int{7, 10} },
	} {
		wrong := cloneTree(nodes)
		turn(&wrong[at])
		constsAre(t, wrong)
		isFolded(t, wrong)
		for k := range wrong {
			num, ok := impl.ConstOf(wrong, k)
			was, is := impl.ConstOf(nodes, k)
			if k >= at && (ok || num != 0 || impl.Foldable(wrong, k)) || k < at && (num != was || ok != is) {
				t.Errorf("with %d turned ConstOf at %d is %d, %v", at, k, num, ok)
			}
		}
		if !impl.SameTree(impl.Folded(wrong), wrong) || impl.FoldsIn(wrong) != 0 {
			t.Errorf("with %d turned it is folded", at)
		}
	}
	constsAre(t, nodes)
	if got := isFolded(t, nodes); !impl.SameTree(got, nodesOf([]string{"num 1", "num 2", "chain - 0 1", "par 2", "num 3", "chain * 3 4", "var v 5", "num 9", "var w 7", "file 6 8"})) || impl.FoldsIn(nodes) != 1 {
		t.Errorf("Folded is %v", got)
	}
}

func TestFoldsOfWhatIsNoValue(t *testing.T) {
	nodes := readTree(t, "class C { var a = 1 + 2; // 3\n m(b) { b = 1 + 2; f(1 + 2); return 1 + 2; } } n() { if (1 + 2) { while (1 + 2) { } } else { } }")
	for k, node := range nodes {
		num, ok := impl.ConstOf(nodes, k)
		isValue := node.Kind == impl.NdNum || node.Kind == impl.NdChain
		if ok != isValue || !ok && num != 0 || impl.Foldable(nodes, k) != (node.Kind == impl.NdChain) {
			t.Errorf("ConstOf of the kind %d is %d, %v", node.Kind, num, ok)
		}
	}
	whole, _ := wholeTree()
	constsAre(t, whole)
	isFolded(t, whole)
	if impl.FoldsIn(nodes) != 6 {
		t.Errorf("FoldsIn is %d", impl.FoldsIn(nodes))
	}
}

func TestFoldsOfWrongTrees(t *testing.T) {
	for why, nodes := range wrongTrees() {
		if impl.TreeOk(nodes) {
			t.Fatalf("%s is right", why)
		}
		// With a chain of numbers ahead of all it is as wrong as it was.
		chain := nodesOf([]string{"num 1", "num 2", "chain + 0 1"})
		for _, node := range cloneTree(nodes) {
			for i := range node.Kids {
				node.Kids[i] += 3
			}
			chain = append(chain, node)
		}
		for _, list := range [][]impl.Node{nodes, chain} {
			constsAre(t, list)
			if got := isFolded(t, list); !impl.TreeOk(list) && (!impl.SameTree(got, list) || impl.FoldsIn(list) != 0) {
				t.Errorf("%s is folded", why)
			}
		}
		if num, ok := impl.ConstOf(chain, 2); num != 3 || !ok {
			t.Errorf("ConstOf ahead of %s is %d, %v", why, num, ok)
		}
	}
	for _, kid := range append(farFrom(1), 0) {
		for kind := -1; kind <= impl.NdFile+1; kind++ {
			for _, mark := range []string{rightTexts[kind], "*", "1", ""} {
				nodes := []impl.Node{{Kind: impl.NdNum, Text: "1"}, {Kind: kind, Text: mark, Kids: []int{0, kid}}, {Kind: impl.NdFile, Kids: []int{0, 1}}}
				constsAre(t, nodes)
				isFolded(t, nodes)
			}
		}
	}
}

// TestFoldsWithoutAFile has lists that are no trees, but whose nodes have a depth.
func TestFoldsWithoutAFile(t *testing.T) {
	nodes, _ := valueIn(t, "(1 + 2) * (3 + a)")
	for size := range nodes {
		constsAre(t, nodes[:size])
		if got := isFolded(t, nodes[:size]); !impl.SameTree(got, nodes[:size]) || impl.FoldsIn(nodes[:size]) != 0 {
			t.Errorf("Folded of the first %d nodes is %v", size, got)
		}
	}
	twice := append(cloneTree(nodes), impl.Node{Kind: impl.NdFile, Kids: nodes[len(nodes)-1].Kids})
	nobodys := slices.Insert(cloneTree(nodes), len(nodes)-1, impl.Node{Kind: impl.NdNum, Text: "1"})
	for _, list := range [][]impl.Node{twice, nobodys} {
		constsAre(t, list)
		if got := isFolded(t, list); !impl.SameTree(got, list) || impl.FoldsIn(list) != 0 || !impl.Foldable(list, 2) {
			t.Errorf("Folded of what is no tree is %v", got)
		}
	}
}

func TestFoldedTextOfNoSources(t *testing.T) {
	for _, source := range []string{
		"$", "\x00", "\xff", "var", "var a", "var a = 1 +;", "var a = + 1;", "var a = - 1;", "var a = 1 + 2", "var a = 1 2;", "var a = 1 / 2;", "var a = (1 + 2;", "var a = 1 + 2);", "var a = 1 + ();", "1 + 2;", "m() { 1 = 2; }", "m() { 1 + 2 }", "var a = 1 ++ 2;", "var a = 1234567890123 + 1;",
		blanks(impl.MaxSource + 1), "var v = " + inOneAnother("(", "1 + 2", ")", 12) + ";", wideSource(impl.MaxNodes + 1), "var v = " + strings.Repeat("1 + ", mostKids) + "1;",
	} {
		if _, _, ok := impl.ReadSource(source); ok {
			t.Fatalf("%q is a source", source)
		}
		for _, width := range []int{-1, 0, 10, 80} {
			if text, ok := impl.FoldedText(source, width, 100); ok || text != "" {
				t.Errorf("FoldedText(%q, %d, 100) is %q, %v", source, width, text, ok)
			}
		}
	}
	for _, source := range []string{"", " ", "\n", blanks(impl.MaxSource)} {
		if text, ok := impl.FoldedText(source, 80, 100); !ok || text != "" {
			t.Errorf("FoldedText(%q, 80, 100) is %q, %v", source, text, ok)
		}
	}
}

func TestFoldedTextAtTheMostBytes(t *testing.T) {
	for size := impl.MaxSource - 3; size <= impl.MaxSource+3; size++ {
		source := "var v = 1 + 2;"
		source += blanks(size - len(source))
		text, ok := impl.FoldedText(source, 80, 100)
		if want := size <= impl.MaxSource; ok != want || want != (text == "var v = 3;\n") {
			t.Errorf("FoldedText of %d bytes is %q, %v", size, text, ok)
		}
	}
}

// TestFoldedTextAtOddBounds has bounds that Format would refuse: SparedText has none.
func TestFoldedTextAtOddBounds(t *testing.T) {
	for _, source := range []string{"var v = a + (2 + 3) * (f(4 * 5, [6, 7 - 8]));", "m() { 1 + 2; return a ? 3 * 4 : 5 - 6; }"} {
		for _, width := range append([]int{7, 9, 10, 11, 15, 20, 200, 201}, oddWidths...) {
			for _, budget := range append([]int{100000, 100001}, oddBudgets...) {
				foldedTextIs(t, source, width, budget)
			}
		}
	}
	if text, ok := impl.FoldedText("var v = aaaa + 11 * 11;", 8, enough); !ok || text != "var v =\n    aaaa +\n    121;\n" {
		t.Errorf("with a width of 8 it is %q, %v", text, ok)
	}
}

func TestFoldedIsNewMemory(t *testing.T) {
	const source = "var all = (first + 12 * 34) * ('text');\nclass Box { m(item) { item.size - 56; 78 - 9; // a note\n } }"
	right := readTree(t, source)
	for _, nodes := range [][]impl.Node{right, right[:len(right)-1], readTree(t, "var all = first + 123;"), readTree(t, "var all = 1 + 2;")} {
		held, handed, texts := cloneTree(nodes), []string{}, []string{}
		for _, node := range nodes {
			handed = append(handed, node.Text)
		}
		list := impl.Folded(nodes)
		for k, node := range list {
			texts = append(texts, node.Text)
			room := node.Kids[:cap(node.Kids)]
			for i := range room {
				room[i] = -7
			}
			list[k].Text = "turned"
		}
		isNewMemory(t, "Folded", texts, handed)
		for _, node := range list {
			if slices.ContainsFunc(node.Kids, func(kid int) bool { return kid != -7 }) {
				t.Error("lists of one answer share their room")
			}
		}
		if !impl.SameTree(nodes, held) {
			t.Error("an answer that was changed changes the nodes")
		}
	}
	text, _ := impl.FoldedText(source, 80, 100)
	isNewMemory(t, "FoldedText", []string{text}, []string{source})
}

func TestFoldsLeaveTheLists(t *testing.T) {
	// The Kids lie in one list, the nodes in another one, with room behind them.
	kids := []int{0, 1, 7, 7, 7}
	room := []impl.Node{{Kind: impl.NdNum, Text: "2"}, {Kind: impl.NdNum, Text: "1"}, {Kind: impl.NdChain, Text: "-", Kids: kids[:2]}, {Kind: impl.NdPar, Kids: []int{2}}, {Kind: impl.NdVar, Text: "v", Kids: []int{3}}, {Kind: impl.NdFile, Kids: []int{4}}, {Kind: 99, Text: "spare"}}
	want, wantKids := cloneTree(room), slices.Clone(kids)
	for range 2 {
		for size := range len(room) + 1 {
			constsAre(t, room[:size])
			isFolded(t, room[:size])
		}
	}
	if !slices.Equal(kids, wantKids) || !impl.SameTree(room, want) {
		t.Errorf("a list is %v, %v behind its calls; want %v, %v", room, kids, want, wantKids)
	}
}

func TestFoldsKeepNothing(t *testing.T) {
	asks := []func() string{}
	whole, _ := wholeTree()
	chains, _ := valueIn(t, "a + (1 + 2) * 3 - (4 - 5) * (999999999 + 1)")
	wideNodes, _ := foldsWide(impl.MaxNodes)
	tooWide, _ := foldsWide(impl.MaxNodes + 1)
	for _, nodes := range [][]impl.Node{nil, whole, chains, nested(11), nested(12), wideNodes, tooWide, anyShared(3), {{}}} {
		for _, k := range []int{-1, 0, 2, 5, len(nodes) - 3, len(nodes)} {
			asks = append(asks, func() string {
				num, ok := impl.ConstOf(nodes, k)
				return fmt.Sprint(num, ok, impl.Foldable(nodes, k), impl.Folded(nodes), impl.FoldsIn(nodes))
			})
		}
	}
	for _, source := range []string{"", "$", "var v = a + (1 + 2) * 3;", "var v = 1 - 2;", pointSource} {
		asks = append(asks, func() string { return fmt.Sprint(impl.FoldedText(source, 40, 100)) })
	}
	keepNothing(t, asks)
}
