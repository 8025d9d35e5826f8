package tests

import (
	"math/rand"
	"regexp"
	"runtime"
	"slices"
	"strings"
	"sync"
	"testing"
	"time"

	"loop.example/g00459/impl"
)

// signLetters has a letter for each kind of a sign: name, number (d), text, mark, note (o).
var signLetters = map[rune]int{'n': impl.SgName, 'd': impl.SgNum, 't': impl.SgText, 'm': impl.SgMark, 'o': impl.SgNote}

// signsByHand makes signs of the letters of their kinds and of their Texts.
func signsByHand(letters string, texts ...string) []impl.Sign {
	if len(letters) != len(texts) {
		panic("not a letter for each of " + strings.Join(texts, " "))
	}
	list := []impl.Sign{}
	for i, letter := range letters {
		list = append(list, impl.Sign{Kind: signLetters[letter], Text: texts[i]})
	}
	return list
}

// tellsSigns holds SignsIn whole, also At and Blank.
func tellsSigns(t *testing.T, nodes []impl.Node, want []impl.Sign) {
	t.Helper()
	if got := impl.SignsIn(nodes); !slices.Equal(got, want) {
		t.Errorf("SignsIn(%v) is\n%v; want\n%v", nodes, got, want)
	}
}

func tellsNothing(t *testing.T, why string, nodes []impl.Node) {
	t.Helper()
	if got := impl.SignsIn(nodes); len(got) != 0 {
		t.Errorf("SignsIn with %s is %v", why, got)
	}
}

// toldAgain holds promise 7 for a source that is right: the signs of its tree are its own, and are read as the same tree.
func toldAgain(t *testing.T, source string) []impl.Sign {
	t.Helper()
	nodes, signs := readTree(t, source), isRead(t, source)
	told := impl.SignsIn(nodes)
	if !impl.SameWords(told, signs) || !impl.SameWords(signs, told) {
		t.Fatalf("SignsIn of the tree of %q is %v", source, told)
	}
	if want := signsWithoutEnds(signs); !slices.Equal(told, want) {
		t.Fatalf("SignsIn of the tree of %q is %v; want %v", source, told, want)
	}
	if !slices.Equal(impl.NotesIn(told), impl.NotesIn(signs)) {
		t.Fatalf("NotesIn of the tree of %q is %q", source, impl.NotesIn(told))
	}
	flat := impl.Flat(told)
	again, at, ok := impl.ReadSource(flat)
	if len(flat) <= impl.MaxSource && (!ok || at != 0 || !impl.SameTree(again, withoutBlank(nodes))) {
		t.Fatalf("ReadSource(%q) is %v, %d, %v; want %v", flat, again, at, ok, nodes)
	}
	return told
}

// signsWithoutEnds goes through the signs from the last one on, without At and Blank.
func signsWithoutEnds(signs []impl.Sign) []impl.Sign {
	list := []impl.Sign{}
	for i := len(signs) - 1; i >= 0; i-- {
		isEnd := i+1 < len(signs) && signs[i].Text == "," && strings.Contains(")]", signs[i+1].Text)
		if !isEnd {
			list = append(list, impl.Sign{Kind: signs[i].Kind, Text: signs[i].Text})
		}
	}
	slices.Reverse(list)
	return list
}

// isTold has the Texts of the signs with a blank between, so none of them has one in it.
func isTold(t *testing.T, source string, letters string, texts string) {
	t.Helper()
	toldAgain(t, source)
	tellsSigns(t, readTree(t, source), signsByHand(letters, strings.Fields(texts)...))
}

// valueIsTold is isTold of the value of a member.
func valueIsTold(t *testing.T, value string, letters string, texts string) {
	t.Helper()
	isTold(t, "var v="+value+";", "nnm"+letters+"m", "var v = "+texts+" ;")
}

// stepsAreTold is isTold of the statements of a method.
func stepsAreTold(t *testing.T, steps string, letters string, texts string) {
	t.Helper()
	isTold(t, "m(){"+steps+"}", "nmmm"+letters+"m", "m ( ) { "+texts+" }")
}

func TestTellMembers(t *testing.T) {
	isTold(t, "", "", "")
	isTold(t, " \n\n ", "", "")
	isTold(t, "var a;", "nnm", "var a ;")
	isTold(t, "var a=1;", "nnmdm", "var a = 1 ;")
	isTold(t, "\n\nvar a;\n\nvar b;", "nnmnnm", "var a ; var b ;")
	isTold(t, "class C{}", "nnmm", "class C { }")
	isTold(t, "class C{}class D{var a;m(){}}", "nnmmnnmnnmnmmmmm", "class C { } class D { var a ; m ( ) { } }")
	isTold(t, "//n\nclass C{//o\nvar a;//p\n}//q", "onnmonnmomo", "//n class C { //o var a ; //p } //q")
	isTold(t, "m(){}", "nmmmm", "m ( ) { }")
	isTold(t, "m(a){}", "nmnmmm", "m ( a ) { }")
	isTold(t, "m(a,b,c){}", "nmnmnmnmmm", "m ( a , b , c ) { }")
	isTold(t, "m(){}n(a){return;}var v;", "nmmmmnmnmmnmmnnm", "m ( ) { } n ( a ) { return ; } var v ;")
}

func TestTellStatements(t *testing.T) {
	stepsAreTold(t, "var a;", "nnm", "var a ;")
	stepsAreTold(t, "var a=b;", "nnmnm", "var a = b ;")
	stepsAreTold(t, "a=b;", "nmnm", "a = b ;")
	stepsAreTold(t, "a;", "nm", "a ;")
	stepsAreTold(t, "f();", "nmmm", "f ( ) ;")
	stepsAreTold(t, "return;", "nm", "return ;")
	stepsAreTold(t, "return 1;", "ndm", "return 1 ;")
	stepsAreTold(t, "if(a){}", "nmnmmm", "if ( a ) { }")
	stepsAreTold(t, "if(a){}else{}", "nmnmmmnmm", "if ( a ) { } else { }")
	stepsAreTold(t, "if(a){b;}else{return c;}", "nmnmmnmmnmnnmm", "if ( a ) { b ; } else { return c ; }")
	stepsAreTold(t, "if(a){if(b){}else{}}", "nmnmmnmnmmmnmmm", "if ( a ) { if ( b ) { } else { } }")
	stepsAreTold(t, "if(a){if(b){}}else{}", "nmnmmnmnmmmmnmm", "if ( a ) { if ( b ) { } } else { }")
	stepsAreTold(t, "while(a){}", "nmnmmm", "while ( a ) { }")
	stepsAreTold(t, "while((a)){b=c;}", "nmmnmmmnmnmm", "while ( ( a ) ) { b = c ; }")
	stepsAreTold(t, "//n\n\n\na;//o\n//p\n", "onmoo", "//n a ; //o //p")
	stepsAreTold(t, "a;b=1;\n\nreturn;", "nmnmdmnm", "a ; b = 1 ; return ;")
}

func TestTellValues(t *testing.T) {
	valueIsTold(t, "a", "n", "a")
	valueIsTold(t, "007", "d", "007")
	valueIsTold(t, "''", "t", "''")
	valueIsTold(t, "[]", "mm", "[ ]")
	valueIsTold(t, "[1]", "mdm", "[ 1 ]")
	valueIsTold(t, "[1,'a',b]", "mdmtmnm", "[ 1 , 'a' , b ]")
	valueIsTold(t, "f()", "nmm", "f ( )")
	valueIsTold(t, "f(1)", "nmdm", "f ( 1 )")
	valueIsTold(t, "f(1,2,3)", "nmdmdmdm", "f ( 1 , 2 , 3 )")
	valueIsTold(t, "f()()(a)", "nmmmmmnm", "f ( ) ( ) ( a )")
	valueIsTold(t, "a.b", "nmn", "a . b")
	valueIsTold(t, "a.b.c(d).e", "nmnmnmnmmn", "a . b . c ( d ) . e")
	valueIsTold(t, "a?b:c", "nmnmn", "a ? b : c")
	valueIsTold(t, "()=>a", "mmmn", "( ) => a")
	valueIsTold(t, "(a)=>b", "mnmmn", "( a ) => b")
	valueIsTold(t, "(a,b,c)=>d", "mnmnmnmmn", "( a , b , c ) => d")
	valueIsTold(t, "a..f()", "nmnmm", "a .. f ( )")
	valueIsTold(t, "a..f(1)..g(2,3)", "nmnmdmmnmdmdm", "a .. f ( 1 ) .. g ( 2 , 3 )")
	valueIsTold(t, "(a)", "mnm", "( a )")
	valueIsTold(t, "f([],[[1]],()=>g())", "nmmmmmmdmmmmmmnmmm", "f ( [ ] , [ [ 1 ] ] , ( ) => g ( ) )")
	for _, mark := range []string{"||", "&&", "==", "<", "+", "-", "*"} {
		valueIsTold(t, "a"+mark+"b", "nmn", "a "+mark+" b")
		valueIsTold(t, "a"+mark+"1"+mark+"'c'"+mark+"d", "nmdmtmn", "a "+mark+" 1 "+mark+" 'c' "+mark+" d")
	}
}

func TestTellValuesInOneAnother(t *testing.T) {
	valueIsTold(t, "a+b-c+d", "nmnmnmn", "a + b - c + d")
	valueIsTold(t, "a*b+c*d<e==f&&g||h", "nmnmnmnmnmnmnmn", "a * b + c * d < e == f && g || h")
	valueIsTold(t, "a||b&&c==d<e+f*g", "nmnmnmnmnmnmn", "a || b && c == d < e + f * g")
	valueIsTold(t, "(a+b)*(c-(d))", "mnmnmmmnmmnmm", "( a + b ) * ( c - ( d ) )")
	valueIsTold(t, "((a))", "mmnmm", "( ( a ) )")
	valueIsTold(t, "((((a))).b)()", "mmmmnmmmmnmmm", "( ( ( ( a ) ) ) . b ) ( )")
	valueIsTold(t, "a?b?c:d:e?f:g", "nmnmnmnmnmnmn", "a ? b ? c : d : e ? f : g")
	valueIsTold(t, "(a?b:c)?d:e", "mnmnmnmmnmn", "( a ? b : c ) ? d : e")
	valueIsTold(t, "a?b:c..f()", "nmnmnmnmm", "a ? b : c .. f ( )")
	valueIsTold(t, "(a..f())..g(b..h())", "mnmnmmmmnmnmnmmm", "( a .. f ( ) ) .. g ( b .. h ( ) )")
	valueIsTold(t, "()=>()=>a?b:c", "mmmmmmnmnmn", "( ) => ( ) => a ? b : c")
	valueIsTold(t, "((a)=>b)(c)", "mmnmmnmmnm", "( ( a ) => b ) ( c )")
	valueIsTold(t, "[[],[[],[]]]", "mmmmmmmmmmmm", "[ [ ] , [ [ ] , [ ] ] ]")
	valueIsTold(t, "f(g(h()))", "nmnmnmmmm", "f ( g ( h ( ) ) )")
}

// TestTellWithoutEnds has a `,` at each place where one may stand at the end.
func TestTellWithoutEnds(t *testing.T) {
	isTold(t, "m(a,){}", "nmnmmm", "m ( a ) { }")
	isTold(t, "m(a,b,){}", "nmnmnmmm", "m ( a , b ) { }")
	valueIsTold(t, "f(1,)", "nmdm", "f ( 1 )")
	valueIsTold(t, "f(1,2,)(3,)", "nmdmdmmdm", "f ( 1 , 2 ) ( 3 )")
	valueIsTold(t, "[1,]", "mdm", "[ 1 ]")
	valueIsTold(t, "[1,2,]", "mdmdm", "[ 1 , 2 ]")
	valueIsTold(t, "(a,)=>b", "mnmmn", "( a ) => b")
	valueIsTold(t, "(a,b,)=>c", "mnmnmmn", "( a , b ) => c")
	valueIsTold(t, "a..f(b,)..g(c,d,)", "nmnmnmmnmnmnm", "a .. f ( b ) .. g ( c , d )")
	valueIsTold(t, "[f([1,],),]", "mnmmdmmm", "[ f ( [ 1 ] ) ]")
	// What is told has none, also where the source has one.
	for _, sources := range [][2]string{{"m(a,){f([b,],);}", "m(a){f([b]);}"}, {"var v=(a,)=>[a,];", "var v = (a) => [a];"}} {
		with, without := impl.SignsIn(readTree(t, sources[0])), impl.SignsIn(readTree(t, sources[1]))
		if !slices.Equal(with, without) || impl.SameSigns(with, isRead(t, sources[0])) || !impl.SameSigns(without, isRead(t, sources[1])) {
			t.Errorf("SignsIn of the tree of %q is %v", sources[0], with)
		}
	}
}

func TestTellTextsWithBlanks(t *testing.T) {
	told := toldAgain(t, "// a,  b   \nvar v = [ 'x , ]', ',', ]; m() { //   \n f(',)',); // , )  ]  \n }")
	want := signsByHand("onnmmtmtmmnmmmonmtmmom", "// a,  b", "var", "v", "=", "[", "'x , ]'", ",", "','", "]", ";", "m", "(", ")", "{", "//", "f", "(", "',)'", ")", ";", "// , )  ]", "}")
	if !slices.Equal(told, want) {
		t.Errorf("SignsIn is\n%v; want\n%v", told, want)
	}
	if notes := impl.NotesIn(told); !slices.Equal(notes, []string{"// a,  b", "//", "// , )  ]"}) {
		t.Errorf("NotesIn is %q", notes)
	}
}

func TestTellAWholeTree(t *testing.T) {
	nodes, _ := wholeTree()
	texts := strings.Fields("// var held = [ 1 , 'two' ] ; class K { m ( x , y ) { if ( f ( ) . size < 007 ) { x = ( ( p , q ) => a ? b : c ) ; return ; } else { } while ( more ) { z .. g ( ) .. h ( 3 ) ; // } return 123456789012 ; } var _ ; }")
	texts[0] = "// the first"
	tellsSigns(t, nodes, signsByHand("onnmmdmtmmnnmnmnmnmmnmnmmmnmdmmnmmmnmnmmnmnmnmmnmmnmmnmnmmnmnmmmnmdmmomndmmnnmm", texts...))
	toldAgain(t, impl.Flat(impl.SignsIn(nodes)))
}

// tellForms tells kinds of nodes that have a fixed form: a number is that kid, `#` the Text.
var tellForms = map[int][]string{
	impl.NdName: {"#"}, impl.NdNum: {"#"}, impl.NdText: {"#"}, impl.NdNote: {"#"},
	impl.NdDot: {"0", ".", "#"}, impl.NdPick: {"0", "?", "1", ":", "2"}, impl.NdPar: {"(", "0", ")"},
	impl.NdSet: {"#", "=", "0", ";"}, impl.NdDo: {"0", ";"}, impl.NdWhile: {"while", "(", "0", ")", "1"},
}

// signsByForm tells a node by the chapter of reading; marks, key words and names are Texts alike.
func signsByForm(nodes []impl.Node, k int) []string {
	node, out := nodes[k], []string{}
	put := func(texts ...string) { out = append(out, texts...) }
	kids := func(from int, to int, between ...string) {
		for i := from; i < to; i++ {
			if i > from {
				put(between...)
			}
			put(signsByForm(nodes, node.Kids[i])...)
		}
	}
	count := len(node.Kids)
	switch node.Kind {
	case impl.NdList:
		put("[")
		kids(0, count, ",")
		put("]")
	case impl.NdCall:
		kids(0, 1)
		put("(")
		kids(1, count, ",")
		put(")")
	case impl.NdChain:
		kids(0, count, node.Text)
	case impl.NdCascade:
		kids(0, count, "..")
	case impl.NdFn:
		put("(")
		kids(0, count-1, ",")
		put(")", "=>")
		kids(count-1, count)
	case impl.NdMethod:
		put(node.Text, "(")
		kids(0, count-1, ",")
		put(")")
		kids(count-1, count)
	case impl.NdVar:
		put([][]string{{"var", node.Text}, {"var", node.Text, "="}}[count]...)
		kids(0, count)
		put(";")
	case impl.NdReturn:
		put("return")
		kids(0, count)
		put(";")
	case impl.NdIf:
		put("if", "(")
		kids(0, 1)
		put(")")
		kids(1, count, "else")
	case impl.NdBlock:
		put("{")
		kids(0, count)
		put("}")
	case impl.NdClass:
		put("class", node.Text, "{")
		kids(0, count)
		put("}")
	case impl.NdFile:
		kids(0, count)
	default:
		for _, part := range tellForms[node.Kind] {
			switch {
			case part == "#":
				put(node.Text)
			case part >= "0" && part <= "2":
				kids(int(part[0]-'0'), int(part[0]-'0')+1)
			default:
				put(part)
			}
		}
	}
	return out
}

// signKind is the kind of the one sign that a Text is.
func signKind(text string) int {
	list, _, ok := signsByForms(text)
	if !ok || len(list) != 1 || list[0].Text != text {
		panic("not one sign: " + text)
	}
	return list[0].Kind
}

// isAsByForm holds SignsIn against signsByForm for a right tree, and against nothing for another one.
func isAsByForm(t *testing.T, nodes []impl.Node) {
	t.Helper()
	want := []impl.Sign{}
	if treeByWord(nodes) {
		for _, text := range signsByForm(nodes, len(nodes)-1) {
			want = append(want, impl.Sign{Kind: signKind(text), Text: text})
		}
	}
	if got := impl.SignsIn(nodes); !slices.Equal(got, want) {
		t.Fatalf("SignsIn(%v) is\n%v; want\n%v", nodes, got, want)
	}
}

// TestTellTreesThatAreNotRead has right trees that no source is read as: their signs are told all the same.
func TestTellTreesThatAreNotRead(t *testing.T) {
	for _, c := range []struct {
		lines, letters, texts string
	}{
		{"name a/name b/chain + 0 1/name c/chain * 2 3/var v 4/file 5", "nnmnmnmnm", "var v = a + b * c ;"},
		{"name c/name b/name a/chain - 2 1 0/var v 3/file 4", "nnmnmnmnm", "var v = a - b - c ;"},
		{"name a/name b/chain + 0 1/name c/chain + 2 3/var v 4/file 5", "nnmnmnmnm", "var v = a + b + c ;"},
		{"name a/cascade 0/var v 1/file 2", "nnmnm", "var v = a ;"},
		{"name a/cascade 0/cascade 1/name f/call 3/cascade 2 4/var v 5/file 6", "nnmnmnmmm", "var v = a .. f ( ) ;"},
		{"name if/var else 0/file 1", "nnmnm", "var else = if ;"},
		{"name a/name b/name c/pick 0 1 2/name d/dot e 3/call 5 4/var v 6/file 7", "nnmnmnmnmnmnmm", "var v = a ? b : c . e ( d ) ;"},
		{"name a/name b/fn 0 1/num 1/call 2 3/do 4/block 5/method m 6/file 7", "nmmmmnmmnmdmmm", "m ( ) { ( a ) => b ( 1 ) ; }"},
		{"var a/var b/class C 0/class D 1/file 3 2", "nnmnnmmnnmnnmm", "class D { var b ; } class C { var a ; }"},
		{"var a/name b/var c 1/name d/method e 3 4", "", ""},
		{"block/block/name a/if 2 1 0/name b/while 4 6/block/block 3 5/method m 7/file 8", "", ""},
		{"block/return/block 1/name a/if 3 2 0/block 4/method m 5/file 6", "nmmmnmnmmnmmnmmm", "m ( ) { if ( a ) { return ; } else { } }"},
		{"block/name b/name a/method m 2 1 0/file 3", "nmnmnmmm", "m ( a , b ) { }"},
	} {
		nodes := nodesOf(strings.Split(c.lines, "/"))
		if c.letters != "" && !impl.TreeOk(nodes) {
			t.Errorf("a tree is not right: %s", c.lines)
		}
		tellsSigns(t, nodes, signsByHand(c.letters, strings.Fields(c.texts)...))
		isAsByForm(t, nodes)
	}
}

func TestTellAnySource(t *testing.T) {
	for seed := range int64(2000) {
		m := anySource(seed)
		toldAgain(t, m.out.String())
		isAsByForm(t, m.nodes)
	}
}

// turnOneThing turns one thing in nodes, by chance; they may be a right tree still.
func turnOneThing(chance *rand.Rand, nodes []impl.Node) {
	node := &nodes[chance.Intn(len(nodes))]
	switch kind := chance.Intn(6); {
	case kind == 0:
		node.Kind = chance.Intn(25) - 1
	case kind == 1:
		node.Text = []string{"", "a", "7", "'t'", "// o", "+", "&&", "=", "a b"}[chance.Intn(9)]
	case kind == 2:
		node.Blank = !node.Blank
	case kind == 3:
		node.Kids = append(node.Kids, chance.Intn(len(nodes)+2)-1)
	case len(node.Kids) == 0:
	case kind == 4:
		chance.Shuffle(len(node.Kids), func(i, j int) { node.Kids[i], node.Kids[j] = node.Kids[j], node.Kids[i] })
	default:
		node.Kids[chance.Intn(len(node.Kids))] = chance.Intn(len(nodes)+2) - 1
	}
}

// TestTellTurnedTrees turns one thing in a tree: if it is still right, it is told as it is now, else not at all.
func TestTellTurnedTrees(t *testing.T) {
	rights := 0
	for seed := range int64(4000) {
		nodes := anyTree(seed)
		isAsByForm(t, nodes)
		turnOneThing(rand.New(rand.NewSource(seed)), nodes)
		isAsByForm(t, nodes)
		if impl.TreeOk(nodes) {
			rights++
		}
	}
	if rights < 500 || rights > 3500 {
		t.Errorf("%d of the turned trees are right", rights)
	}
}

// wrongTrees has a list of nodes for each way in which chapter 5 says that they are no right tree.
func wrongTrees() map[string][]impl.Node {
	list := map[string][]impl.Node{}
	list["no nodes"] = nil
	list["no nodes, an empty list"] = []impl.Node{}
	list["a node of no kind"] = []impl.Node{{}}
	list["a kind below 1"] = nodesWith(func(nodes []impl.Node) { nodes[0].Kind = -1 })
	list["a kind above 22"] = nodesWith(func(nodes []impl.Node) { nodes[0].Kind = 23 })
	list["a kid below 0"] = nodesWith(func(nodes []impl.Node) { nodes[2].Kids[0] = -1 })
	list["a kid that is itself"] = nodesWith(func(nodes []impl.Node) { nodes[2].Kids[0] = 2 })
	list["a kid behind it"] = nodesWith(func(nodes []impl.Node) { nodes[2].Kids[0] = 3 })
	list["a kid past the end"] = nodesWith(func(nodes []impl.Node) { nodes[2].Kids[0] = 5 })
	list["a kid twice"] = nodesWith(func(nodes []impl.Node) { nodes[2].Kids[1] = 0 })
	list["a name that is none"] = nodesWith(func(nodes []impl.Node) { nodes[0].Text = "a b" })
	list["a name without Text"] = nodesWith(func(nodes []impl.Node) { nodes[0].Text = "" })
	list["a number that is none"] = nodesWith(func(nodes []impl.Node) { nodes[1].Text = "x" })
	list["a list with Text"] = nodesWith(func(nodes []impl.Node) { nodes[2].Text = "x" })
	list["a Blank of a value"] = nodesWith(func(nodes []impl.Node) { nodes[1].Blank = true })
	list["a Blank of a file"] = nodesWith(func(nodes []impl.Node) { nodes[4].Blank = true })
	list["a last one that is no file"] = nodesWith(func(nodes []impl.Node) { nodes[4].Kind, nodes[4].Text = impl.NdClass, "C" })
	list["no file"] = nodesWith(func(nodes []impl.Node) {})[:4]
	list["a node that is nobody's"] = nodesWith(func(nodes []impl.Node) { nodes[2].Kids = nodes[2].Kids[:1] })
	list["all nodes nobody's"] = nodesWith(func(nodes []impl.Node) { nodes[4].Kids = nil })
	list["a node of two"] = append(nodesWith(func(nodes []impl.Node) {})[:4], nodesOf([]string{"var w 2", "file 3 4"})...)
	list["a file in a file"] = append(nodesWith(func(nodes []impl.Node) {}), impl.Node{Kind: impl.NdFile, Kids: []int{4}})
	list["a chain of one"] = nodesOf([]string{"name a", "chain + 0", "var v 1", "file 2"})
	list["a chain of another mark"] = nodesOf([]string{"name a", "name b", "chain = 0 1", "var v 2", "file 3"})
	list["a call of nothing"] = nodesOf([]string{"call", "var v 0", "file 1"})
	list["a pick of two"] = nodesOf([]string{"name a", "name b", "pick 0 1", "var v 2", "file 3"})
	list["an arrow of nothing"] = nodesOf([]string{"fn", "var v 0", "file 1"})
	list["a method without a block"] = nodesOf([]string{"name a", "method m 0", "file 1"})
	list["a method of nothing"] = nodesOf([]string{"method m", "file 0"})
	list["an if of a value alone"] = nodesOf([]string{"name a", "if 0", "block 1", "method m 2", "file 3"})
	list["a cascade of nothing"] = nodesOf([]string{"cascade", "var v 0", "file 1"})
	list["a brackets' value that there is not"] = nodesOf([]string{"par", "var v 0", "file 1"})
	list["a node too many"] = wideTree(impl.MaxNodes + 1)
	list["a value too deep"] = nested(impl.MaxDeep - 2)
	list["a kid too many"] = nodesOf(append(slices.Repeat([]string{"var v"}, mostKids+1), "file 0 1 2 3 4 5 6 7 8 9 10 11 12"))
	return list
}

func TestTellNothingOfWrongTrees(t *testing.T) {
	for why, nodes := range wrongTrees() {
		tellsNothing(t, why, nodes)
	}
	// What all of these are but for one thing is right.
	tellsSigns(t, nodesWith(func(nodes []impl.Node) {}), signsByHand("nnmmnmdmm", "var", "v", "=", "[", "a", ",", "1", "]", ";"))
}

// nodesWith is the tree of `var v = [a, 1];` with one thing changed.
func nodesWith(change func(nodes []impl.Node)) []impl.Node {
	nodes := nodesOf([]string{"name a", "num 1", "list 0 1", "var v 2", "file 3"})
	change(nodes)
	return nodes
}

func TestTellTheLimits(t *testing.T) {
	for _, size := range []int{1, 2, 3, 28, 299, 300} {
		toldAgain(t, wideSource(size))
		isAsByForm(t, wideTree(size))
	}
	tellsNothing(t, "a node too many", wideTree(301))
	if got := impl.SignsIn(wideTree(300)); !impl.SameSigns(got, isRead(t, wideSource(300))) {
		t.Errorf("SignsIn of 300 nodes is %v", got)
	}
	for pars := range 20 {
		want := []impl.Sign{}
		if pars <= 11 {
			want = append(want, isRead(t, "var v="+inOneAnother("(", "a", ")", pars)+";")...)
			for i := range want {
				want[i].At = 0
			}
		}
		tellsSigns(t, nested(pars), want)
	}
	for _, c := range []struct {
		ahead, each, behind string
		begin, between, end string
	}{
		{"list", "name a", "var v", "var v = [ ", " , ", " ] ;"}, {"chain +", "name a", "var v", "var v = ", " + ", " ;"},
		{"block", "return", "method m", "m ( ) { ", " ", " }"}, {"class C", "var a", "", "class C { ", " ", " }"}, {"", "var a", "", "", " ", ""},
	} {
		each := map[string]string{"name a": "a", "return": "return ;", "var a": "var a ;"}[c.each]
		for count := 2; count <= 14; count++ {
			m := &treeMaker{}
			kids := []int{}
			for range count {
				kids = append(kids, m.add(nodeOf(c.each).Kind, nodeOf(c.each).Text))
			}
			for _, line := range []string{c.ahead, c.behind, "file"} {
				if line == "" {
					continue
				}
				kids = []int{m.add(nodeOf(line).Kind, nodeOf(line).Text, kids...)}
			}
			want := ""
			if count <= 12 {
				want = c.begin + strings.Join(slices.Repeat([]string{each}, count), c.between) + c.end
			}
			if got := impl.Flat(impl.SignsIn(m.nodes)); got != want {
				t.Errorf("SignsIn with %d kids of %s is %q; want %q", count, c.ahead, got, want)
			}
		}
	}
}

func TestNotesIn(t *testing.T) {
	hasNotes := func(list []impl.Sign, want ...string) {
		t.Helper()
		if got := impl.NotesIn(list); !slices.Equal(got, want) {
			t.Errorf("NotesIn(%v) is %q; want %q", list, got, want)
		}
	}
	hasNotes(nil)
	hasNotes([]impl.Sign{})
	hasNotes(isRead(t, "var a = '// no'; f() {}"))
	hasNotes(isRead(t, "// x"), "// x")
	hasNotes(isRead(t, "//"), "//")
	hasNotes(isRead(t, "//b\n//a\n//b\n"), "//b", "//a", "//b")
	hasNotes(isRead(t, "// first \nclass C { // second\n var a; // third, )\n } // last   \n\n"), "// first", "// second", "// third, )", "// last")
	hasNotes(isRead(t, "f(1,) // x // y"), "// x // y")
	// The Kind tells what a note is, and nothing else does.
	hasNotes([]impl.Sign{{Kind: impl.SgName, Text: "// a"}, {Kind: impl.SgNote, Text: "no mark"}, {Kind: impl.SgNote}, {Kind: 0, Text: "//"}, {Kind: 6, Text: "// b"}, {Kind: -5, Text: "// c"}, {Kind: impl.SgNote, Text: "\xff\n", At: -7, Blank: true}}, "no mark", "", "\xff\n")
	// A text may have `//` in it, a note `'`: which begins first counts.
	textOrNote := regexp.MustCompile(`'[^'\n]*'|//[^\n]*`)
	for seed := range int64(200) {
		source, want := anySource(seed).out.String(), []string{}
		for _, found := range textOrNote.FindAllString(source, -1) {
			if strings.HasPrefix(found, "//") {
				want = append(want, strings.TrimRight(found, " "))
			}
		}
		hasNotes(isRead(t, source), want...)
		hasNotes(impl.SignsIn(readTree(t, source)), want...)
	}
}

// areSameWords holds SameWords both ways round.
func areSameWords(t *testing.T, a []impl.Sign, b []impl.Sign, want bool) {
	t.Helper()
	if got := impl.SameWords(a, b); got != want {
		t.Errorf("SameWords(%v, %v) is %v", a, b, got)
	}
	if got := impl.SameWords(b, a); got != want {
		t.Errorf("SameWords(%v, %v) is %v", b, a, got)
	}
}

func TestSameWords(t *testing.T) {
	for _, c := range []struct {
		a, b string
		want bool
	}{
		{"", "", true}, {"a", "", false}, {"a", "a", true}, {"a", "b", false}, {"a b", "a", false}, {"a b", "b a", false}, {"a b c", "a b", false},
		{"f(1,)", "f(1)", true}, {"f(1,)", "f(1,)", true}, {"[1,]", "[1]", true}, {"[1,]", "[1,]", true}, {"f(1,)", "f[1]", false}, {"f(1,)", "f(2)", false},
		{"(,)", "()", true}, {"[,]", "[]", true}, {"(,]", "(]", true}, {",)", ")", true}, {",]", "]", true}, {",)", "]", false}, {",)", ",]", false},
		{"f([1,],)", "f([1])", true}, {"f([1,],)", "f([1],)", true}, {"f([1,],)", "f([1,])", true}, {"f(1,)(2,)", "f(1)(2)", true}, {"f(1,)(2,)", "f(1)(2,)", true},
		{"{1,}", "{1}", false}, {"1,;", "1;", false}, {"1,.", "1.", false}, {"1,(", "1(", false}, {"1,[", "1[", false}, {"1,a", "1a", false}, {", // )", "// )", false}, {", ')'", "')'", false},
		{"a,", "a", false}, {",", "", false}, {",", ",", true}, {"a,)b,", "a)b", false}, {"a,)b,", "a)b,", true},
		{",,)", ")", false}, {",,)", ",)", false}, {",,)", ",,)", true}, {",,,)", ",,)", false}, {"[1,,]", "[1]", false}, {"[1,,]", "[1,]", false},
		{"a,),]", "a)]", true}, {"a,),]", "a),]", true}, {"(a,b)", "(a b)", false}, {"(a,b,)", "(a,b)", true}, {"(a,b,)", "(a b,)", false},
		{"',)'", "')'", false}, {"// ,)", "// )", false}, {"',' )", ")", false}, {"','", "','", true}, {"a //,\n)", "a )", false}, {"a, //,\n)", "a //,\n)", false},
		{"a // x", "a", false}, {"a // x", "a // x", true}, {"a // x", "a // y", false}, {"f(1,) // x", "f(1)", false},
		{"ab", "a b", false}, {"12", "1 2", false}, {"..", ". .", false}, {"a", "'a'", false}, {"'a'", "'b'", false}, {"1", "01", false},
	} {
		areSameWords(t, isRead(t, c.a), isRead(t, c.b), c.want)
		areSameWords(t, isRead(t, "x "+c.a), isRead(t, "x "+c.b), c.want)
	}
}

func TestSameWordsByFields(t *testing.T) {
	list := isRead(t, "f(1,\n\n2,) 'x' // y")
	areSameWords(t, nil, []impl.Sign{}, true)
	areSameWords(t, nil, list, false)
	areSameWords(t, list, []impl.Sign{}, false)
	for i := range list {
		turned := slices.Clone(list)
		turned[i].At, turned[i].Blank = turned[i].At+1, !turned[i].Blank
		areSameWords(t, list, turned, true)
		turned[i].At = -1
		areSameWords(t, list, turned, true)
		for _, kind := range []int{-1, 0, 1, 2, 3, 4, 5, 6, 99} {
			turned := slices.Clone(list)
			turned[i].Kind = kind
			areSameWords(t, list, turned, kind == list[i].Kind)
			areSameWords(t, turned, slices.Clone(turned), true)
		}
		for _, text := range []string{"", "q", list[i].Text + " ", " " + list[i].Text, "\xff"} {
			turned := slices.Clone(list)
			turned[i].Text = text
			areSameWords(t, list, turned, false)
			areSameWords(t, turned, slices.Clone(turned), true)
		}
	}
	// A `,` and a bracket are marks: signs of other kinds that look like them are not left out.
	comma, end, word := impl.Sign{Kind: impl.SgMark, Text: ","}, impl.Sign{Kind: impl.SgMark, Text: ")"}, impl.Sign{Kind: impl.SgName, Text: "a"}
	areSameWords(t, []impl.Sign{word, comma, end}, []impl.Sign{word, end}, true)
	for _, kind := range []int{-1, 0, impl.SgName, impl.SgNum, impl.SgText, impl.SgNote, 6} {
		odd, oddEnd := impl.Sign{Kind: kind, Text: ","}, impl.Sign{Kind: kind, Text: ")"}
		areSameWords(t, []impl.Sign{word, odd, end}, []impl.Sign{word, end}, false)
		areSameWords(t, []impl.Sign{word, comma, oddEnd}, []impl.Sign{word, oddEnd}, false)
		areSameWords(t, []impl.Sign{odd, oddEnd}, []impl.Sign{odd, oddEnd}, true)
	}
}

// TestSameWordsOfSmallRows holds SameWords against texts with the `,` cut out, over all pairs of small rows.
func TestSameWordsOfSmallRows(t *testing.T) {
	type row struct {
		signs []impl.Sign
		words string
	}
	rows, end := []row{}, regexp.MustCompile(`,([)\]])`)
	eachRow(4, []string{",", ")", "]", "a"}, func(texts []string) {
		rows = append(rows, row{isRead(t, spaced(texts)), end.ReplaceAllString(strings.Join(texts, ""), "$1")})
	})
	for _, a := range rows {
		for _, b := range rows {
			if got := impl.SameWords(a.signs, b.signs); got != (a.words == b.words) {
				t.Fatalf("SameWords(%v, %v) is %v", a.signs, b.signs, got)
			}
		}
	}
}

func TestToldSignsAreNewMemory(t *testing.T) {
	source := "class Long { mmm(aaa, bbb) { if (aaa - 111) { return ['ttt', f(bbb)]; } xxx = aaa..ggg(1); } } // note\n"
	nodes := readTree(t, source)
	want, signs := cloneTree(nodes), impl.SignsIn(nodes)
	for _, sign := range signs {
		for _, node := range nodes {
			if sharesMemory(sign.Text, node.Text) {
				t.Errorf("SignsIn tells %q in the memory of a node", sign.Text)
			}
		}
	}
	told := slices.Clone(signs)
	for _, note := range impl.NotesIn(signs) {
		for _, sign := range signs {
			if sharesMemory(note, sign.Text) {
				t.Errorf("NotesIn tells %q in the memory of a sign", note)
			}
		}
	}
	impl.NotesIn(signs)[0] = "turned"
	if !impl.SameTree(nodes, want) || !slices.Equal(signs, told) {
		t.Error("an argument is changed")
	}
	for i := range signs {
		signs[i] = impl.Sign{Kind: 99, Text: "turned"}
	}
	if !impl.SameTree(nodes, want) || !slices.Equal(impl.SignsIn(nodes), told) {
		t.Error("an answer that was changed changes the tree or the next answer")
	}
}

func TestTellLeavesItsLists(t *testing.T) {
	// The Kids lie in one list, the nodes in another one, with room behind them.
	kids := []int{0, 1, 7, 7, 7}
	room := []impl.Node{{Kind: impl.NdName, Text: "a"}, {Kind: impl.NdNum, Text: "1"}, {Kind: impl.NdList, Kids: kids[:2]}, {Kind: impl.NdVar, Text: "v", Kids: []int{2}}, {Kind: impl.NdFile, Kids: []int{3}}, {Kind: 99, Text: "spare"}}
	want, wantKids := cloneTree(room), slices.Clone(kids)
	for range 2 {
		if got := impl.Flat(impl.SignsIn(room[:5])); got != "var v = [ a , 1 ] ;" {
			t.Errorf("SignsIn of a list with spare room is %q", got)
		}
		tellsNothing(t, "a node behind the file", room)
	}
	if !slices.Equal(kids, wantKids) || !impl.SameTree(room, want) {
		t.Errorf("a list is %v, %v behind its calls; want %v, %v", room, kids, want, wantKids)
	}
	// A list that ends with a `,` doesn't look at what stands behind its end.
	signs := isRead(t, "f(a,) // x\n")
	told := slices.Clone(signs)
	areSameWords(t, signs[:4], signs[:4], true)
	areSameWords(t, signs[:4], signs[:3], false)
	areSameWords(t, signs[:5], isRead(t, "f(a)"), true)
	if len(impl.NotesIn(signs[:5])) != 0 || !slices.Equal(signs, told) {
		t.Error("a list of signs is changed, or read behind its end")
	}
}

// TestTellManyAtOnce asks for the same from several sides; behind the answers nobody is left to send.
func TestTellManyAtOnce(t *testing.T) {
	nodes, _ := wholeTree()
	want, before := impl.SignsIn(nodes), runtime.NumGoroutine()
	var all sync.WaitGroup
	for range 8 {
		all.Go(func() {
			for range 200 {
				if !slices.Equal(impl.SignsIn(nodes), want) {
					t.Error("SignsIn tells another list at another time")
				}
			}
		})
	}
	all.Wait()
	for range 200 {
		if runtime.NumGoroutine() <= before {
			return
		}
		time.Sleep(10 * time.Millisecond)
	}
	t.Errorf("%d goroutines are left of %d", runtime.NumGoroutine(), before)
}
