package tests

import (
	"fmt"
	"math"
	"math/rand"
	"reflect"
	"slices"
	"strings"
	"testing"

	"loop.example/g00459/impl"
)

const (
	// mostIn is how far in a statement that is asked for may be.
	mostIn = 40
	// wide is a width that all lines here are within.
	wide = 3000
)

// isWritable tells which kinds are statements or members.
func isWritable(kind int) bool {
	return amongst(kind, impl.NdVar, impl.NdWhile) || amongst(kind, impl.NdNote, impl.NdClass)
}

// wordWriter writes by the chapter's words, its values by the earlier chapters'.
type wordWriter struct {
	nodes  []impl.Node
	width  int
	budget int
	lines  []string
	state  int
}

func (w *wordWriter) put(in int, text string) { w.lines = append(w.lines, blanks(in)+text) }

func (w *wordWriter) piece(in int, pre string, k int, post string) {
	p := builtByWord(w.nodes, k, pre, post, in)
	v, state := impl.Search(p, w.width, w.budget)
	if w.budget >= enough && impl.CountOf(p) <= 256 {
		// All lists of values tell which is the cheapest, however it is found.
		v, _ = bestByWord(p, w.width)
		state = impl.StBest
	}
	w.lines = append(w.lines, linesByWord(p, v)...)
	w.state = max(w.state, state)
}

func (w *wordWriter) all(in int, kids []int) {
	for _, kid := range kids {
		w.node(in, kid)
	}
}

func (w *wordWriter) node(in int, k int) {
	node := w.nodes[k]
	if node.Blank {
		w.lines = append(w.lines, "")
	}
	last := len(node.Kids) - 1
	block := func(i int) { w.all(in+2, w.nodes[node.Kids[i]].Kids) }
	switch name := node.Text; node.Kind {
	case impl.NdNote:
		w.put(in, name)
	case impl.NdVar:
		if last < 0 {
			w.put(in, "var "+name+";")
		} else {
			w.piece(in, "var "+name+" =", node.Kids[0], ";")
		}
	case impl.NdSet:
		w.piece(in, name+" =", node.Kids[0], ";")
	case impl.NdDo:
		w.piece(in, "", node.Kids[0], ";")
	case impl.NdReturn:
		if last < 0 {
			w.put(in, "return;")
		} else {
			w.piece(in, "return ", node.Kids[0], ";")
		}
	case impl.NdIf:
		w.piece(in, "if (", node.Kids[0], ") {")
		block(1)
		if last == 2 {
			w.put(in, "} else {")
			block(2)
		}
		w.put(in, "}")
	case impl.NdWhile:
		w.piece(in, "while (", node.Kids[0], ") {")
		block(1)
		w.put(in, "}")
	case impl.NdMethod:
		names := []string{}
		for _, kid := range node.Kids[:last] {
			names = append(names, w.nodes[kid].Text)
		}
		w.put(in, name+"("+strings.Join(names, ", ")+") {")
		block(last)
		w.put(in, "}")
	case impl.NdClass:
		w.put(in, "class "+name+" {")
		w.all(in+2, node.Kids)
		w.put(in, "}")
	}
}

func nodeWrittenByWord(nodes []impl.Node, k int, in int, width int, budget int) impl.Written {
	if !amongst(in, 0, mostIn) || deepByWord(nodes, k) == 0 || !isWritable(nodes[k].Kind) {
		return impl.Written{}
	}
	w := &wordWriter{nodes: nodes, width: width, budget: budget, state: impl.StBest}
	w.node(in, k)
	return impl.Written{Lines: w.lines, State: w.state}
}

func fileWrittenByWord(nodes []impl.Node, width int, budget int) impl.Written {
	if !treeByWord(nodes) {
		return impl.Written{}
	}
	w := &wordWriter{nodes: nodes, width: width, budget: budget, state: impl.StBest}
	w.all(0, nodes[len(nodes)-1].Kids)
	return impl.Written{Lines: w.lines, State: w.state}
}

func sameWritten(a impl.Written, b impl.Written) bool {
	return a.State == b.State && slices.Equal(a.Lines, b.Lines)
}

// hasItsSigns holds promise 14: what is written has the signs of the node that it was written from; nothing stands at the ends of lines.
func hasItsSigns(t *testing.T, nodes []impl.Node, k int, lines []string) {
	t.Helper()
	if got, want := textsOf(t, lines...), signsByForm(nodes, k); !slices.Equal(got, want) {
		t.Fatalf("what is written of the node %d of %v has the signs\n%q; want\n%q", k, nodes, got, want)
	}
	for _, line := range lines {
		if impl.Trimmed(line) != line {
			t.Fatalf("%q has blanks at its end", line)
		}
	}
}

// nodeIsByWord holds WriteNode against the chapter's words, and what it tells against the signs.
func nodeIsByWord(t *testing.T, nodes []impl.Node, k int, in int, width int, budget int) impl.Written {
	t.Helper()
	got, want := impl.WriteNode(nodes, k, in, width, budget), nodeWrittenByWord(nodes, k, in, width, budget)
	if !sameWritten(got, want) {
		t.Fatalf("WriteNode(%v, %d, %d, %d, %d) is\n%s\n%d; want\n%s\n%d", nodes, k, in, width, budget, strings.Join(got.Lines, "\n"), got.State, strings.Join(want.Lines, "\n"), want.State)
	}
	if got.State != 0 {
		hasItsSigns(t, nodes, k, got.Lines)
	}
	return got
}

func fileIsByWord(t *testing.T, nodes []impl.Node, width int, budget int) impl.Written {
	t.Helper()
	got, want := impl.WriteFile(nodes, width, budget), fileWrittenByWord(nodes, width, budget)
	if !sameWritten(got, want) {
		t.Fatalf("WriteFile(%v, %d, %d) is\n%s\n%d; want\n%s\n%d", nodes, width, budget, strings.Join(got.Lines, "\n"), got.State, strings.Join(want.Lines, "\n"), want.State)
	}
	if got.State != 0 {
		hasItsSigns(t, nodes, len(nodes)-1, got.Lines)
	}
	return got
}

// isReadAnew writes the tree of a source, and reads it again: it is the same tree, with the same signs.
func isReadAnew(t *testing.T, nodes []impl.Node, width int, budget int) {
	t.Helper()
	text := impl.JoinLines(fileIsByWord(t, nodes, width, budget).Lines)
	if len(text) > impl.MaxSource {
		return
	}
	again := readTree(t, text)
	if !impl.SameTree(again, nodes) || !impl.SameSigns(impl.SignsIn(again), impl.SignsIn(nodes)) || !impl.SameSigns(isRead(t, text), impl.SignsIn(nodes)) {
		t.Fatalf("with the width %d and the budget %d the tree %v is written as\n%s", width, budget, nodes, text)
	}
}

// nodeWrites holds a node by hand; the lines stand in one text.
func nodeWrites(t *testing.T, nodes []impl.Node, k int, in int, width int, want string) {
	t.Helper()
	got := nodeIsByWord(t, nodes, k, in, width, enough)
	if lines := strings.Join(got.Lines, "\n"); lines != want || got.State != impl.StBest {
		t.Errorf("with in %d and the width %d the node %d of %v is written as\n%s\n%d; want\n%s", in, width, k, nodes, lines, got.State, want)
	}
}

// stepIn reads a statement, which is the first one of a method, and tells the nodes and its place.
func stepIn(t *testing.T, step string) ([]impl.Node, int) {
	t.Helper()
	nodes := readTree(t, "m() {"+step+"\n}")
	method := nodes[len(nodes)-2]
	return nodes, nodes[method.Kids[0]].Kids[0]
}

// memberIn reads a member of a file.
func memberIn(t *testing.T, member string) ([]impl.Node, int) {
	t.Helper()
	nodes := readTree(t, member)
	return nodes, len(nodes) - 2
}

func stepWrites(t *testing.T, step string, in int, width int, want string) {
	t.Helper()
	nodes, k := stepIn(t, step)
	nodeWrites(t, nodes, k, in, width, want)
}

// memberWrites holds the member by itself, and the file that has nothing else.
func memberWrites(t *testing.T, member string, width int, want string) {
	t.Helper()
	nodes, k := memberIn(t, member)
	nodeWrites(t, nodes, k, 0, width, want)
	fileWrites(t, member, width, want)
}

func fileWrites(t *testing.T, source string, width int, want string) {
	t.Helper()
	nodes := readTree(t, source)
	isReadAnew(t, nodes, width, enough)
	got := impl.WriteFile(nodes, width, enough)
	if lines := strings.Join(got.Lines, "\n"); lines != want || got.State != impl.StBest {
		t.Errorf("with the width %d the source %q is written as\n%s\n%d; want\n%s", width, source, lines, got.State, want)
	}
}

func nothingIsWritten(t *testing.T, why string, written impl.Written) {
	t.Helper()
	if len(written.Lines) != 0 || written.State != 0 {
		t.Errorf("with %s there is written %q, %d", why, written.Lines, written.State)
	}
}

// isNotWritten is for a node that is none to write, however far it is in.
func isNotWritten(t *testing.T, why string, nodes []impl.Node, k int) {
	t.Helper()
	for _, in := range []int{0, 2, mostIn} {
		nothingIsWritten(t, why, impl.WriteNode(nodes, k, in, 80, enough))
	}
}

// lined has each line of a text in so far, but for empty ones.
func lined(text string, in int) string {
	lines := strings.Split(text, "\n")
	for i, line := range lines {
		if line != "" {
			lines[i] = blanks(in) + line
		}
	}
	return strings.Join(lines, "\n")
}

func TestWriteASourceOfTheDocument(t *testing.T) {
	source := "var a = 1; main(b) { if (b) { f(b, b); } return; }"
	fileWrites(t, source, 40, `var a = 1;
main(b) {
  if (b) {
    f(b, b);
  }
  return;
}`)
	fileWrites(t, source, 11, `var a = 1;
main(b) {
  if (b) {
    f(
        b,
        b
    );
  }
  return;
}`)
}

func TestWriteStatementsByThemselves(t *testing.T) {
	for _, c := range []struct{ step, want string }{
		{"// a note", "// a note"}, {"//", "//"}, {"//// }  ", "//// }"}, {"//'a", "//'a"},
		{"var a;", "var a;"}, {"var\na\n;", "var a;"}, {"var a=1;", "var a = 1;"}, {"var a = 'b c';", "var a = 'b c';"}, {"var a=f( [ b,],c , );", "var a = f([b], c);"},
		{"a=b;", "a = b;"}, {"a = a+ 1 ;", "a = a + 1;"}, {"a=(b,c)=>b?c:1;", "a = (b, c) => b ? c : 1;"},
		{"a;", "a;"}, {"f ( ) ;", "f();"}, {"f(a)(b).c;", "f(a)(b).c;"}, {"a..f()..g(1,2);", "a..f()..g(1, 2);"}, {"(a==b)&&c<d;", "(a == b) && c < d;"},
		{"return;", "return;"}, {"return ;", "return;"}, {"return a;", "return a;"}, {"return(a);", "return (a);"}, {"return[1,'t'];", "return [1, 't'];"},
		{"if(a){}", "if (a) {\n}"}, {"if((a)){b;}", "if ((a)) {\n  b;\n}"}, {"if(a){}else{}", "if (a) {\n} else {\n}"},
		{"if(a){b;c;}else{d=e;}", "if (a) {\n  b;\n  c;\n} else {\n  d = e;\n}"}, {"if(a){}else{return;}", "if (a) {\n} else {\n  return;\n}"}, {"if(a){return;}else{}", "if (a) {\n  return;\n} else {\n}"},
		{"while(a){}", "while (a) {\n}"}, {"while(a<b){a=a+1;}", "while (a < b) {\n  a = a + 1;\n}"}, {"while(a){//n\n//o\n}", "while (a) {\n  //n\n  //o\n}"},
	} {
		for _, in := range []int{0, 1, 2, 3, 39, mostIn} {
			stepWrites(t, c.step, in, wide, lined(c.want, in))
		}
	}
}

func TestWriteMembersByThemselves(t *testing.T) {
	for _, c := range []struct{ member, want string }{
		{"// a note", "// a note"}, {"//", "//"}, {"var a;", "var a;"}, {"var a=[ ];", "var a = [];"}, {"var a = b.c(d)*2;", "var a = b.c(d) * 2;"},
		{"m(){}", "m() {\n}"}, {"m(a){}", "m(a) {\n}"}, {"m(a,){}", "m(a) {\n}"}, {"m( a,b , c ){}", "m(a, b, c) {\n}"},
		{"m(){return;}", "m() {\n  return;\n}"}, {"m(a){//n\nf(a);var b;}", "m(a) {\n  //n\n  f(a);\n  var b;\n}"},
		{"m(a,b,c,d,e,f,g,h,i,j,k){}", "m(a, b, c, d, e, f, g, h, i, j, k) {\n}"},
		{"class C{}", "class C {\n}"}, {"class C{var a;}", "class C {\n  var a;\n}"}, {"class C{var a=1;m(){}//n\n}", "class C {\n  var a = 1;\n  m() {\n  }\n  //n\n}"},
		{"class C{//n\n}", "class C {\n  //n\n}"}, {"class C{m(a,b){return a;}}", "class C {\n  m(a, b) {\n    return a;\n  }\n}"},
	} {
		memberWrites(t, c.member, wide, c.want)
		nodes, k := memberIn(t, c.member)
		for _, in := range []int{1, 2, 39, mostIn} {
			nodeWrites(t, nodes, k, in, wide, lined(c.want, in))
		}
	}
}

func TestWriteAllInOneAnother(t *testing.T) {
	fileWrites(t, "", 80, "")
	fileWrites(t, "//a\n\nclass C{//b\nvar v;var w=[1,2];m(){}n(a){//c\n}o(a,b){var x;x=a;f(x);return;if(a){return b;}if(b){}else{while(c){}}while(f(a)){//d\n\nreturn;}}}//e\nvar z;//f", 80, `//a

class C {
  //b
  var v;
  var w = [1, 2];
  m() {
  }
  n(a) {
    //c
  }
  o(a, b) {
    var x;
    x = a;
    f(x);
    return;
    if (a) {
      return b;
    }
    if (b) {
    } else {
      while (c) {
      }
    }
    while (f(a)) {
      //d

      return;
    }
  }
}
//e
var z;
//f`)
	fileWrites(t, "m(){if(a){if(b){c;}else{if(d){e;}else{f;}}}else{while(g){while(h){i;}}}}", 80, `m() {
  if (a) {
    if (b) {
      c;
    } else {
      if (d) {
        e;
      } else {
        f;
      }
    }
  } else {
    while (g) {
      while (h) {
        i;
      }
    }
  }
}`)
}

func TestWriteNarrow(t *testing.T) {
	source := "var total = sum(first, second); main(a) { if (a.isGood(first, second)) { return first + second; } else { a = a ? first : second; } while (a < total) { a = a + 1; tell('a text', a)..more(); } }"
	fileWrites(t, source, 20, `var total = sum(
    first, second
);
main(a) {
  if (a.isGood(
      first, second
  )) {
    return first +
        second;
  } else {
    a = a
        ? first
        : second;
  }
  while (a <
      total) {
    a = a + 1;
    tell(
        'a text', a
    )..more();
  }
}`)
	fileWrites(t, source, 200, `var total = sum(first, second);
main(a) {
  if (a.isGood(first, second)) {
    return first + second;
  } else {
    a = a ? first : second;
  }
  while (a < total) {
    a = a + 1;
    tell('a text', a)..more();
  }
}`)
}

func TestWriteTheWidthJustSo(t *testing.T) {
	for _, c := range []struct{ step, less string }{
		{"var total = sum(first, second);", "var total = sum(\n    first, second\n);"},
		{"total = sum(first, second);", "total = sum(\n    first, second\n);"},
		{"sum(first, second);", "sum(\n    first, second\n);"},
		{"return sum(first, second);", "return sum(\n    first, second\n);"},
		{"var total = first;", "var total =\n    first;"},
		{"total = 'a';", "total =\n    'a';"},
		{"return first + second;", "return first +\n    second;"},
		{"first ? second : third;", "first\n    ? second\n    : third;"},
		{"first..second();", "first\n    ..second();"},
		{"return (first) => second;", "return (first) =>\n    second;"},
		// What can't be split stays in its line.
		{"var a_long_name_of_thirty_bytes_12;", "var a_long_name_of_thirty_bytes_12;"},
		{"return 'a long text';", "return 'a long text';"},
		{"'a long text';", "'a long text';"},
		{"return;", "return;"},
		{"// a note that is long", "// a note that is long"},
	} {
		for _, in := range []int{0, 2, 7, mostIn} {
			length := in + len(c.step)
			for _, more := range []int{0, 1, 100} {
				stepWrites(t, c.step, in, length+more, lined(c.step, in))
			}
			stepWrites(t, c.step, in, length-1, lined(c.less, in))
		}
	}
	for _, c := range []struct{ head, less string }{
		{"if (sum(first, second)) {", "if (sum(\n    first, second\n)) {"},
		{"while (sum(first, second)) {", "while (sum(\n    first, second\n)) {"},
		{"if (first && second) {", "if (first &&\n    second) {"},
		{"while (first < second) {", "while (first <\n    second) {"},
		{"if (first) {", "if (first) {"},
		{"while (first) {", "while (first) {"},
	} {
		for _, in := range []int{0, 2, mostIn} {
			length := in + len(c.head)
			stepWrites(t, c.head+"a;}", in, length, lined(c.head+"\n  a;\n}", in))
			stepWrites(t, c.head+"a;}", in, length-1, lined(c.less+"\n  a;\n}", in))
		}
	}
	// What stands ahead of a block, but for the value, is one line at any width.
	for _, width := range []int{0, 1, 10, 30} {
		memberWrites(t, "a_method_of_a_long_name(first, second, third) {}", width, "a_method_of_a_long_name(first, second, third) {\n}")
		memberWrites(t, "class A_class_of_a_long_name {}", width, "class A_class_of_a_long_name {\n}")
		stepWrites(t, "if (first) {} else {}", 0, max(width, 8), "if (first) {\n} else {\n}")
	}
}

// A statement in a block has so many bytes less as the block is in.
func TestWriteTheWidthJustSoInBlocks(t *testing.T) {
	one, split := "tell(first, second);", "tell(\n    first, second\n);"
	for ifs := range 5 {
		step := inOneAnother("if (a) {", one, "}", ifs)
		for _, in := range []int{0, 3, mostIn} {
			head, end := []string{}, []string{}
			for i := range ifs {
				head, end = append(head, blanks(in+2*i)+"if (a) {"), append([]string{blanks(in+2*i) + "}"}, end...)
			}
			length := in + 2*ifs + len(one)
			for _, c := range []struct {
				width int
				lines string
			}{{length, one}, {length - 1, split}} {
				want := slices.Concat(head, []string{lined(c.lines, in+2*ifs)}, end)
				stepWrites(t, step, in, c.width, strings.Join(want, "\n"))
			}
		}
	}
}

func TestWriteNamesOfThirtyBytes(t *testing.T) {
	name := strings.Repeat("n", 30)
	for _, c := range []struct{ step, less string }{
		{"var " + name + " = b;", "var " + name + " =\n    b;"},
		{name + " = b;", name + " =\n    b;"},
		{"var " + name + " = " + name + ";", "var " + name + " =\n    " + name + ";"},
		{name + " = " + name + ";", name + " =\n    " + name + ";"},
		{"var " + name + ";", "var " + name + ";"},
		{name + "." + name + ";", name + "." + name + ";"},
	} {
		for _, in := range []int{0, mostIn} {
			stepWrites(t, c.step, in, in+len(c.step), lined(c.step, in))
			stepWrites(t, c.step, in, in+len(c.step)-1, lined(c.less, in))
		}
	}
	memberWrites(t, "var "+name+" = b;", 38, "var "+name+" =\n    b;")
	memberWrites(t, name+"("+name+", "+name+"){}", 38, name+"("+name+", "+name+") {\n}")
	memberWrites(t, "class "+name+"{}", 38, "class "+name+" {\n}")
	long := name + "n"
	for _, lines := range []string{"name b|var %s 0", "name b|set %s 0", "var %s", "block|method %s 0", "class %s", "name %s|do 0", "name %s|block|method m 0 1"} {
		nodes := nodesOf(strings.Split(fmt.Sprintf(lines, long), "|"))
		isNotWritten(t, "a name of 31 bytes", nodes, len(nodes)-1)
		nodes = nodesOf(strings.Split(fmt.Sprintf(lines, name), "|"))
		nodeIsByWord(t, nodes, len(nodes)-1, 0, 38, enough)
	}
}

// blankTree has Blank at all statements and members, at the first ones of their blocks, too.
func blankTree(t *testing.T) []impl.Node {
	t.Helper()
	nodes := readTree(t, "//a\nvar b; var c = d; class E { //f\n var g; m(h) { } } n(i) { //j\n var k; l = k; l(k); return; if (k) { return k; } else { //o\n k; } while (k) { k; //p\n } }")
	for k := range nodes {
		nodes[k].Blank = isWritable(nodes[k].Kind)
	}
	return nodes
}

func TestWriteBlankOfAll(t *testing.T) {
	nodes := blankTree(t)
	got := fileIsByWord(t, nodes, 80, enough)
	if want := `
//a

var b;

var c = d;

class E {

  //f

  var g;

  m(h) {
  }
}

n(i) {

  //j

  var k;

  l = k;

  l(k);

  return;

  if (k) {

    return k;
  } else {

    //o

    k;
  }

  while (k) {

    k;

    //p
  }
}`; strings.Join(got.Lines, "\n") != want {
		t.Errorf("with Blank at all it is written as\n%s", strings.Join(got.Lines, "\n"))
	}
	for k, node := range nodes {
		if isWritable(node.Kind) {
			written := nodeIsByWord(t, nodes, k, 4, 80, enough)
			if written.Lines[0] != "" || written.Lines[1] == "" {
				t.Errorf("the node %d, which has Blank, is written as %q", k, written.Lines)
			}
		}
	}
}

// TestWriteBlankOfOne has Blank at one statement or member at a time: a line more than without, and else the same lines.
func TestWriteBlankOfOne(t *testing.T) {
	without := withoutBlank(blankTree(t))
	plain := fileIsByWord(t, without, 80, enough)
	if slices.Contains(plain.Lines, "") {
		t.Fatalf("without Blank it is written as %q", plain.Lines)
	}
	places := map[int]bool{}
	for k, node := range without {
		nodes := cloneTree(without)
		nodes[k].Blank = true
		if !isWritable(node.Kind) {
			nothingIsWritten(t, "Blank of a node that is no statement or member", impl.WriteFile(nodes, 80, enough))
			continue
		}
		got := fileIsByWord(t, nodes, 80, enough)
		at := slices.Index(got.Lines, "")
		if at < 0 || !slices.Equal(slices.Delete(slices.Clone(got.Lines), at, at+1), plain.Lines) || got.State != plain.State {
			t.Errorf("with Blank at the node %d it is written as %q", k, got.Lines)
		}
		places[at] = true
		// By itself, the empty line stands ahead of the others, which are as they were.
		for _, in := range []int{0, mostIn} {
			blank, bare := nodeIsByWord(t, nodes, k, in, 20, enough), nodeIsByWord(t, without, k, in, 20, enough)
			if !slices.Equal(blank.Lines, append([]string{""}, bare.Lines...)) || blank.State != bare.State {
				t.Errorf("the node %d is written as %q with Blank, %q without", k, blank.Lines, bare.Lines)
			}
		}
	}
	// Ahead of which lines: those of statements and members, the `}` and `} else {` are none.
	want := []int{}
	for i, line := range plain.Lines {
		if !strings.HasPrefix(strings.TrimLeft(line, " "), "}") {
			want = append(want, i)
		}
	}
	for _, at := range want {
		if !places[at] {
			t.Errorf("no empty line stands ahead of %q", plain.Lines[at])
		}
	}
	if len(places) != len(want) {
		t.Errorf("empty lines stand at %v; want %v", places, want)
	}
}

func TestWriteBlankOfASource(t *testing.T) {
	fileWrites(t, "\n\nvar a;\n\n\n\nvar b;\nm() {\n\n  a;\n\n  b;\n\n}\n \n//c\n\n", 80, "var a;\n\nvar b;\nm() {\n  a;\n\n  b;\n}\n\n//c")
	fileWrites(t, "class C {\n\nvar a;\n\nm() {\n\n}\n\n}\n\nif_it() { if (a) {\n\nb;\n\n} else {\n\nc;\n\n\nd;\n\n} }", 80, "class C {\n  var a;\n\n  m() {\n  }\n}\n\nif_it() {\n  if (a) {\n    b;\n  } else {\n    c;\n\n    d;\n  }\n}")
	// An empty line within a statement is none ahead of it.
	fileWrites(t, "var a;\nvar\n\nb\n\n=\n\nf(\n\nc\n\n)\n\n;\nm\n\n(\n\n)\n\n{ }", 80, "var a;\nvar b = f(c);\nm() {\n}")
}

// deepSteps has a statement in ifs (or, of odd ones, whiles) in one another; it tells the place of the outermost.
func deepSteps(m *treeMaker, count int, inner int) int {
	last := inner
	for i := range count {
		value := m.name()
		if block := m.block(last); i%2 == 0 {
			last = m.add(impl.NdIf, "", value, block)
		} else {
			last = m.add(impl.NdWhile, "", value, block)
		}
	}
	return last
}

// TestWriteTheDeepest holds how far in the innermost statement is: 2 more for each block, and for the members of a class.
func TestWriteTheDeepest(t *testing.T) {
	furthest := 0
	innerIs := func(nodes []impl.Node, k int, in int, deep int, text string) {
		t.Helper()
		if got := impl.DeepOf(nodes, k); got != deep {
			t.Fatalf("the depth is %d; want %d", got, deep)
		}
		if deep == 0 {
			isNotWritten(t, "a depth above MaxDeep", nodes, k)
			return
		}
		furthest = max(furthest, mostIn+in)
		for _, from := range []int{0, 2, mostIn} {
			for _, width := range []int{0, 10, 60, 200} {
				lines := nodeIsByWord(t, nodes, k, from, width, enough).Lines
				if middle := lines[len(lines)/2]; middle != blanks(from+in)+text {
					t.Errorf("with in %d the innermost statement is written as %q; want it in %d", from, middle, from+in)
				}
			}
		}
	}
	for count := range 9 {
		for _, c := range []struct {
			line, text string
			deep       int
		}{{"return", "return;", 1}, {"note // n", "// n", 1}, {"var v", "var v;", 1}, {"do 0", "a;", 2}, {"return 0", "return a;", 2}} {
			m := &treeMaker{}
			m.name()
			m.nodes = append(m.nodes, nodeOf(c.line))
			step, deep := deepSteps(m, count, 1), c.deep+2*count
			depth := func(more int) int {
				if deep+more > impl.MaxDeep {
					return 0
				}
				return deep + more
			}
			innerIs(m.nodes, step, 2*count, depth(0), c.text)
			method := m.add(impl.NdMethod, "m", m.block(step))
			innerIs(m.nodes, method, 2*count+2, depth(2), c.text)
			class := m.add(impl.NdClass, "C", method)
			innerIs(m.nodes, class, 2*count+4, depth(3), c.text)
		}
	}
	// From 61 on no piece would be right, and a value would stand in one line: no tree is so deep.
	if furthest != 54 {
		t.Errorf("the furthest statement is in %d", furthest)
	}
}

// TestWriteFurtherThanIsAsked has a value further in than one may be asked for: it is split like others, as its piece is right up to 60.
func TestWriteFurtherThanIsAsked(t *testing.T) {
	for count := range 7 {
		m := &treeMaker{}
		inner := m.add(impl.NdVar, "v", m.name())
		step, in := deepSteps(m, count, inner), mostIn+2*count
		if deep := impl.DeepOf(m.nodes, step); deep != 2+2*count {
			t.Fatalf("the depth is %d", deep)
		}
		for _, c := range []struct {
			width, budget, state int
			lines                []string
		}{
			{in + 10, enough, impl.StBest, []string{"var v = a;"}}, {in + 9, enough, impl.StBest, []string{"var v =", "    a;"}},
			{200, 0, impl.StSoFar, []string{"var v =", "    a;"}}, {200, 1, impl.StSoFar, []string{"var v =", "    a;"}},
		} {
			got := nodeIsByWord(t, m.nodes, step, mostIn, c.width, c.budget)
			lines := got.Lines[count : len(got.Lines)-count]
			for i, line := range c.lines {
				if len(lines) != len(c.lines) || lines[i] != blanks(in)+line || got.State != c.state {
					t.Errorf("in %d with the width %d and the budget %d there is written %q, %d", in, c.width, c.budget, lines, got.State)
				}
			}
		}
		nothingIsWritten(t, "in 41", impl.WriteNode(m.nodes, step, mostIn+1, 80, enough))
		if in > mostIn {
			nothingIsWritten(t, "a statement by itself that is so far in", impl.WriteNode(m.nodes, inner, in, 80, enough))
		}
	}
}

func TestWriteNumbersOfIn(t *testing.T) {
	nodes := blankTree(t)
	for k, node := range nodes {
		for _, in := range append(slices.Clone(oddNumbers), 20, 38, 42, 100) {
			if in < 0 || in > mostIn || !isWritable(node.Kind) {
				nothingIsWritten(t, fmt.Sprint("in ", in, " of kind ", node.Kind), impl.WriteNode(nodes, k, in, 80, enough))
				continue
			}
			lines := nodeIsByWord(t, nodes, k, in, 80, enough).Lines
			if !strings.HasPrefix(lines[1], blanks(in)) || strings.HasPrefix(lines[1], blanks(in+1)) {
				t.Errorf("with in %d there is written %q", in, lines)
			}
		}
	}
}

func TestWriteAtEachWidth(t *testing.T) {
	source := "class C { m(a, b) { var v = f(a, [b, 'c']) + d * 2; while (a ? b : c) { x = (p, q) => p..g(1)..h(q); } } }"
	nodes := readTree(t, source)
	seen := map[string]bool{}
	for width := range 101 {
		isReadAnew(t, nodes, width, enough)
		seen[impl.JoinLines(impl.WriteFile(nodes, width, enough).Lines)] = true
	}
	if len(seen) < 10 {
		t.Errorf("it is written in only %d ways", len(seen))
	}
	for _, width := range append(slices.Clone(oddWidths), 9, 10, 199, 200, 201) {
		isReadAnew(t, nodes, width, enough)
		isReadAnew(t, nodes, width, 3)
		for k := range nodes {
			nodeIsByWord(t, nodes, k, mostIn, width, enough)
		}
		// Below 0 is as 0, above the greatest width as that.
		same := min(max(width, 0), mostWidth)
		if !sameWritten(impl.WriteFile(nodes, width, enough), impl.WriteFile(nodes, same, enough)) {
			t.Errorf("the width %d is not as %d", width, same)
		}
	}
}

// Where no split makes lines short enough, that is taken with which they are too long by the least.
func TestWriteWhereNothingFits(t *testing.T) {
	for _, c := range []struct {
		width int
		want  string
	}{{10, "var a = b;"}, {9, "var a =\n    b;"}, {5, "var a =\n    b;"}, {4, "var a =\n    b;"}, {3, "var a = b;"}, {0, "var a = b;"}, {-1, "var a = b;"}, {math.MinInt, "var a = b;"}} {
		memberWrites(t, "var a = b;", c.width, c.want)
	}
	long := "'" + strings.Repeat("x", 250) + "'"
	memberWrites(t, "var a = "+long+";", 200, "var a =\n    "+long+";")
	stepWrites(t, "a = "+long+";", 3, 200, lined("a = "+long+";", 3))
	stepWrites(t, "ab = "+long+";", 3, 200, lined("ab =\n    "+long+";", 3))
	stepWrites(t, "return "+long+";", 0, 10, "return "+long+";")
	stepWrites(t, long+";", mostIn, 0, blanks(mostIn)+long+";")
	stepWrites(t, "if ("+long+") {}", 2, 80, "  if ("+long+") {\n  }")
	stepWrites(t, "f("+long+");", 0, 80, "f("+long+");")
	stepWrites(t, "ff("+long+");", 0, 80, "ff(\n    "+long+"\n);")
	stepWrites(t, "f("+long+", a);", 0, 80, "f(\n    "+long+",\n    a\n);")
	stepWrites(t, "// "+long, 2, 10, "  // "+long)
	// As long as a text, and a note, may be.
	longest := "'" + strings.Repeat("x", impl.MaxSource-2) + "'"
	nodes := []impl.Node{{Kind: impl.NdText, Text: longest}, {Kind: impl.NdVar, Text: "a", Kids: []int{0}}, {Kind: impl.NdNote, Text: "//" + longest[2:]}, {Kind: impl.NdFile, Kids: []int{1, 2}}}
	got := impl.WriteFile(nodes, 200, enough)
	if want := []string{"var a =", "    " + longest + ";", "//" + longest[2:]}; !slices.Equal(got.Lines, want) {
		t.Errorf("the longest text is written in %d lines", len(got.Lines))
	}
	nodes[2].Text += "x"
	nothingIsWritten(t, "a note that is too long", impl.WriteFile(nodes, 200, enough))
	isNotWritten(t, "a note that is too long", nodes, 2)
}

// TestWriteBudgetsByHand has searches that pop so many states: one without rules its only one, the call of two values four.
func TestWriteBudgetsByHand(t *testing.T) {
	split, one := "f(\n    a,\n    b\n);", "f(a, b);"
	nodes, k := stepIn(t, one)
	for _, c := range []struct {
		budget, state int
		want          string
	}{
		{math.MinInt, impl.StSoFar, split}, {-1, impl.StSoFar, split}, {0, impl.StSoFar, split}, {1, impl.StSoFar, split}, {2, impl.StSoFar, one}, {3, impl.StSoFar, one},
		{4, impl.StBest, one}, {5, impl.StBest, one}, {enough, impl.StBest, one}, {math.MaxInt, impl.StBest, one},
	} {
		got := nodeIsByWord(t, nodes, k, 0, 80, c.budget)
		if strings.Join(got.Lines, "\n") != c.want || got.State != c.state {
			t.Errorf("with the budget %d it is written as %q, %d", c.budget, got.Lines, got.State)
		}
	}
	for _, step := range []string{"a;", "return 'a';", "if (a) {}", "while (a.b()) {}"} {
		nodes, k := stepIn(t, step)
		for budget, state := range []int{impl.StSoFar, impl.StBest, impl.StBest} {
			if got := nodeIsByWord(t, nodes, k, 0, 80, budget); got.State != state {
				t.Errorf("%q with the budget %d has the State %d", step, budget, got.State)
			}
		}
	}
}

func TestWriteWithoutAPiece(t *testing.T) {
	for _, budget := range oddBudgets {
		for _, step := range []string{"// n", "var a;", "return;"} {
			nodes, k := stepIn(t, step)
			if got := nodeIsByWord(t, nodes, k, 0, 0, budget); got.State != impl.StBest || len(got.Lines) != 1 || got.Lines[0] != step {
				t.Errorf("with the budget %d there is written %q, %d", budget, got.Lines, got.State)
			}
		}
		for _, source := range []string{"", "// n", "var a;", "m(a, b) { return; }", "class C { m() { // n\n var a; } var b; }"} {
			nodes := readTree(t, source)
			if got := fileIsByWord(t, nodes, 0, budget); got.State != impl.StBest {
				t.Errorf("%q with the budget %d has the State %d", source, budget, got.State)
			}
		}
	}
	if got := impl.WriteFile([]impl.Node{{Kind: impl.NdFile}}, 0, 0); len(got.Lines) != 0 || got.State != impl.StBest {
		t.Errorf("a file without members is written as %q, %d", got.Lines, got.State)
	}
}

// TestWriteOnePieceSoFar has one piece that needs a budget of 4, at each place, among those that need 1.
func TestWriteOnePieceSoFar(t *testing.T) {
	for _, form := range []string{
		"m() { @; a; b; }", "m() { a; @; b; }", "m() { a; b; @; }", "m() { return @; }", "m() { if (@) { a; } else { b; } }", "m() { if (a) { @; } else { b; } }",
		"m() { if (a) { b; } else { @; } }", "m() { while (@) { a; } }", "m() { while (a) { @; } b; }", "class C { m() { @; } } class D { m() { a; } }", "class C { m() { a; } } class D { m() { @; } }",
		"m() { a; } n() { @; } o() { // n\n return; var a; }", "m() { if (a) { while (b) { if (c) { } else { @; } d; } e; } f; }",
	} {
		for value, need := range map[string]int{"f(a, b)": 4, "a": 1} {
			nodes := readTree(t, strings.ReplaceAll(form, "@", value))
			for budget := range need + 3 {
				state := impl.StBest
				if budget < need {
					state = impl.StSoFar
				}
				if got := fileIsByWord(t, nodes, 80, budget); got.State != state {
					t.Errorf("%q with %q and the budget %d has the State %d", form, value, budget, got.State)
				}
			}
		}
	}
}

// leastBudget tells the least budget with which a file is told as the best.
func leastBudget(t *testing.T, nodes []impl.Node) int {
	t.Helper()
	for budget := range enough + 1 {
		if impl.WriteFile(nodes, 80, budget).State == impl.StBest {
			return budget
		}
	}
	t.Fatalf("no budget is enough for %v", nodes)
	return 0
}

// TestWriteEachBudget holds the State against each piece by itself, of which the hardest counts, wherever it stands.
func TestWriteEachBudget(t *testing.T) {
	steps := []string{"a = b;", "f(a, b);", "return [a, b, c];", "f(a);", "var v = a + b;"}
	for turn := range steps {
		order := append(slices.Clone(steps[turn:]), steps[:turn]...)
		nodes := readTree(t, "m() {"+strings.Join(order, "")+"}")
		block := nodes[len(nodes)-3]
		hardest := leastBudget(t, nodes)
		for budget := -1; budget <= hardest+1; budget++ {
			state := impl.StBest
			for _, kid := range block.Kids {
				state = max(state, nodeIsByWord(t, nodes, kid, 2, 80, budget).State)
			}
			if got := fileIsByWord(t, nodes, 80, budget); got.State != state || (state == impl.StBest) != (budget >= hardest) {
				t.Errorf("with the budget %d the State is %d; want %d, and %d is just enough", budget, got.State, state, hardest)
			}
		}
	}
}

func TestWriteOddBudgets(t *testing.T) {
	nodes := readTree(t, "m() { var v = "+fullLists(2, "a + b * c", "x ? y : z")+"; return f(a, b); }")
	for _, budget := range oddBudgets {
		for _, width := range []int{20, 200} {
			isReadAnew(t, nodes, width, budget)
		}
	}
	least, none := impl.WriteFile(nodes, 40, math.MinInt), impl.WriteFile(nodes, 40, 0)
	if !sameWritten(least, none) || least.State != impl.StSoFar {
		t.Errorf("with the least budget there is written\n%s", strings.Join(least.Lines, "\n"))
	}
}

func TestWritePieceByHand(t *testing.T) {
	for _, c := range []struct {
		p             impl.Piece
		width, budget int
		state         int
		want          string
	}{
		{impl.Piece{Chunks: []impl.Chunk{{Text: "x"}}}, 40, 100, impl.StBest, "x"},
		{impl.Piece{Chunks: []impl.Chunk{{Text: "x"}}}, 40, 0, impl.StSoFar, "x"},
		{impl.Piece{Chunks: []impl.Chunk{{}}}, 0, 1, impl.StBest, ""},
		{impl.Piece{Indent: 60, Chunks: []impl.Chunk{{Text: "x"}}}, 0, 1, impl.StBest, blanks(60) + "x"},
		{tiedByHand(), 13, enough, impl.StBest, "  a = f(x, y)"},
		{tiedByHand(), 12, enough, impl.StBest, "  a =\n      f(\n      x, y)"},
		{tiedByHand(), 80, 0, impl.StSoFar, "  a =\n      f(\n      x,\n      y)"},
		{tiedByHand(), 80, 1, impl.StSoFar, "  a =\n      f(\n      x,\n      y)"},
	} {
		got := impl.WritePiece(c.p, c.width, c.budget)
		if strings.Join(got.Lines, "\n") != c.want || len(got.Lines) != 1+strings.Count(c.want, "\n") || got.State != c.state {
			t.Errorf("WritePiece(%+v, %d, %d) is %q, %d; want %q, %d", c.p, c.width, c.budget, got.Lines, got.State, c.want, c.state)
		}
	}
}

func TestWriteAnyPiece(t *testing.T) {
	rights, soFar := 0, 0
	for seed := range int64(300) {
		p := anyPiece(seed)
		if !impl.PieceOk(p) {
			nothingIsWritten(t, "a piece that is not right", impl.WritePiece(p, 80, enough))
			continue
		}
		rights++
		for _, width := range []int{math.MinInt, 0, 10, 40, 200, math.MaxInt} {
			for _, budget := range []int{math.MinInt, 0, 1, 7, 100, enough, math.MaxInt} {
				got := impl.WritePiece(p, width, budget)
				v, state := impl.Search(p, width, budget)
				if !slices.Equal(got.Lines, linesByWord(p, v)) || got.State != state {
					t.Fatalf("WritePiece(%+v, %d, %d) is %q, %d; found are %v, %d", p, width, budget, got.Lines, got.State, v, state)
				}
				if state == impl.StSoFar {
					soFar++
				}
			}
		}
	}
	if rights < 100 || soFar < 100 {
		t.Errorf("%d pieces are right; %d are told so far", rights, soFar)
	}
}

func TestWritePiecesThatAreNotRight(t *testing.T) {
	for why, p := range notRight() {
		for _, width := range oddWidths {
			for _, budget := range oddBudgets {
				nothingIsWritten(t, why, impl.WritePiece(p, width, budget))
			}
		}
	}
	// Each number of a piece, turned: it is right still, or nothing is written.
	p, rights := pieceByHand(), 0
	for _, place := range numbersIn(&p) {
		held := *place
		for _, number := range oddNumbers {
			*place = number
			got := impl.WritePiece(p, 20, 50)
			if !pieceByWord(p) {
				nothingIsWritten(t, "a turned piece", got)
				continue
			}
			v, state := impl.Search(p, 20, 50)
			if rights++; !slices.Equal(got.Lines, linesByWord(p, v)) || got.State != state || state == 0 {
				t.Errorf("WritePiece(%+v) is %q, %d", p, got.Lines, got.State)
			}
		}
		*place = held
	}
	if rights < 50 {
		t.Errorf("only %d turned pieces are right", rights)
	}
}

func TestWritePlacesWithoutAStatement(t *testing.T) {
	nodes, _ := wholeTree()
	kinds := map[int]int{}
	for k, node := range nodes {
		kinds[node.Kind]++
		if isWritable(node.Kind) {
			nodeIsByWord(t, nodes, k, 0, 80, enough)
			continue
		}
		isNotWritten(t, fmt.Sprint("kind ", node.Kind), nodes, k)
	}
	for kind := impl.NdName; kind <= impl.NdFile; kind++ {
		if kinds[kind] == 0 {
			t.Errorf("there is no kind %d", kind)
		}
	}
	for _, k := range []int{-1, -2, len(nodes), len(nodes) + 1, 1 << 40, math.MaxInt, math.MaxInt - 1, math.MinInt, math.MinInt + 1} {
		isNotWritten(t, fmt.Sprint("k ", k), nodes, k)
		isNotWritten(t, "no nodes", nil, k)
		isNotWritten(t, "no nodes", []impl.Node{}, k)
		for _, number := range []int{math.MinInt, -1, math.MaxInt} {
			nothingIsWritten(t, "all of it wrong", impl.WriteNode(nodes, k, number, number, number))
		}
	}
	isNotWritten(t, "no nodes", nil, 0)
}

func TestWriteBehindWrongNodes(t *testing.T) {
	nodes := readTree(t, "var a = 1; m(b) { if (b) { f(b); } return; } // n")
	wrong := []impl.Node{
		{}, {Kind: 23, Text: "a"}, {Kind: -1}, {Kind: math.MinInt}, {Kind: math.MaxInt}, {Kind: impl.NdName}, {Kind: impl.NdName, Text: "a b"}, {Kind: impl.NdName, Text: "a", Blank: true},
		{Kind: impl.NdNum, Text: "a"}, {Kind: impl.NdText, Text: "'\n'"}, {Kind: impl.NdNote, Text: "// n "}, {Kind: impl.NdNote, Text: "n"}, {Kind: impl.NdNote, Text: "//\n"}, {Kind: impl.NdPar, Kids: []int{1000}},
		{Kind: impl.NdVar}, {Kind: impl.NdVar, Text: "7"}, {Kind: impl.NdVar, Text: "v", Kids: []int{-1}}, {Kind: impl.NdSet, Text: "s"}, {Kind: impl.NdDo}, {Kind: impl.NdReturn, Text: "a"}, {Kind: impl.NdReturn, Kids: []int{math.MaxInt}},
		{Kind: impl.NdIf}, {Kind: impl.NdWhile}, {Kind: impl.NdBlock, Blank: true}, {Kind: impl.NdMethod, Text: "m"}, {Kind: impl.NdClass}, {Kind: impl.NdClass, Text: "C", Kids: []int{math.MinInt}}, {Kind: impl.NdFile, Blank: true},
	}
	for at := range nodes {
		for _, node := range wrong {
			turned := cloneTree(nodes)
			turned[at] = node
			nothingIsWritten(t, "a node that is not right", impl.WriteFile(turned, 80, enough))
			for k := range turned {
				if k >= at {
					isNotWritten(t, "a node up to it that is not right", turned, k)
				} else {
					// What stands behind a statement doesn't matter.
					nodeIsByWord(t, turned, k, 0, 80, enough)
				}
			}
		}
	}
}

func TestWriteListsThatAreNoTree(t *testing.T) {
	for _, lines := range []string{
		"return", "note // n", "var v", "name a|var v 0", "block|method m 0", "class C", "return|name a|do 1", "file|name a|return 1", "name a|do 0|block 1|block 1|if 0 2 3", "block|class C|method m 0|class D 2|file|var v",
		"name a|do 0|block 1|while 0 2|block 3 1|if 0 4 2|block 5 3 1|method m 0 6|class C 7", "name a|var v 0|class C 1|class D 1|file 2 3 1", "name a|name b|block|method m 1 0 2|method n 0 1 2|class C 3 4",
	} {
		nodes := nodesOf(strings.Split(lines, "|"))
		nothingIsWritten(t, lines, impl.WriteFile(nodes, 80, enough))
		for k, node := range nodes {
			got := nodeIsByWord(t, nodes, k, 2, 10, enough)
			if isWritable(node.Kind) != (got.State == impl.StBest) {
				t.Errorf("the node %d of %s is written as %q, %d", k, lines, got.Lines, got.State)
			}
		}
	}
	// A block of two is written in each.
	nodeWrites(t, nodesOf(strings.Split("name a|do 0|block 1|block 1|if 0 2 3", "|")), 4, 1, 80, lined("if (a) {\n  a;\n} else {\n  a;\n}", 1))
}

// TestWriteTreesThatAreNotRead has right trees that no source is read as: they are written as their Kids stand.
func TestWriteTreesThatAreNotRead(t *testing.T) {
	for _, c := range []struct{ lines, want string }{
		{"name a|name b|chain + 0 1|name c|chain * 2 3|var v 4|file 5", "var v = a + b * c;"},
		{"name a|cascade 0|var v 1|file 2", "var v = a;"},
		{"name if|var else 0|file 1", "var else = if;"},
		{"name while|do 0|block 1|method return 2|class var 3|file 4", "class var {\n  return() {\n    while;\n  }\n}"},
		{"var a|var b|class C 0|class D 1|file 3 2", "class D {\n  var b;\n}\nclass C {\n  var a;\n}"},
		{"block|return|block 1|name a|if 3 2 0|block 4|method m 5|file 6", "m() {\n  if (a) {\n    return;\n  } else {\n  }\n}"},
		{"block|name b|name a|method m 2 1 0|file 3", "m(a, b) {\n}"},
		{"name a|name b|fn 0 1|num 1|call 2 3|do 4|block 5|method m 6|file 7", "m() {\n  (a) => b(1);\n}"},
		{"blank var a|file 0", "\nvar a;"},
		{"blank return|block 0|blank method m 1|file 2", "\nm() {\n\n  return;\n}"},
		{"blank note // n|blank class C 0|file 1", "\nclass C {\n\n  // n\n}"},
	} {
		nodes := nodesOf(strings.Split(c.lines, "|"))
		if got := fileIsByWord(t, nodes, 80, enough); strings.Join(got.Lines, "\n") != c.want || got.State != impl.StBest {
			t.Errorf("%s is written as\n%s\n%d; want\n%s", c.lines, strings.Join(got.Lines, "\n"), got.State, c.want)
		}
	}
}

func TestWriteFilesThatAreNotRight(t *testing.T) {
	for why, nodes := range wrongTrees() {
		for _, number := range []int{math.MinInt, -1, 0, 10, 80, enough, math.MaxInt} {
			nothingIsWritten(t, why, impl.WriteFile(nodes, number, number))
		}
		// Its statements may be written by themselves, where they have a depth.
		for k := range nodes {
			nodeIsByWord(t, nodes, k, 0, 80, enough)
		}
	}
	fileIsByWord(t, nodesWith(func(nodes []impl.Node) {}), 80, enough)
}

func TestWriteTheMostNodes(t *testing.T) {
	for _, size := range []int{1, 2, 3, 27, 28, 299, impl.MaxNodes, impl.MaxNodes + 1} {
		nodes, want := wideTree(size), []string{}
		for _, class := range nodes[size-1].Kids {
			want = append(want, "class C {")
			for _, kid := range nodes[class].Kids {
				want = append(want, []string{"  var v;", "  var v = a;"}[len(nodes[kid].Kids)])
			}
			want = append(want, "}")
			// A class has a depth, also where there are too many nodes for a tree.
			nodeIsByWord(t, nodes, class, mostIn, 10, enough)
		}
		got := impl.WriteFile(nodes, 80, enough)
		if size > impl.MaxNodes {
			nothingIsWritten(t, "a node too many", got)
			continue
		}
		if !slices.Equal(got.Lines, want) || got.State != impl.StBest {
			t.Errorf("%d nodes are written as %q, %d", size, got.Lines, got.State)
		}
		isReadAnew(t, nodes, 80, enough)
		isReadAnew(t, nodes, 10, enough)
	}
	for pars := range 15 {
		nodes := nested(pars)
		want := impl.Written{}
		if pars+3 <= impl.MaxDeep {
			want = impl.Written{Lines: []string{"var v = " + inOneAnother("(", "a", ")", pars) + ";"}, State: impl.StBest}
		}
		if got := fileIsByWord(t, nodes, 80, enough); !sameWritten(got, want) {
			t.Errorf("a name in %d brackets is written as %q, %d", pars, got.Lines, got.State)
		}
		// The statement is one less deep than the file.
		if got := nodeIsByWord(t, nodes, len(nodes)-2, 0, 80, enough); (got.State == 0) != (pars+2 > impl.MaxDeep) {
			t.Errorf("by itself it is written as %q, %d", got.Lines, got.State)
		}
	}
	for count := 10; count <= 14; count++ {
		m, kids := &treeMaker{}, []int{}
		for range count {
			kids = append(kids, m.add(impl.NdReturn, ""))
		}
		m.add(impl.NdFile, "", m.add(impl.NdMethod, "m", m.block(kids...)))
		got := fileIsByWord(t, m.nodes, 80, enough)
		if (count <= mostKids) != (len(got.Lines) == count+2) || (count > mostKids) != (got.State == 0) {
			t.Errorf("%d statements are written as %q, %d", count, got.Lines, got.State)
		}
	}
}

// TestWriteFullPieces has values with as many rules and chunks as a piece may have, at the end of which there is no room for a split.
func TestWriteFullPieces(t *testing.T) {
	for _, value := range []string{fullLists(5), fullLists(6), fullLists(7), fullLists(5, "b", "b", "b", "b", "b", "b", "b + c + d"), "[a, [b, [c, [d, [e, [f, [g, [h, [i, j]]]]]]]]]"} {
		nodes := readTree(t, "m() { var v = "+value+"; v = "+value+"; }")
		for _, width := range []int{20, 80, 200} {
			for _, budget := range []int{0, 100, 2000} {
				isReadAnew(t, nodes, width, budget)
			}
		}
	}
}

func TestWriteAnySource(t *testing.T) {
	kinds, soFar := map[int]int{}, 0
	for seed := range int64(400) {
		nodes := anySource(seed).nodes
		for i, width := range []int{10, 25, 40, 80, 200} {
			budget := []int{enough, 0, 1, 20, enough}[(int(seed)+i)%5]
			isReadAnew(t, nodes, width, budget)
			if impl.WriteFile(nodes, width, budget).State == impl.StSoFar {
				soFar++
			}
		}
		for _, node := range nodes {
			kinds[node.Kind]++
		}
	}
	for kind := impl.NdName; kind <= impl.NdFile; kind++ {
		if kinds[kind] < 50 {
			t.Errorf("the sources have the kind %d only %d times", kind, kinds[kind])
		}
	}
	if soFar < 200 {
		t.Errorf("only %d files are told so far", soFar)
	}
}

// standsIn holds each statement and member by itself against what has it: its lines are there, behind those of the ones ahead.
func standsIn(t *testing.T, nodes []impl.Node, lines []string, kids []int, in int, width int, budget int) []string {
	t.Helper()
	for _, kid := range kids {
		one := nodeIsByWord(t, nodes, kid, in, width, budget).Lines
		if len(lines) < len(one) || !slices.Equal(lines[:len(one)], one) {
			t.Fatalf("the node %d of %v is written as\n%s\nby itself; in what has it stands\n%s", kid, nodes, strings.Join(one, "\n"), strings.Join(lines, "\n"))
		}
		innerStand(t, nodes, one, kid, in, width, budget)
		lines = lines[len(one):]
	}
	return lines
}

// innerStand finds the lines of the blocks of a node between those that open and end them.
func innerStand(t *testing.T, nodes []impl.Node, lines []string, k int, in int, width int, budget int) {
	t.Helper()
	bodies := [][]int{}
	if nodes[k].Kind == impl.NdClass {
		bodies = append(bodies, nodes[k].Kids)
	}
	for _, kid := range nodes[k].Kids {
		if nodes[kid].Kind == impl.NdBlock {
			bodies = append(bodies, nodes[kid].Kids)
		}
	}
	for _, body := range bodies {
		opened := slices.IndexFunc(lines, func(line string) bool {
			return strings.HasSuffix(line, " {") && !strings.HasPrefix(line, blanks(in)+"//")
		})
		rest := standsIn(t, nodes, lines[opened+1:], body, in+2, width, budget)
		if len(rest) == 0 || !strings.HasPrefix(rest[0], blanks(in)+"}") {
			t.Fatalf("behind a block stands\n%s", strings.Join(rest, "\n"))
		}
		lines = rest
	}
}

func TestWriteEachStatementAsInTheFile(t *testing.T) {
	for seed := range int64(150) {
		nodes := anySource(seed).nodes
		width, budget := []int{15, 30, 80}[seed%3], []int{enough, 5}[seed%2]
		lines := impl.WriteFile(nodes, width, budget).Lines
		if rest := standsIn(t, nodes, lines, nodes[len(nodes)-1].Kids, 0, width, budget); len(rest) != 0 {
			t.Fatalf("behind all members stands %q", rest)
		}
	}
}

// TestWriteTurnedTrees turns one thing in a tree: the file is written as it is now, or not at all, and so is each node.
func TestWriteTurnedTrees(t *testing.T) {
	rights, nodesWritten := 0, 0
	for seed := range int64(1000) {
		nodes := anyTree(seed)
		turnOneThing(rand.New(rand.NewSource(seed)), nodes)
		if fileIsByWord(t, nodes, 30, 50).State != 0 {
			rights++
		}
		for k := range nodes {
			if nodeIsByWord(t, nodes, k, int(seed)%42, 30, 50).State != 0 {
				nodesWritten++
			}
		}
	}
	if rights < 100 || rights > 900 || nodesWritten < 1000 {
		t.Errorf("%d of the turned trees are right, %d nodes are written", rights, nodesWritten)
	}
}

// TestWriteEachNodeTurned turns each node of a small tree into each kind, and each kid to each place.
func TestWriteEachNodeTurned(t *testing.T) {
	nodes := readTree(t, "class C { var a; } m(b) { if (b) { b = 1; } else { } // n\n while (b) { return f(b); } }")
	hold := func(turned []impl.Node) {
		t.Helper()
		fileIsByWord(t, turned, 20, enough)
		for k := range turned {
			nodeIsByWord(t, turned, k, 3, 20, enough)
		}
	}
	for at, node := range nodes {
		for kind := -1; kind <= impl.NdFile+1; kind++ {
			for _, text := range []string{node.Text, rightTexts[kind]} {
				turned := cloneTree(nodes)
				turned[at].Kind, turned[at].Text = kind, text
				hold(turned)
			}
		}
		for i := range node.Kids {
			for kid := -1; kid <= len(nodes); kid++ {
				turned := cloneTree(nodes)
				turned[at].Kids[i] = kid
				hold(turned)
			}
			turned := cloneTree(nodes)
			turned[at].Kids = slices.Delete(turned[at].Kids, i, i+1)
			hold(turned)
		}
	}
}

// longTree has Texts of several bytes, so that it can be seen whose memory they are.
func longTree(t *testing.T) []impl.Node {
	t.Helper()
	return readTree(t, "// the first note\nclass Second { // the third\n var fourth; var fifth = sixth; seventh(eighth, ninth) { // the tenth\n\n eleventh = twelfth + 1313; if (fourteenth) { return 'fifteenth'; } else { while (sixteenth.seventeenth) { eighteenth(nineteenth, [20, 2121]); } } } }")
}

func TestWriteLeavesAllAsItIs(t *testing.T) {
	nodes := longTree(t)
	for k := range nodes {
		if len(nodes[k].Kids) > 0 {
			nodes[k].Kids = withRoom(nodes[k].Kids)
		}
	}
	nodes = withRoom(nodes)
	whole, before := nodes[:cap(nodes)], []impl.Node{}
	for _, node := range whole {
		node.Kids = slices.Clone(node.Kids[:cap(node.Kids)])
		before = append(before, node)
	}
	p := roomyPiece()
	isLeft := heldWithRoom(t, p, []int{})
	for _, width := range []int{0, 20, 80} {
		for _, budget := range []int{0, 20, enough} {
			spoilLines(impl.WriteFile(nodes, width, budget))
			spoilLines(impl.WritePiece(p, width, budget))
			for k := -1; k <= len(nodes); k++ {
				spoilLines(impl.WriteNode(nodes, k, 0, width, budget))
				spoilLines(impl.WriteNode(nodes, k, mostIn+1, width, budget))
			}
		}
	}
	isLeft()
	for k, node := range whole {
		node.Kids = node.Kids[:cap(node.Kids)]
		if !reflect.DeepEqual(node, before[k]) {
			t.Errorf("the node %d is %v; it was %v", k, node, before[k])
		}
	}
}

// spoilLines writes into all lines, their spare room too.
func spoilLines(w impl.Written) {
	for i := range w.Lines[:cap(w.Lines)] {
		w.Lines[:cap(w.Lines)][i] = "spoilt"
	}
}

func TestWrittenIsNewMemory(t *testing.T) {
	nodes := longTree(t)
	p := impl.Piece{Chunks: []impl.Chunk{{Text: strings.Clone("a text of many bytes")}}}
	isNew := func(write func() impl.Written, texts ...string) {
		t.Helper()
		first, second := write(), write()
		for _, line := range first.Lines {
			for _, text := range texts {
				if sharesMemory(line, text) {
					t.Errorf("%q shares memory with an argument", line)
				}
			}
		}
		held := slices.Clone(second.Lines)
		spoilLines(first)
		if third := write(); !slices.Equal(second.Lines, held) || !sameWritten(second, third) {
			t.Errorf("behind a change of what was written first there is %q, then %q", second.Lines, third.Lines)
		}
	}
	texts := []string{}
	for _, node := range nodes {
		texts = append(texts, node.Text)
	}
	for _, width := range []int{10, 80} {
		isNew(func() impl.Written { return impl.WritePiece(p, width, enough) }, p.Chunks[0].Text)
		isNew(func() impl.Written { return impl.WriteFile(nodes, width, enough) }, texts...)
		for k := range nodes {
			isNew(func() impl.Written { return impl.WriteNode(nodes, k, 0, width, enough) }, texts...)
			isNew(func() impl.Written { return impl.WriteNode(nodes, k, 2, width, enough) }, texts...)
		}
	}
	written := impl.WriteFile(nodes, 80, enough)
	held := slices.Clone(written.Lines)
	for k := range nodes {
		nodes[k] = impl.Node{Kind: impl.NdName, Text: "other", Kids: nodes[k].Kids}
		for i := range nodes[k].Kids {
			nodes[k].Kids[i] = -7
		}
	}
	if !slices.Equal(written.Lines, held) {
		t.Errorf("behind a change of the nodes there is written %q", written.Lines)
	}
}
