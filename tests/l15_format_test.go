package tests

import (
	"fmt"
	"math"
	"math/rand"
	"slices"
	"strings"
	"testing"

	"loop.example/g00459/impl"
)

const (
	leastWidth  = 10
	widest      = 200
	mostBudget  = 100000
	mostWritten = 3000
)

// formatByWord writes a source anew by the chapter's words; what is read, ReadSource tells.
func formatByWord(source string, width int, budget int) (string, int, int) {
	if !amongst(width, leastWidth, widest) || !amongst(budget, 0, mostBudget) {
		return "", 0, impl.FmBounds
	}
	nodes, at, ok := impl.ReadSource(source)
	if !ok {
		return "", at, impl.FmSource
	}
	written, text := fileWrittenByWord(nodes, width, budget), ""
	for _, line := range written.Lines {
		text += line + "\n"
	}
	if len(text) > mostWritten {
		return "", 0, impl.FmLong
	}
	return text, written.State, 0
}

// formatIs holds all that Format tells.
func formatIs(t *testing.T, source string, width int, budget int, text string, state int, code int) {
	t.Helper()
	gotText, gotState, gotCode := impl.Format(source, width, budget)
	if gotText != text || gotState != state || gotCode != code {
		t.Fatalf("Format(%q, %d, %d) is\n%s%d, %d; want\n%s%d, %d", source, width, budget, gotText, gotState, gotCode, text, state, code)
	}
}

// isSameSource holds the first half of promise 15: what is written is read as the same source, with the same notes in the same order.
func isSameSource(t *testing.T, source string, text string) {
	t.Helper()
	was, is := isRead(t, source), isRead(t, text)
	if !impl.SameTree(readTree(t, source), readTree(t, text)) || !impl.SameWords(was, is) || !slices.Equal(impl.NotesIn(was), impl.NotesIn(is)) {
		t.Fatalf("%q is written as another source:\n%s", source, text)
	}
}

// staysIs holds the second half: what is written anew is the same text, with the same State.
func staysIs(t *testing.T, source string, width int, budget int) {
	t.Helper()
	text, state, _ := impl.Format(source, width, budget)
	formatIs(t, text, width, budget, text, state, 0)
	if !impl.Stays(source, width, budget) || !impl.Stays(text, width, budget) {
		t.Fatalf("Stays(%q, %d, %d) is false", source, width, budget)
	}
}

// isFormatted holds a call against the chapter's words, and where it is well, promise 15; it tells the code.
func isFormatted(t *testing.T, source string, width int, budget int) int {
	t.Helper()
	text, state, code := formatByWord(source, width, budget)
	formatIs(t, source, width, budget, text, state, code)
	if code != 0 {
		doesNotStay(t, source, width, budget)
		return code
	}
	isSameSource(t, source, text)
	staysIs(t, source, width, budget)
	return 0
}

func doesNotStay(t *testing.T, source string, width int, budget int) {
	t.Helper()
	if impl.Stays(source, width, budget) {
		t.Fatalf("Stays(%q, %d, %d) is true", source, width, budget)
	}
}

// formatsAs holds by hand what is the cheapest.
func formatsAs(t *testing.T, source string, width int, want string) {
	t.Helper()
	isFormatted(t, source, width, enough)
	formatIs(t, source, width, enough, want, impl.StBest, 0)
}

// isNoSource is for a fault at a place, which is the same with all bounds that are right.
func isNoSource(t *testing.T, source string, at int) {
	t.Helper()
	for _, width := range []int{leastWidth, 40, widest} {
		for _, budget := range []int{0, 100, mostBudget} {
			formatIs(t, source, width, budget, "", at, impl.FmSource)
			doesNotStay(t, source, width, budget)
		}
	}
}

// isNoSourceAt has `@`, which is no sign, ahead of where the fault is.
func isNoSourceAt(t *testing.T, sources ...string) {
	t.Helper()
	for _, source := range sources {
		ahead, behind, ok := strings.Cut(source, "@")
		if !ok || strings.Contains(behind, "@") {
			t.Fatalf("%q has not one fault", source)
		}
		isNoSource(t, ahead+behind, len(ahead))
	}
}

func isOutOfBounds(t *testing.T, source string, width int, budget int) {
	t.Helper()
	formatIs(t, source, width, budget, "", 0, impl.FmBounds)
	doesNotStay(t, source, width, budget)
}

func isTooLong(t *testing.T, source string, width int, budget int) {
	t.Helper()
	formatIs(t, source, width, budget, "", 0, impl.FmLong)
	doesNotStay(t, source, width, budget)
}

func TestNumbersOfTheFormat(t *testing.T) {
	if impl.MinWidth != leastWidth || impl.MaxWidth != widest || impl.FmSource != 1 || impl.FmBounds != 2 || impl.FmLong != 3 {
		t.Error("a number is not the document's")
	}
}

func TestFormatASourceOfTheDocument(t *testing.T) {
	source := "var a = 1; main(b) { if (b) { f(b, b); } return; }"
	formatsAs(t, source, 40, `var a = 1;
main(b) {
  if (b) {
    f(b, b);
  }
  return;
}
`)
	formatsAs(t, source, 11, `var a = 1;
main(b) {
  if (b) {
    f(
        b,
        b
    );
  }
  return;
}
`)
}

// pointSource has members, statements and values of every kind, with notes, empty lines and needless blanks.
const pointSource = `

// the first note


class   Point{var x;var y=0;

move(dx,dy,){x=x+dx;
// inside
y = y
+dy ;return[x,y,]

;}}
var origin=make(Point)..move(0,0)..show('at',) ;
main( args ){ var best=args.size<2?origin:pick((args),2);last=(a,b)=>a.x*2-b.y;while(best.x==0||best.y==0&&ready){step();
   
if(done){return best;}else{}

}}  // the last note   
`

func TestFormatWide(t *testing.T) {
	formatsAs(t, pointSource, 80, `// the first note

class Point {
  var x;
  var y = 0;

  move(dx, dy) {
    x = x + dx;
    // inside
    y = y + dy;
    return [x, y];
  }
}
var origin = make(Point)..move(0, 0)..show('at');
main(args) {
  var best = args.size < 2 ? origin : pick((args), 2);
  last = (a, b) => a.x * 2 - b.y;
  while (best.x == 0 || best.y == 0 && ready) {
    step();

    if (done) {
      return best;
    } else {
    }
  }
}
// the last note
`)
}

func TestFormatNarrow(t *testing.T) {
	formatsAs(t, pointSource, 30, `// the first note

class Point {
  var x;
  var y = 0;

  move(dx, dy) {
    x = x + dx;
    // inside
    y = y + dy;
    return [x, y];
  }
}
var origin = make(
    Point
)..move(0, 0)..show('at');
main(args) {
  var best = args.size < 2
      ? origin
      : pick((args), 2);
  last = (a, b) => a.x * 2 -
          b.y;
  while (best.x == 0 ||
      best.y == 0 && ready) {
    step();

    if (done) {
      return best;
    } else {
    }
  }
}
// the last note
`)
}

// TestFormatEachKind has a line, and where it is too long by one byte, the lines that it is split into.
func TestFormatEachKind(t *testing.T) {
	for _, c := range []struct{ line, less string }{
		{"var total=sum(first,second);", "var total = sum(first, second);|var total = sum(\n    first, second\n);"},
		{"var total=[first,second];", "var total = [first, second];|var total = [\n    first, second\n];"},
		{"var total=first+second;", "var total = first + second;|var total = first +\n    second;"},
		{"var total=first;", "var total = first;|var total =\n    first;"},
		{"var total='a text';", "var total = 'a text';|var total =\n    'a text';"},
		{"var total=123456789012;", "var total = 123456789012;|var total =\n    123456789012;"},
		{"var total=first?second:third;", "var total = first ? second : third;|var total = first\n    ? second\n    : third;"},
		{"var total=(first)=>second;", "var total = (first) => second;|var total = (first) =>\n    second;"},
		{"var total=first..second();", "var total = first..second();|var total = first\n    ..second();"},
		{"var total=(first.second);", "var total = (first.second);|var total =\n    (first.second);"},
		{"var total;", "var total;|var total;"},
		{"//a note\n", "//a note|//a note"},
		{"class Second{}", "class Second {\n}|class Second {\n}"},
		{"first(second,third){}", "first(second, third) {\n}|first(second, third) {\n}"},
	} {
		wide, less, _ := strings.Cut(c.less, "|")
		width, _, _ := strings.Cut(wide, "\n")
		for _, more := range []int{0, 1, 50} {
			formatsAs(t, c.line, max(leastWidth, len(width)+more), wide+"\n")
		}
		formatsAs(t, c.line, max(leastWidth, len(width)-1), less+"\n")
	}
	for _, c := range []struct{ step, less string }{
		{"total=first;", "total = first;|total =\n    first;"},
		{"tell(first,second);", "tell(first, second);|tell(\n    first, second\n);"},
		{"return first*second;", "return first * second;|return first *\n    second;"},
		{"return;", "return;|return;"},
		{"if(first<second){}", "if (first < second) {\n}|if (first <\n    second) {\n}"},
		{"while(first==second){}", "while (first == second) {\n}|while (first ==\n    second) {\n}"},
	} {
		wide, less, _ := strings.Cut(c.less, "|")
		width, _, _ := strings.Cut(wide, "\n")
		formatsAs(t, "m(){"+c.step+"}", max(leastWidth, 2+len(width)), "m() {\n"+lined(wide, 2)+"\n}\n")
		formatsAs(t, "m(){"+c.step+"}", max(leastWidth, 1+len(width)), "m() {\n"+lined(less, 2)+"\n}\n")
	}
}

func TestFormatAtEachWidth(t *testing.T) {
	seen := map[string]bool{}
	for width := leastWidth; width <= widest; width++ {
		for _, budget := range []int{enough, 7} {
			if code := isFormatted(t, pointSource, width, budget); code != 0 {
				t.Fatalf("with the width %d the code is %d", width, code)
			}
		}
		text, _, _ := impl.Format(pointSource, width, enough)
		seen[text] = true
		// The cheapest has no line that is too long where none need be.
		if width >= 40 && impl.WidestOf(text) > width {
			t.Errorf("with the width %d there is written\n%s", width, text)
		}
	}
	if len(seen) < 10 {
		t.Errorf("it is written in only %d ways", len(seen))
	}
}

func TestFormatNothing(t *testing.T) {
	for _, source := range []string{"", " ", "\n", "\n\n", "  \n \n\n   ", strings.Repeat("\n ", 1500)} {
		for _, width := range []int{leastWidth, 80, widest} {
			for _, budget := range []int{0, 1, mostBudget} {
				isFormatted(t, source, width, budget)
				formatIs(t, source, width, budget, "", impl.StBest, 0)
				if !impl.Stays(source, width, budget) {
					t.Errorf("Stays(%q, %d, %d) is false", source, width, budget)
				}
			}
		}
	}
}

func TestFormatNotesAlone(t *testing.T) {
	for _, c := range []struct{ source, want string }{
		{"//", "//\n"}, {"// ", "//\n"}, {"  //\n", "//\n"}, {"//a", "//a\n"}, {"// a  b  \n", "// a  b\n"}, {"//// 'a", "//// 'a\n"}, {"// class C { $ }", "// class C { $ }\n"},
		{"\n\n// a\n// b", "// a\n// b\n"}, {"// a\n\n// b\n", "// a\n\n// b\n"}, {"// a\n \n\n  \n// b\n\n\n", "// a\n\n// b\n"}, {"//\n//\n\n//", "//\n//\n\n//\n"},
		{"// a note that is longer than the width", "// a note that is longer than the width\n"},
	} {
		for _, width := range []int{leastWidth, 80} {
			formatsAs(t, c.source, width, c.want)
			// There is nothing to be tried.
			isFormatted(t, c.source, width, 0)
			formatIs(t, c.source, width, 0, c.want, impl.StBest, 0)
		}
	}
}

func TestFormatNotesAndEmptyLines(t *testing.T) {
	formatsAs(t, "//a\nvar b;//c\nclass D{//e\n\n//f\nm(){//g\nreturn;//h\n\n}//i\n}//j", 80, "//a\nvar b;\n//c\nclass D {\n  //e\n\n  //f\n  m() {\n    //g\n    return;\n    //h\n  }\n  //i\n}\n//j\n")
	formatsAs(t, "\n\nvar a;\n\n\n\nvar b;\nm() {\n\n  a;\n\n  b;\n\n}\n \n//c\n\n", 80, "var a;\n\nvar b;\nm() {\n  a;\n\n  b;\n}\n\n//c\n")
	formatsAs(t, "class C {\n\nvar a;\n\nm() {\n\n}\n\n}\n\nif_it() { if (a) {\n\nb;\n\n} else {\n\nc;\n\n\nd;\n\n} }", 80, "class C {\n  var a;\n\n  m() {\n  }\n}\n\nif_it() {\n  if (a) {\n    b;\n  } else {\n    c;\n\n    d;\n  }\n}\n")
	// An empty line within a statement is none ahead of it, nor ahead of the next one.
	formatsAs(t, "var a;\nvar\n\nb\n\n=\n\nf(\n\nc\n\n)\n\n;\nm\n\n(\n\n)\n\n{ }", 80, "var a;\nvar b = f(c);\nm() {\n}\n")
}

// manySources has sources of all kinds of members, statements and values, which are right.
func manySources() []string {
	sources := []string{pointSource, "class C{}", "m(){}", "m(a){}", "m(a,b,){//n\n}", "var v;", "class C{var a;var b=c;//n\nm(){}}", "m(){if(a){}else{}while(b){}return;return c;var d;var e=f;g=h;i;//n\n}"}
	for _, value := range []string{
		"a", "007", "''", "'a // b'", "[]", "[a]", "[a,b,c,]", "[[],[a,[b]]]", "f()", "f(a,)", "f(a)(b)()", "a.b", "a.b(c).d", "a||b||c", "a&&b||c&&d", "a==b<c", "a+b-c+d", "a*b-c*d", "a?b:c", "a?b?c:d:e?f:g", "()=>a", "(a,)=>b", "(a,b)=>(c)=>d", "a..f()", "a.b..f(c)..g(d,e)", "(a)", "((a+b)*c)",
		"f((a,b)=>a+b,[c,d..e()],g?h:(i==j))..k('l')", "first(second(third(fourth(fifth(sixth)))))",
	} {
		sources = append(sources, "var v="+value+";", "m(){var v="+value+";v="+value+";"+value+";return "+value+";if("+value+"){while("+value+"){}}}")
	}
	return sources
}

func TestFormatManySources(t *testing.T) {
	for _, source := range manySources() {
		for _, width := range []int{leastWidth, 15, 20, 40, 80, widest} {
			for _, budget := range []int{0, 1, 10, enough} {
				if code := isFormatted(t, source, width, budget); code == impl.FmSource || code == impl.FmBounds {
					t.Fatalf("%q with the width %d has the code %d", source, width, code)
				}
			}
		}
	}
}

// TestFormatNeedlessBlanks puts the same signs apart in other ways: what is written is the same.
func TestFormatNeedlessBlanks(t *testing.T) {
	for _, source := range manySources() {
		texts := textsIn(source)
		want, state, code := impl.Format(spaced(texts), 40, enough)
		for _, gap := range []string{"\n", "  ", " \n", "\n   "} {
			var other strings.Builder
			for _, text := range texts {
				other.WriteString(text + gap)
				if strings.HasPrefix(text, "//") && !strings.Contains(gap, "\n") {
					other.WriteString("\n")
				}
			}
			formatIs(t, other.String(), 40, enough, want, state, code)
		}
	}
}

func TestFormatLeavesOutCommasAtEnds(t *testing.T) {
	for _, c := range []struct{ with, without string }{
		{"var v = [a,];", "var v = [a];\n"}, {"var v = [a, b, c,];", "var v = [a, b, c];\n"}, {"var v = f(a,);", "var v = f(a);\n"}, {"var v = f(a, [b,], c,);", "var v = f(a, [b], c);\n"},
		{"m(a,) {}", "m(a) {\n}\n"}, {"m(a, b,) {}", "m(a, b) {\n}\n"}, {"var v = (a,) => b;", "var v = (a) => b;\n"}, {"var v = (a, b,) => [c,];", "var v = (a, b) => [c];\n"}, {"var v = a..f(b,)..g(c, d,);", "var v = a..f(b)..g(c, d);\n"},
		{"m() { f(a, b,)(c,).d(e,); }", "m() {\n  f(a, b)(c).d(e);\n}\n"},
	} {
		formatsAs(t, c.with, 80, c.without)
		formatsAs(t, c.without, 80, c.without)
	}
	// Also where the values stand below one another there is none behind the last one.
	formatsAs(t, "var v = [first, second,];", 12, "var v = [\n    first,\n    second\n];\n")
	isNoSourceAt(t, "var v = [@,];", "var v = [a,@,];", "var v = f(@,);", "m(@,) {}", "m(a,@,) {}", "var v = (a@,);", "var v = (@,) => a;")
}

func TestFormatPlacesOfFaults(t *testing.T) {
	// At the first sign.
	isNoSourceAt(t, "@;", "@1", "@'a'", "@}", "@{}", "@if (a) {}", "@return;", "@else {}", "@(a);", "@$", "@'", "@\xff", "@\x00", "@\t", "@\r\n", " \n @; var a;", "\n\n@)", "@abcdefghijabcdefghijabcdefghij1", "@1234567890123", "@//\x7f", "@!")
	// In the middle.
	isNoSourceAt(t, "var a = @; var b;", "var a @b;", "var @1;", "m() { a @b; }", "m() { return @); }", "m() { if @a {} }", "m() { if (a) @b; }", "class C { @class D {} }", "class C { @return; }", "var a = 1; a @= 2; var b;", "m() { var a; } @else { } n() { }", "var a = [b @c];", "var a = f(b, @, c);",
		"var a = b ? c @; d;", "var a = b..c @; var d;", "var a; @$ var b;", "var a = @'b; var c;", "var a = @'b\n", "m(a @// n\n) {}", "var a = b @// n\n;", "var a; // n\n@; // o\n", "var a = @abcdefghijabcdefghijabcdefghij1;", "m() { @1234567890123; }")
	// At the very end, behind which nothing stands.
	isNoSourceAt(t, "var@", "var a@", "var a =@", "var a = 1@", "m@", "m(@", "m(a@", "m(a,@", "m()@", "m() {@", "m() { a@", "m() { if (a) {}@", "class@", "class C@", "class C {@", "class C { var a;@", "var a = [@", "var a = b ?@", "var a = b..@", "var a = (b) =>@", "var a = b.@", "m() { // n@", "var  \n @", "var a = b;\nvar\n\n@", "m() { if (a) { } else@")
	// The length is a place also where the source is as long as one may be.
	isNoSource(t, "var"+blanks(impl.MaxSource-3), impl.MaxSource)
	isNoSource(t, blanks(impl.MaxSource-1)+";", impl.MaxSource-1)
	isNoSource(t, ";"+blanks(impl.MaxSource-1), 0)
	// A byte in no sign counts ahead of all that is wrong with the signs.
	isNoSourceAt(t, "; @$", "var var @'", "var a = ; b @&", ") ) ) // n\n@\xff")
}

// TestFormatEachBeginning cuts sources at each byte: of most beginnings the end is the fault.
func TestFormatEachBeginning(t *testing.T) {
	ends := 0
	for _, source := range []string{"class C { var a = 1; // n\n m(b, c,) { return; } }", "m() { if (a) { return b; } else { } while (c) { } }", "var v = (a, b,) => c ? d : e.f(g)..h('i');"} {
		for size := range len(source) {
			begun := source[:size]
			if at, wrong := faultByWord(begun); wrong {
				isNoSource(t, begun, at)
				if at == size {
					ends++
				}
			} else if code := isFormatted(t, begun, 40, enough); code != 0 {
				t.Errorf("%q has the code %d", begun, code)
			}
		}
	}
	if ends < 100 {
		t.Errorf("only %d beginnings are wrong at their end", ends)
	}
}

// faultByWord tells the place of a fault by the forms of signs and the grammar; it is for sources that are within all limits.
func faultByWord(source string) (int, bool) {
	list, at, ok := signsByForms(source)
	if !ok {
		return at, true
	}
	fault := faultByGrammar(wordsOf(list))
	switch {
	case fault < 0:
		return 0, false
	case fault < len(list):
		return list[fault].At, true
	}
	return len(source), true
}

func TestFormatWhichCodeComesFirst(t *testing.T) {
	long := growing(t, mostWritten+1)
	isTooLong(t, long, 80, enough)
	whole, none, big := "var a;", "var a = ;", blanks(impl.MaxSource)+" "
	for _, source := range []string{whole, none, big, long, long + "\n}", "", "\xff", ";" + big} {
		for _, c := range []struct{ width, budget int }{{9, enough}, {201, enough}, {80, -1}, {80, mostBudget + 1}, {9, -1}, {201, mostBudget + 1}, {math.MinInt, math.MaxInt}} {
			isOutOfBounds(t, source, c.width, c.budget)
		}
	}
	// A source that is none is told ahead of what would be too long, if it were one.
	isNoSource(t, long+"\n}", len(long)+1)
	isNoSource(t, "; "+long, 0)
	isNoSource(t, long+"\n$", len(long)+1)
	isNoSource(t, long+"\nvar", len(long)+4)
	// One with too many bytes is none.
	isNoSource(t, big, impl.MaxSource)
	isNoSource(t, long+blanks(impl.MaxSource+1-len(long)), impl.MaxSource)
	isNoSource(t, ";"+big, impl.MaxSource)
	isNoSource(t, strings.Repeat("\xff", impl.MaxSource+1), impl.MaxSource)
	isNoSource(t, strings.Repeat(long, 5), impl.MaxSource)
}

// TestFormatStates has searches that pop so many states: a call of two values four, a name alone one.
func TestFormatStates(t *testing.T) {
	one, split := "m() {\n  f(a, b);\n}\n", "m() {\n  f(\n      a,\n      b\n  );\n}\n"
	for _, c := range []struct {
		budget, state int
		want          string
	}{
		{0, impl.StSoFar, split}, {1, impl.StSoFar, split}, {2, impl.StSoFar, one}, {3, impl.StSoFar, one}, {4, impl.StBest, one}, {5, impl.StBest, one}, {enough, impl.StBest, one}, {mostBudget, impl.StBest, one},
	} {
		isFormatted(t, "m(){f(a,b);}", 80, c.budget)
		formatIs(t, "m(){f(a,b);}", 80, c.budget, c.want, c.state, 0)
		// What was split has the same signs, and comes together where there is room to try.
		formatIs(t, split, 80, c.budget, c.want, c.state, 0)
		if !impl.Stays("m(){f(a,b);}", 80, c.budget) {
			t.Errorf("with the budget %d it does not stay", c.budget)
		}
	}
	for budget, state := range []int{impl.StSoFar, impl.StBest, impl.StBest} {
		formatIs(t, "m(){a;}", 80, budget, "m() {\n  a;\n}\n", state, 0)
	}
	// One piece without room is enough, wherever it stands.
	for _, source := range []string{"m() { f(a, b); a; }", "m() { a; f(a, b); }", "var v = a; class C { m() { if (f(a, b)) { return a; } } } // n\n", "m() { while (a) { return f(a, b); } }"} {
		for budget := range 7 {
			isFormatted(t, source, 80, budget)
			_, state, code := impl.Format(source, 80, budget)
			if (state == impl.StSoFar) != (budget < 4) || code != 0 {
				t.Errorf("Format(%q, 80, %d) has the State %d and the code %d", source, budget, state, code)
			}
		}
	}
	// Where there is no piece, no room is needed.
	formatIs(t, "class C{var a;m(b){return;}}//n", leastWidth, 0, "class C {\n  var a;\n  m(b) {\n    return;\n  }\n}\n//n\n", impl.StBest, 0)
}

func TestFormatBoundsOfTheWidth(t *testing.T) {
	for _, source := range []string{"", "var a;", "m(){f(a,b);}", pointSource} {
		for _, budget := range []int{0, 1, 100, mostBudget} {
			for _, width := range []int{leastWidth, leastWidth + 1, 80, widest - 1, widest} {
				if code := isFormatted(t, source, width, budget); code != 0 {
					t.Errorf("Format(%q, %d, %d) has the code %d", source, width, budget, code)
				}
			}
			for _, width := range []int{leastWidth - 1, widest + 1, 0, 1, -1, -80, 100000, math.MinInt, math.MinInt + 1, math.MaxInt, math.MaxInt - 1, math.MaxInt32, math.MinInt32, 1 << 32, 1<<32 + 80} {
				isOutOfBounds(t, source, width, budget)
			}
		}
	}
}

func TestFormatBoundsOfTheBudget(t *testing.T) {
	for _, source := range []string{"", "var a;", "m(){f(a,b);}", pointSource} {
		for _, width := range []int{leastWidth, 80, widest} {
			for _, budget := range []int{0, 1, 2, enough, mostBudget - 1, mostBudget} {
				if code := isFormatted(t, source, width, budget); code != 0 {
					t.Errorf("Format(%q, %d, %d) has the code %d", source, width, budget, code)
				}
			}
			for _, budget := range []int{-1, -2, mostBudget + 1, mostBudget + 2, -mostBudget, math.MinInt, math.MinInt + 1, math.MaxInt, math.MaxInt - 1, math.MinInt32, 1 << 32, 1<<32 + 100} {
				isOutOfBounds(t, source, width, budget)
			}
		}
	}
	// With the least width a line may have ten bytes, with the greatest 200.
	formatsAs(t, "var a=bcd;", leastWidth, "var a =\n    bcd;\n")
	formatsAs(t, "var a=b;", leastWidth, "var a = b;\n")
	text := "'" + strings.Repeat("x", widest-len("var a = '';")) + "'"
	formatsAs(t, "var a="+text+";", widest, "var a = "+text+";\n")
	formatsAs(t, "var ab="+text+";", widest, "var ab =\n    "+text+";\n")
}

// TestFormatTheLongestSources has sources of MaxSource bytes: what is written has a line end at its end, and may so be longer.
func TestFormatTheLongestSources(t *testing.T) {
	for _, c := range []struct{ begin, fill, end, want string }{
		{"", " ", "", ""}, {"", "\n", "", ""}, {"var a;", " ", "", "var a;\n"}, {"var a;", "\n", "var b;", "var a;\n\nvar b;\n"}, {"m(", " ", ") { }", "m() {\n}\n"}, {"// n", " ", "", "// n\n"},
	} {
		source := c.begin + strings.Repeat(c.fill, impl.MaxSource-len(c.begin)-len(c.end)) + c.end
		formatsAs(t, source, 80, c.want)
		isNoSource(t, source+" ", impl.MaxSource)
		isNoSource(t, source+"\n", impl.MaxSource)
		isNoSource(t, " "+source, impl.MaxSource)
		isNoSource(t, "\n"+source+"//", impl.MaxSource)
	}
	note := "//" + strings.Repeat("x", impl.MaxSource-3)
	formatsAs(t, note, 80, note+"\n")
	formatsAs(t, note+"\n", 80, note+"\n")
	isTooLong(t, note+"x", 80, enough)
	isNoSource(t, note+"x\n", impl.MaxSource)
	text := "'" + strings.Repeat("x", impl.MaxSource-len("var a =\n    '';\n")) + "'"
	formatsAs(t, "var a="+text+";", 80, "var a =\n    "+text+";\n")
	isTooLong(t, "var a='x"+text[1:]+";", 80, enough)
}

// growing tells a short source that is written in just so many bytes: its statements are far in.
func growing(t *testing.T, size int) string {
	t.Helper()
	source := strings.Repeat("class C{m(){"+inOneAnother("if(a){", strings.Repeat("return;", 12), "}", 4)+"}}", 8)
	return filledUp(t, source, 80, enough, size)
}

// filledUp puts a note behind a source, so that it is written in just so many bytes.
func filledUp(t *testing.T, source string, width int, budget int, size int) string {
	t.Helper()
	text, _, code := impl.Format(source, width, budget)
	left := size - len(text) - len("//\n")
	if code != 0 || left < 0 {
		t.Fatalf("%q is written in %d bytes, with the code %d", source, len(text), code)
	}
	return source + "//" + strings.Repeat("n", left)
}

// getsTooLong holds a source that can just be filled up to the limit, and by one byte more.
func getsTooLong(t *testing.T, source string, width int, budget int) {
	t.Helper()
	for _, size := range []int{mostWritten - 1, mostWritten} {
		full := filledUp(t, source, width, budget, size)
		if code := isFormatted(t, full, width, budget); code != 0 {
			t.Fatalf("%q has the code %d", full, code)
		}
		text, _, _ := impl.Format(full, width, budget)
		if len(text) != size || len(full) >= size {
			t.Fatalf("a source of %d bytes is written in %d", len(full), len(text))
		}
		// It stays, as long as it is; with a byte more there it is no source.
		staysIs(t, text, width, budget)
		isNoSource(t, text+strings.Repeat("\n", impl.MaxSource+1-size), impl.MaxSource)
	}
	for _, more := range []int{1, 2, 100} {
		full := filledUp(t, source, width, budget, mostWritten+more)
		readTree(t, full)
		isFormatted(t, full, width, budget)
		isTooLong(t, full, width, budget)
	}
}

func TestFormatSourcesThatGetTooLong(t *testing.T) {
	// By how far in they are.
	getsTooLong(t, strings.Repeat("class C{m(){"+inOneAnother("if(a){", strings.Repeat("return;", 12), "}", 4)+"}}", 8), 80, enough)
	// By being split: with more room in a line, or to try, they are short enough.
	lists := "m(){" + strings.Repeat("f(["+strings.Repeat("a,", 12)+"],b);", 9) + "}"
	getsTooLong(t, lists, leastWidth, enough)
	getsTooLong(t, lists, 40, 0)
	full := filledUp(t, lists, leastWidth, enough, mostWritten+1)
	isTooLong(t, full, leastWidth, enough)
	for _, width := range []int{40, widest} {
		if code := isFormatted(t, full, width, enough); code != 0 {
			t.Errorf("with the width %d the code is %d", width, code)
		}
	}
	full = filledUp(t, lists, 40, 0, mostWritten+1)
	isTooLong(t, full, 40, 0)
	if code := isFormatted(t, full, 40, enough); code != 0 {
		t.Errorf("with room to try the code is %d", code)
	}
	// By an empty line alone.
	head, tail := "//"+strings.Repeat("n", impl.MaxSource-len("//\n\nvar a;\n"))+"\n", "var a;"
	formatsAs(t, head+"\n"+tail, 80, head+"\n"+tail+"\n")
	isTooLong(t, "//n"+head[2:]+"\n"+tail, 80, enough)
	formatsAs(t, "//n"+head[2:]+tail, 80, "//n"+head[2:]+tail+"\n")
}

// TestFormatTheMost has as many nodes, and as deep ones, as a tree may have.
func TestFormatTheMost(t *testing.T) {
	for _, size := range []int{1, 2, 28, 299, impl.MaxNodes} {
		if code := isFormatted(t, wideSource(size), 40, enough); code != 0 {
			t.Errorf("a source of %d nodes has the code %d", size, code)
		}
	}
	isNoSource(t, wideSource(impl.MaxNodes+1), len(wideSource(impl.MaxNodes+1)))
	isNoSourceAt(t, strings.Repeat("var a = b; ", 150)+"var c; @var d;")
	for pars := 9; pars < 24; pars++ {
		source := "var v = " + inOneAnother("(", "a", ")", pars) + ";"
		switch {
		case pars <= 11:
			formatsAs(t, source, 80, source+"\n")
		case pars < 20:
			isNoSource(t, source, 0)
		default:
			isNoSource(t, source, len("var v = ")+20)
		}
	}
	for count := 10; count < 15; count++ {
		source := "m() {\n" + strings.Repeat("  return;\n", count) + "}\n"
		if count <= mostKids {
			formatsAs(t, source, 80, source)
		} else {
			isNoSource(t, source, 0)
		}
	}
}

// TestFormatTheHardest has pieces with all rules that they may have, which take the most tries.
func TestFormatTheHardest(t *testing.T) {
	value := "[a,[b,[c,[d,[e,[f,[g,h]]]]]]]"
	source := "m(){" + strings.Repeat("v="+value+";", 12) + "}"
	for _, width := range []int{leastWidth, 40, widest} {
		for _, budget := range []int{0, enough - 1, mostBudget} {
			isFormatted(t, source, width, budget)
		}
	}
}

func TestFormatWrongSources(t *testing.T) {
	for b := range 256 {
		one := string([]byte{byte(b)})
		if one == " " || one == "\n" {
			formatsAs(t, one, 80, "")
			continue
		}
		at, wrong := faultByWord(one)
		if !wrong {
			t.Fatalf("%q is no source", one)
		}
		isNoSource(t, one, at)
		if b < 32 || b > 126 {
			isNoSource(t, "var a;"+one, 6)
			isNoSource(t, "//"+one, 0)
			isNoSource(t, "var a = '"+one+"';", 8)
		}
	}
	isNoSourceAt(t, "@'", "@'abc", "var a = @'b;\n", "var a = @'b\n';", "@// \t", "@// n\r\n", "var a; @// \x80", "@/ / n", "@#", "var a = b @% c;", "var a = b @/ c;", "var a = b @> c;", "var a = b @! c;", "var a = b @& c;", "var a = b @| c;", "@\xef\xbb\xbfvar a;", "// n\n@\x00", "var a = @'\u00e9';")
}

func TestFormatAnySource(t *testing.T) {
	codes, soFar, changed := map[int]int{}, 0, 0
	for seed := range int64(400) {
		source := anySource(seed).out.String()
		for i, width := range []int{10, 25, 40, 80, 200} {
			budget := []int{enough, 0, 1, 20, mostBudget}[(int(seed)+i)%5]
			code := isFormatted(t, source, width, budget)
			text, state, _ := impl.Format(source, width, budget)
			codes[code]++
			if code == 0 && state == impl.StSoFar {
				soFar++
			}
			if code == 0 && text != source {
				changed++
			}
		}
	}
	if codes[impl.FmSource] != 0 || codes[impl.FmBounds] != 0 || codes[0] < 1800 || soFar < 200 || changed < 1000 {
		t.Errorf("the codes are %v, %d are told so far, %d are changed", codes, soFar, changed)
	}
}

// TestFormatAnySourceAtTheLimit puts a note behind sources by chance, so that what is written has about MaxSource bytes.
func TestFormatAnySourceAtTheLimit(t *testing.T) {
	codes, just := map[int]int{}, 0
	for seed := range int64(400) {
		source, width, budget := spaced(textsIn(anySource(seed).out.String())), []int{10, 20, 40}[seed%3], []int{0, 30, enough}[seed/3%3]
		text, _, _ := impl.Format(source, width, budget)
		size := mostWritten - 4 + int(seed)%8
		full := source + "//" + strings.Repeat("n", size-len(text)-len("//\n"))
		code := isFormatted(t, full, width, budget)
		codes[code]++
		// One that has too many bytes with the note, or a member too many, is no source.
		if code != impl.FmSource && (code == 0) != (size <= mostWritten) {
			t.Errorf("what is written of %q has %d bytes, and the code is %d", full, size, code)
		}
		if code == 0 && size == mostWritten {
			just++
		}
	}
	if codes[0] < 50 || codes[impl.FmLong] < 50 || just < 10 {
		t.Errorf("the codes are %v, and %d are just within the limit", codes, just)
	}
}

// turnedByte leaves out, puts in or turns a byte of a source.
func turnedByte(chance *rand.Rand, source string) string {
	bytes := "aZ_09'/.=&|?:,;(){}[]<+-* \n\t\x00\xff$"
	at, b := chance.Intn(len(source)+1), bytes[chance.Intn(len(bytes))]
	if at == len(source) {
		return source + string([]byte{b})
	}
	switch chance.Intn(3) {
	case 0:
		return source[:at] + source[at+1:]
	case 1:
		return source[:at] + string([]byte{b}) + source[at:]
	}
	return source[:at] + string([]byte{b}) + source[at+1:]
}

func TestFormatTurnedSources(t *testing.T) {
	codes := map[int]int{}
	for seed := range int64(3000) {
		chance := rand.New(rand.NewSource(seed))
		source := turnedByte(chance, anySource(seed%200).out.String())
		for range chance.Intn(3) {
			source = turnedByte(chance, source)
		}
		codes[isFormatted(t, source, leastWidth+chance.Intn(60), chance.Intn(40))]++
	}
	if codes[0] < 300 || codes[impl.FmSource] < 1000 || codes[impl.FmBounds] != 0 {
		t.Errorf("the codes are %v", codes)
	}
}

// TestFormatEachByteTurned holds the places of faults against the grammar.
func TestFormatEachByteTurned(t *testing.T) {
	for _, source := range []string{"class C { var a = 1; // n\n m(b) { return; } }", "m() { if (a) { b = c; } else { } }", "var v = (a, b) => c ? [d,] : e..f('g');"} {
		hold := func(turned string) {
			t.Helper()
			at, wrong := faultByWord(turned)
			text, state, code := impl.Format(turned, 40, 100)
			if wrong && (text != "" || state != at || code != impl.FmSource || impl.Stays(turned, 40, 100)) {
				t.Fatalf("Format(%q, 40, 100) is %q, %d, %d; want a fault at %d", turned, text, state, code, at)
			}
			if !wrong {
				isFormatted(t, turned, 40, 100)
			}
		}
		for at := range source {
			hold(source[:at] + source[at+1:])
			for _, b := range []string{"a", "7", "'", "/", ";", "}", "(", ",", " ", "\n", "\t"} {
				hold(source[:at] + b + source[at:])
				hold(source[:at] + b + source[at+1:])
			}
		}
	}
}

func TestFormatSmallTexts(t *testing.T) {
	eachSignText(func(text string) {
		nodes, at, ok := impl.ReadSource(text)
		if !ok {
			formatIs(t, text, 20, 10, "", at, impl.FmSource)
		} else {
			formatIs(t, text, 20, 10, impl.JoinLines(impl.WriteFile(nodes, 20, 10).Lines), impl.WriteFile(nodes, 20, 10).State, 0)
		}
		if impl.Stays(text, 20, 10) != ok {
			t.Fatalf("Stays(%q, 20, 10) is %v", text, !ok)
		}
	})
}

func TestFormatAnyBytes(t *testing.T) {
	for seed := range int64(2000) {
		chance := rand.New(rand.NewSource(seed))
		list := make([]byte, chance.Intn(80))
		for i := range list {
			list[i] = byte(chance.Intn([]int{128, 256}[seed%2]))
		}
		isFormatted(t, string(list), chance.Intn(220)-5, chance.Intn(200)-5)
	}
}

func TestFormatIsNewMemory(t *testing.T) {
	text, _, _ := impl.Format(pointSource, 80, enough)
	note := "// the only line\n"
	for _, source := range []string{text, note, strings.TrimSuffix(note, "\n"), "var a_long_name;\n"} {
		again, _, _ := impl.Format(source, 80, enough)
		if again == "" || sharesMemory(again, source) {
			t.Errorf("%q is written into the memory of the source", again)
		}
	}
}

func TestFormatKeepsNothing(t *testing.T) {
	asks := []func() string{}
	for _, source := range []string{"", pointSource, "var a = ;", "$", "m(){f(a,b);}", growing(t, mostWritten+1), blanks(impl.MaxSource + 1)} {
		for _, width := range []int{9, 10, 80} {
			for _, budget := range []int{-1, 0, enough} {
				asks = append(asks, func() string {
					text, state, code := impl.Format(source, width, budget)
					return fmt.Sprint(text, state, code, impl.Stays(source, width, budget))
				})
			}
		}
	}
	keepNothing(t, asks)
}
