package tests

import (
	"fmt"
	"math"
	"math/rand"
	"slices"
	"strings"
	"testing"

	"loop.example/g00459/impl"
)

// rangesByWord cuts a source that is read where its members end: a note by itself, else at a `;` or a `}` that is in no other brackets.
func rangesByWord(source string) []impl.Range {
	ranges := []impl.Range{}
	if _, _, ok := impl.ReadSource(source); !ok {
		return ranges
	}
	list, _, _ := signsByForms(source)
	from, deep := -1, 0
	for _, sign := range list {
		if from < 0 {
			from = sign.At
		}
		switch sign.Text {
		case "{":
			deep++
		case "}":
			deep--
		}
		isEnd := sign.Text == ";" || sign.Text == "}" || strings.HasPrefix(sign.Text, "//")
		if deep == 0 && isEnd {
			ranges = append(ranges, impl.Range{From: from, To: sign.At + len(sign.Text)})
			from = -1
		}
	}
	return ranges
}

// partByWord has the member by itself, as no empty line stands ahead of the first one of a file.
func partByWord(source string, i int, width int, budget int) (string, int) {
	if !amongst(width, leastWidth, widest) || !amongst(budget, 0, mostBudget) {
		return "", impl.FmBounds
	}
	ranges := rangesByWord(source)
	if i < 0 || i >= len(ranges) {
		return source, impl.FmSource
	}
	ahead, member, behind := source[:ranges[i].From], source[ranges[i].From:ranges[i].To], source[ranges[i].To:]
	nodes, _, _ := impl.ReadSource(member)
	lines := fileWrittenByWord(nodes, width, budget).Lines
	text := ahead + strings.Join(lines, "\n") + behind
	if len(text) > mostWritten {
		return source, impl.FmLong
	}
	return text, 0
}

func membersAre(t *testing.T, source string, want ...impl.Range) {
	t.Helper()
	if got := impl.MembersOf(source); !slices.Equal(got, want) {
		t.Fatalf("MembersOf(%q) is %v; want %v", source, got, want)
	}
}

// membersStand has `@`, which is no sign, where each member begins, and where it ends; it tells the source.
func membersStand(t *testing.T, marked string) string {
	t.Helper()
	parts := strings.Split(marked, "@")
	want, at := []impl.Range{}, 0
	for k, part := range parts {
		if k%2 == 1 {
			want = append(want, impl.Range{From: at, To: at + len(part)})
		}
		at += len(part)
	}
	if len(parts)%2 == 0 {
		t.Fatalf("%q has a member without an end", marked)
	}
	source := strings.Join(parts, "")
	readTree(t, source)
	membersAre(t, source, want...)
	return source
}

func partIs(t *testing.T, source string, i int, width int, budget int, text string, code int) {
	t.Helper()
	gotText, gotCode := impl.FormatPart(source, i, width, budget)
	if gotText != text || gotCode != code {
		t.Fatalf("FormatPart(%q, %d, %d, %d) is\n%q, %d; want\n%q, %d", source, i, width, budget, gotText, gotCode, text, code)
	}
}

// memberNode tells the node of a member as it is by itself, without the empty line that stands ahead of it.
func memberNode(t *testing.T, source string, i int) ([]impl.Node, int) {
	t.Helper()
	nodes := readTree(t, source)
	k := nodes[len(nodes)-1].Kids[i]
	nodes[k].Blank = false
	return nodes, k
}

// leavesAllElse holds promise 20 for what is well: around WriteNode of the member all is as it was, it is the same source, and once more it stays.
func leavesAllElse(t *testing.T, source string, i int, width int, budget int) {
	t.Helper()
	text, _ := impl.FormatPart(source, i, width, budget)
	was, is := impl.MembersOf(source), impl.MembersOf(text)
	ahead, behind := source[:was[i].From], source[was[i].To:]
	nodes, k := memberNode(t, source, i)
	if text != ahead+strings.Join(impl.WriteNode(nodes, k, 0, width, budget).Lines, "\n")+behind {
		t.Fatalf("FormatPart(%q, %d, %d, %d) is %q, which is not the member between what was there", source, i, width, budget, text)
	}
	grown := len(text) - len(source)
	for k := range is {
		want := was[k]
		if k > i {
			want.From += grown
		}
		if k >= i {
			want.To += grown
		}
		if is[k] != want {
			t.Fatalf("of %q the member %d is at %v; want %v", text, k, is[k], want)
		}
	}
	if len(is) != len(was) || !impl.Kept(source, text) {
		t.Fatalf("FormatPart(%q, %d, %d, %d) is another source:\n%s", source, i, width, budget, text)
	}
	partIs(t, text, i, width, budget, text, 0)
}

// isPart holds a call against the chapter's words, and where it is well, promise 20; it tells the code.
func isPart(t *testing.T, source string, i int, width int, budget int) int {
	t.Helper()
	text, code := partByWord(source, i, width, budget)
	partIs(t, source, i, width, budget, text, code)
	if code == 0 {
		leavesAllElse(t, source, i, width, budget)
	}
	return code
}

// partsAs holds by hand what each member of a source becomes.
func partsAs(t *testing.T, marked string, width int, want ...string) {
	t.Helper()
	source := membersStand(t, marked)
	for i, member := range impl.MembersOf(source) {
		isPart(t, source, i, width, enough)
		partIs(t, source, i, width, enough, source[:member.From]+want[i]+source[member.To:], 0)
	}
	if got := len(impl.MembersOf(source)); got != len(want) {
		t.Fatalf("%q has %d members; want %d", source, got, len(want))
	}
}

// areNoMembers is for sources without a member, and for what is no source.
func areNoMembers(t *testing.T, sources ...string) {
	t.Helper()
	for _, source := range sources {
		membersAre(t, source)
		for _, i := range []int{math.MinInt, -1, 0, 1, math.MaxInt} {
			partIs(t, source, i, 40, 100, source, impl.FmSource)
			partIs(t, source, i, leastWidth-1, 100, "", impl.FmBounds)
			partIs(t, source, i, 40, -1, "", impl.FmBounds)
		}
	}
}

// mixedSource has members of all kinds, with all kinds of gaps.
const mixedSource = "@// first@  \n\n  @var a =  [1,2 , 3,] ;@@var b;@ @// of two@\n\n\n \n@class C{var c;// in\n\n\nm(x,y,){return x+y;}}@\n@main( ){if(a){b=f( a , b );}else{\n\n}}@\n\n \n"

func sourceOf(marked string) string {
	return strings.ReplaceAll(marked, "@", "")
}

func TestMembersOfTheDocument(t *testing.T) {
	membersAre(t, "var  a;  var  b;", impl.Range{From: 0, To: 7}, impl.Range{From: 9, To: 16})
	partIs(t, "var  a;  var  b;", 0, 40, 100, "var a;  var  b;", 0)
	partIs(t, "var  a;  var  b;", 1, 40, 100, "var  a;  var b;", 0)
	partIs(t, "var a;", 1, 40, 100, "var a;", impl.FmSource)
}

func TestMembersOfEachKind(t *testing.T) {
	for _, marked := range []string{
		"@var a;@", "  @var a;@  ", "\n@var a=1;@\n", "@var\na\n=\nb\n;@", "@m(){}@", " @m ( a , b ) { }@ ", "@m(){return;}@", "@m(){if(a){}else{}while(b){}}@", "@class C{}@", "\n\n@class C { }@\n\n", "@class C{var a;m(){n();}}@",
		"@//@", "@// n@", " @// n@", "@// n@\n", "\n\n@//n@\n\n", "@// n@   ", "@// n@  \n  ",
	} {
		source := membersStand(t, marked)
		isPart(t, source, 0, 40, enough)
		isPart(t, source, 0, leastWidth, enough)
	}
}

func TestMembersOnOneLine(t *testing.T) {
	partsAs(t, "@var  a;@@var  b;@@var  c;@", 40, "var a;", "var b;", "var c;")
	partsAs(t, "@var  a;@  @var  b;@ @m( ){}@@n(){ }@   @class C{}@@class D{}@ @// n@", 40, "var a;", "var b;", "m() {\n}", "n() {\n}", "class C {\n}", "class D {\n}", "// n")
	partsAs(t, "@m(){a;b;}@@n(){}@@var c=d;@", 40, "m() {\n  a;\n  b;\n}", "n() {\n}", "var c = d;")
	partsAs(t, "@class C{var a;var b;}@ @var c;@@// n@\n", 40, "class C {\n  var a;\n  var b;\n}", "var c;", "// n")
}

func TestMembersWithNotes(t *testing.T) {
	partsAs(t, "@// one@\n@// two@\n", 40, "// one", "// two")
	partsAs(t, "@var  a;@ @// a; }@\n@var  b;@@//{@", 40, "var a;", "// a; }", "var b;", "//{")
	partsAs(t, "@// a@  \n  @// b@\n\n@// c@ ", 40, "// a", "// b", "// c")
	// Notes in a member are signs of it, whatever stands in them.
	partsAs(t, "@m(){// }\n}@@class C{//};\nvar a;// b\n}@", 40, "m() {\n  // }\n}", "class C {\n  //};\n  var a;\n  // b\n}")
	// A text is no note, and no bracket.
	partsAs(t, "@var a='// }';@ @m(){f('{;');}@", 40, "var a = '// }';", "m() {\n  f('{;');\n}")
}

func TestMembersAtBothEnds(t *testing.T) {
	source := membersStand(t, "@var  a;@\n@m(){b;}@")
	ranges := impl.MembersOf(source)
	if ranges[0].From != 0 || ranges[1].To != len(source) {
		t.Errorf("MembersOf(%q) is %v", source, ranges)
	}
	partIs(t, source, 0, 40, 100, "var a;\nm(){b;}", 0)
	partIs(t, source, 1, 40, 100, "var  a;\nm() {\n  b;\n}", 0)
	partsAs(t, "  \n @var  a;@\n@m(){b;}@ \n ", 40, "var a;", "m() {\n  b;\n}")
}

func TestPartLeavesEmptyLines(t *testing.T) {
	partsAs(t, "\n\n\n@var  a;@\n\n\n\n@var  b;@\n \n@var  c;@ \n  \n\n ", 40, "var a;", "var b;", "var c;")
	partsAs(t, "@// n@\n\n@m(){}@\n\n\n@class C{}@\n\n", 40, "// n", "m() {\n}", "class C {\n}")
	// Within a member, one of several stays, and none at the beginning or the end of a block.
	partsAs(t, "@var a;@\n\n@m(){\n\na;\n\n\nb;\n\n}@\n\n@class C{\n\nvar a;\n\n\n\nvar b;\n\n}@", 40, "var a;", "m() {\n  a;\n\n  b;\n}", "class C {\n  var a;\n\n  var b;\n}")
	partsAs(t, "@var\n\na\n\n;@\n\n@var\n\nb;@", 40, "var a;", "var b;")
}

// TestPartStaysEachTime writes the same member over and over: nothing grows.
func TestPartStaysEachTime(t *testing.T) {
	source := sourceOf(mixedSource)
	for i := range impl.MembersOf(source) {
		once, _ := impl.FormatPart(source, i, 30, enough)
		again := once
		for range 4 {
			again, _ = impl.FormatPart(again, i, 30, enough)
		}
		if again != once {
			t.Errorf("the member %d is written as %q, then %q", i, once, again)
		}
	}
}

func TestPartLeavesOutCommasAtEnds(t *testing.T) {
	partsAs(t, "@var a=[b,];@ @m(a,b,){f(a,[b,],);}@@var c=(d,)=>e;@ @var f=[g , ] ;@", 40, "var a = [b];", "m(a, b) {\n  f(a, [b]);\n}", "var c = (d) => e;", "var f = [g];")
	// In the others they stay.
	source := "var a=[b,];var c=[d,];var e=[f,];"
	partIs(t, source, 0, 40, 100, "var a = [b];var c=[d,];var e=[f,];", 0)
	partIs(t, source, 1, 40, 100, "var a=[b,];var c = [d];var e=[f,];", 0)
	partIs(t, source, 2, 40, 100, "var a=[b,];var c=[d,];var e = [f];", 0)
	partsAs(t, "@m(a,){}@@class C{m(b,){}n(){c(d,);}}@@m(e,){}@", 40, "m(a) {\n}", "class C {\n  m(b) {\n  }\n  n() {\n    c(d);\n  }\n}", "m(e) {\n}")
}

func TestPartOfAFewMembers(t *testing.T) {
	partsAs(t, mixedSource, 40,
		"// first", "var a = [1, 2, 3];", "var b;", "// of two",
		"class C {\n  var c;\n  // in\n\n  m(x, y) {\n    return x + y;\n  }\n}",
		"main() {\n  if (a) {\n    b = f(a, b);\n  } else {\n  }\n}")
	partsAs(t, mixedSource, leastWidth,
		"// first", "var a = [\n    1,\n    2,\n    3\n];", "var b;", "// of two",
		"class C {\n  var c;\n  // in\n\n  m(x, y) {\n    return x +\n        y;\n  }\n}",
		"main() {\n  if (a) {\n    b = f(\n        a,\n        b\n    );\n  } else {\n  }\n}")
}

func TestPartInMoreLinesAndInFewer(t *testing.T) {
	source := "var a = f(b, c);  var d = g(\n    e, h\n);  // n\n"
	partIs(t, source, 0, 12, enough, "var a = f(\n    b, c\n);  var d = g(\n    e, h\n);  // n\n", 0)
	partIs(t, source, 1, 40, enough, "var a = f(b, c);  var d = g(e, h);  // n\n", 0)
	partIs(t, source, 0, 40, enough, source, 0)
	partIs(t, source, 1, 12, enough, source, 0)
	partIs(t, source, 2, 12, enough, source, 0)
	// The width counts from the beginning of the line, however far in the member stands.
	partIs(t, "          var a=f(b, c);", 0, 16, enough, "          var a = f(b, c);", 0)
	partIs(t, "          var a=f(b, c);", 0, 15, enough, "          var a = f(\n    b, c\n);", 0)
}

// TestPartIsNoWholeLine has others on the lines of a member: they stay there, though the lines get too long.
func TestPartIsNoWholeLine(t *testing.T) {
	partIs(t, "var  a;var b_is_longer_than_all;m(){}", 2, leastWidth, enough, "var  a;var b_is_longer_than_all;m() {\n}", 0)
	partIs(t, "m(){}var b_is_longer_than_all;var  a;", 0, leastWidth, enough, "m() {\n}var b_is_longer_than_all;var  a;", 0)
}

func TestPartAtEachWidth(t *testing.T) {
	source, seen := "var a;\n\nm(b){var v=f(b,[c,'d'])+e*2;}  // n", map[string]bool{}
	for width := leastWidth; width <= widest; width++ {
		for i := range 3 {
			if code := isPart(t, source, i, width, enough); code != 0 {
				t.Fatalf("with the width %d the code is %d", width, code)
			}
		}
		text, _ := impl.FormatPart(source, 1, width, enough)
		seen[text] = true
	}
	if len(seen) < 4 {
		t.Errorf("it is written in only %d ways", len(seen))
	}
}

// TestPartSoFar has budgets that are not enough: what is told so far is written.
func TestPartSoFar(t *testing.T) {
	source := " var a=f(b, c);\nvar d=g(e);"
	partIs(t, source, 0, 40, 0, " var a =\n    f(\n    b,\n    c\n);\nvar d=g(e);", 0)
	partIs(t, source, 0, 40, enough, " var a = f(b, c);\nvar d=g(e);", 0)
	for budget := range 60 {
		for i := range 2 {
			isPart(t, source, i, 20, budget)
		}
	}
}

func TestPartBounds(t *testing.T) {
	source := "var  a;\n\nm(b){f(b,b);}"
	for _, width := range []int{leastWidth, leastWidth + 1, widest - 1, widest} {
		for _, budget := range []int{0, 1, mostBudget - 1, mostBudget} {
			for i := range 2 {
				if code := isPart(t, source, i, width, budget); code != 0 {
					t.Errorf("the width %d and the budget %d have the code %d", width, budget, code)
				}
			}
		}
	}
	wrongWidths := []int{math.MinInt, -1, 0, 1, leastWidth - 1, widest + 1, mostBudget, math.MaxInt}
	wrongBudgets := []int{math.MinInt, math.MinInt + 1, -1, mostBudget + 1, math.MaxInt}
	// The bounds come first, whatever else is wrong.
	for _, text := range []string{source, "", "$", "var a = ;", blanks(impl.MaxSource + 1), growing(t, mostWritten+1)} {
		for _, i := range []int{math.MinInt, -1, 0, 1, 2, math.MaxInt} {
			for _, width := range wrongWidths {
				partIs(t, text, i, width, 100, "", impl.FmBounds)
			}
			for _, budget := range wrongBudgets {
				partIs(t, text, i, 40, budget, "", impl.FmBounds)
				partIs(t, text, i, leastWidth-1, budget, "", impl.FmBounds)
			}
		}
	}
}

func TestPartNumbersOfMembers(t *testing.T) {
	for count := range 13 {
		source := strings.Repeat("var  a;\n\n", count)
		if got := len(impl.MembersOf(source)); got != count {
			t.Fatalf("%q has %d members", source, got)
		}
		for i := range count {
			partIs(t, source, i, 40, 100, strings.Repeat("var  a;\n\n", i)+"var a;\n\n"+strings.Repeat("var  a;\n\n", count-i-1), 0)
		}
		for _, i := range []int{math.MinInt, math.MinInt + 1, -count - 1, -count, -2, -1, count, count + 1, len(source), math.MaxInt - 1, math.MaxInt} {
			if i < 0 || i >= count {
				partIs(t, source, i, 40, 100, source, impl.FmSource)
			}
		}
	}
	// A member too many is no source.
	areNoMembers(t, strings.Repeat("var  a;\n\n", 13))
	// The members of a class are none of the file.
	partIs(t, "class C { var  a; var  b; }", 1, 40, 100, "class C { var  a; var  b; }", impl.FmSource)
}

func TestPartOfNoMember(t *testing.T) {
	areNoMembers(t, "", " ", "\n", "\n \n", blanks(impl.MaxSource))
}

func TestPartOfWhatIsNoSource(t *testing.T) {
	areNoMembers(t, "$", "\xff", "\x00", "\t", "var", "var a", "var a = ;", "var a; var", "var a; $", "m() {", "m() { } }", "class C { class D { } }", "if (a) { }", "return;", "a;", "'", "var a = 'b;", "var a; 'b", "// \xe9", "var a = b // n\n;", "var a; // \t",
		blanks(impl.MaxSource+1), "var a;"+blanks(impl.MaxSource-5), strings.Repeat("var a;", impl.MaxSource), "var v = "+inOneAnother("(", "a", ")", 12)+";", wideSource(impl.MaxNodes+1))
	for _, b := range letters(allBytes()) {
		for _, text := range []string{b, "var a;" + b, b + "var a;", "var a;" + b + "var  b;", "var a='" + b + "';", "//" + b, "m(){}//" + b + "\nvar  b;"} {
			membersAre(t, text, rangesByWord(text)...)
			for i := range 4 {
				isPart(t, text, i, 20, 30)
			}
		}
	}
}

// TestPartTooLong has a member that is written in two bytes more than it had, up to the limit and past it.
func TestPartTooLong(t *testing.T) {
	for _, more := range []int{-3, -2, -1, 0} {
		room := impl.MaxSource + more - len("var a=b;")
		note := "//" + strings.Repeat("n", room-3)
		for _, c := range []struct {
			ahead, behind string
			i             int
		}{{"", blanks(room), 0}, {blanks(room), "", 0}, {"", "\n" + note, 0}, {note + "\n", "", 1}, {"var c;" + blanks(room-12), "m(){}\n", 1}} {
			source, want, code := c.ahead+"var a=b;"+c.behind, c.ahead+"var a = b;"+c.behind, 0
			if len(source) != impl.MaxSource+more {
				t.Fatalf("the source has %d bytes", len(source))
			}
			if len(want) > impl.MaxSource {
				want, code = source, impl.FmLong
			}
			partIs(t, source, c.i, 40, 100, want, code)
			isPart(t, source, c.i, 40, 100)
			// The others may be written, and no member is none, as long as it is.
			isPart(t, source, 0, 40, 100)
			partIs(t, source, 3, 40, 100, source, impl.FmSource)
		}
	}
}

func TestPartOfTheLongestSources(t *testing.T) {
	// The others aren't written, so that they can't get too long.
	note := "//" + strings.Repeat("n", impl.MaxSource-len("var  a;//"))
	source := "var  a;" + note
	membersAre(t, source, impl.Range{From: 0, To: 7}, impl.Range{From: 7, To: impl.MaxSource})
	partIs(t, source, 0, 40, 100, "var a;"+note, 0)
	partIs(t, source, 1, 40, 100, source, 0)
	// A member that is written as it stands is as long as before.
	for _, source := range []string{"var a;" + blanks(impl.MaxSource-6), blanks(impl.MaxSource-6) + "var a;", "//" + strings.Repeat("n", impl.MaxSource-2), "m() {\n}" + strings.Repeat("\n", impl.MaxSource-7)} {
		partIs(t, source, 0, 40, 100, source, 0)
		areNoMembers(t, source+" ", " "+source, source+"\n")
	}
	text := "'" + strings.Repeat("x", impl.MaxSource-len("var a='';")) + "'"
	partIs(t, "var a="+text+";", 0, 40, 100, "var a="+text+";", impl.FmLong)
	partIs(t, "var a=\n"+text[1:len(text)-1]+";", 0, 40, 100, "var a=\n"+text[1:len(text)-1]+";", impl.FmSource)
	// By being split it gets too long; with more room in a line it is short enough.
	list := "var a=[" + strings.Repeat("b,", 11) + "b];"
	full := list + blanks(impl.MaxSource-len(list)-20)
	partIs(t, full, 0, leastWidth, enough, full, impl.FmLong)
	partIs(t, full, 0, 80, enough, "var a = [b, b, b, b, b, b, b, b, b, b, b, b];"+full[len(list):], 0)
}

// TestPartThatGrows has a source that is too long to be written as a whole, but not member by member.
func TestPartThatGrows(t *testing.T) {
	source := growing(t, mostWritten+50)
	isTooLong(t, source, 80, enough)
	for i := range impl.MembersOf(source) {
		if code := isPart(t, source, i, 80, enough); code != 0 {
			t.Errorf("the member %d has the code %d", i, code)
		}
	}
	codes := map[int]int{}
	for i := range impl.MembersOf(source) {
		code := 0
		source, code = impl.FormatPart(source, i, 80, enough)
		codes[code]++
	}
	if codes[0] < 7 || codes[impl.FmLong] < 1 {
		t.Errorf("the codes are %v", codes)
	}
}

func TestPartTheMost(t *testing.T) {
	for _, size := range []int{2, 28, 299, impl.MaxNodes} {
		source := wideSource(size)
		membersAre(t, source, rangesByWord(source)...)
		for i := -1; i <= len(impl.MembersOf(source)); i++ {
			isPart(t, source, i, 40, enough)
		}
	}
	source := "var  a;var v=" + inOneAnother("(", "a", ")", 11) + ";"
	partIs(t, source, 1, 80, enough, "var  a;var v = "+inOneAnother("(", "a", ")", 11)+";", 0)
}

// allParts writes all members, one behind the other: only the gaps stay as they were.
func allParts(t *testing.T, source string, width int, budget int) {
	t.Helper()
	text, want, at := source, "", 0
	for i, member := range impl.MembersOf(source) {
		nodes, k := memberNode(t, source, i)
		want += source[at:member.From] + strings.Join(impl.WriteNode(nodes, k, 0, width, budget).Lines, "\n")
		at = member.To
		next, code := impl.FormatPart(text, i, width, budget)
		if code == impl.FmLong {
			return
		}
		if code != 0 {
			t.Fatalf("FormatPart(%q, %d, %d, %d) has the code %d", text, i, width, budget, code)
		}
		text = next
	}
	if want += source[at:]; text != want {
		t.Fatalf("all members of %q are written as %q; want %q", source, text, want)
	}
	// Where the gaps are as Format has them, that is the same.
	whole, _, code := impl.Format(source, width, budget)
	if code != 0 {
		return
	}
	for i := range impl.MembersOf(whole) {
		partIs(t, whole, i, width, budget, whole, 0)
	}
}

func TestPartsOfManySources(t *testing.T) {
	sources := append(manySources(), sourceOf(mixedSource))
	for k, source := range sources {
		other := sources[(k+1)%len(sources)]
		for _, text := range []string{source, source + other, source + "\n\n" + other + "\n//n", " //n\n\n" + source} {
			membersAre(t, text, rangesByWord(text)...)
			for _, width := range []int{leastWidth, 40} {
				allParts(t, text, width, 20)
				for i := range impl.MembersOf(text) {
					isPart(t, text, i, width, 20)
				}
			}
		}
	}
}

// beginAndEndWithSigns holds each Range: it begins and ends where signs of that member do, and none overlaps the next one.
func beginAndEndWithSigns(t *testing.T, source string) {
	t.Helper()
	places, nodes, at := placesByWord(source), readTree(t, source), 0
	ranges, kids := impl.MembersOf(source), nodes[len(nodes)-1].Kids
	if len(ranges) != len(kids) {
		t.Fatalf("MembersOf(%q) is %v; there are %d members", source, ranges, len(kids))
	}
	for i, member := range ranges {
		texts := signsByForm(nodes, kids[i])
		if member.From != places[0] || member.From < at {
			t.Fatalf("MembersOf(%q) is %v; the member %d begins at %d", source, ranges, i, places[0])
		}
		for k, text := range texts {
			if at = places[k] + len(text); source[places[k]:at] != text {
				t.Fatalf("of %q the sign at %d is no %q", source, places[k], text)
			}
		}
		if member.To != at {
			t.Fatalf("MembersOf(%q) is %v; the member %d ends at %d", source, ranges, i, at)
		}
		places = places[len(texts):]
	}
	if len(places) != 0 {
		t.Fatalf("behind the members of %q stand signs at %v", source, places)
	}
}

func TestPartsOfAnySource(t *testing.T) {
	written, blank, more, fewer, soFar := 0, 0, 0, 0, 0
	for seed, source := range byChance(400) {
		chance := rand.New(rand.NewSource(int64(seed)))
		if seed%3 == 0 {
			source = spaced(textsIn(source))
		}
		beginAndEndWithSigns(t, source)
		membersAre(t, source, rangesByWord(source)...)
		nodes := readTree(t, source)
		width, budget := leastWidth+chance.Intn(70), []int{0, 3, 30, enough}[chance.Intn(4)]
		for i, member := range impl.MembersOf(source) {
			if isPart(t, source, i, width, budget) != 0 {
				continue
			}
			written++
			k := nodes[len(nodes)-1].Kids[i]
			if nodes[k].Blank {
				blank++
			}
			done := impl.WriteNode(nodes, k, 0, width, budget)
			if done.State == impl.StSoFar {
				soFar++
			}
			switch was := 1 + strings.Count(source[member.From:member.To], "\n"); {
			case len(done.Lines) > was+1:
				more++
			case len(done.Lines) < was:
				fewer++
			}
		}
		allParts(t, source, width, budget)
		isPart(t, source, -1, width, budget)
		isPart(t, source, len(impl.MembersOf(source)), width, budget)
	}
	if written < 700 || blank < 100 || more < 100 || fewer < 100 || soFar < 50 {
		t.Errorf("%d are written, %d with an empty line ahead, %d in more lines, %d in fewer, %d so far", written, blank, more, fewer, soFar)
	}
}

// TestPartsOfAnySourceAtTheLimit puts blanks behind sources by chance, so that what comes has about MaxSource bytes.
func TestPartsOfAnySourceAtTheLimit(t *testing.T) {
	codes, just := map[int]int{}, 0
	for seed, source := range byChance(300) {
		members := impl.MembersOf(source)
		for i := range members {
			text, _ := impl.FormatPart(source, i, 20, 30)
			size := mostWritten - 3 + (seed+i)%7
			room := size - len(text)
			if room < 0 || len(source)+room > impl.MaxSource {
				continue
			}
			code := isPart(t, source+blanks(room), i, 20, 30)
			if (code == 0) != (size <= mostWritten) {
				t.Errorf("what comes of %q has %d bytes, and the code is %d", source, size, code)
			}
			codes[code]++
			if size == mostWritten {
				just++
			}
		}
	}
	if codes[0] < 100 || codes[impl.FmLong] < 100 || just < 20 {
		t.Errorf("the codes are %v, and %d are just within the limit", codes, just)
	}
}

func TestPartsOfTurnedSources(t *testing.T) {
	codes := map[int]int{}
	sources := append(byChance(200), someSources()...)
	for seed := range int64(3000) {
		chance := rand.New(rand.NewSource(seed))
		turned := turnedByte(chance, sources[chance.Intn(len(sources))])
		for range chance.Intn(3) {
			turned = turnedByte(chance, turned)
		}
		membersAre(t, turned, rangesByWord(turned)...)
		codes[isPart(t, turned, chance.Intn(5)-1, leastWidth+chance.Intn(60), chance.Intn(40))]++
	}
	if codes[0] < 150 || codes[impl.FmSource] < 1000 || codes[impl.FmBounds] != 0 {
		t.Errorf("the codes are %v", codes)
	}
}

func TestPartsOfSmallTexts(t *testing.T) {
	eachSignText(func(text string) {
		if got := impl.MembersOf(text); !slices.Equal(got, rangesByWord(text)) {
			t.Fatalf("MembersOf(%q) is %v", text, got)
		}
		want, code := partByWord(text, 0, 20, 10)
		partIs(t, text, 0, 20, 10, want, code)
	})
}

func TestPartsOfAnyBytes(t *testing.T) {
	for seed := range int64(2000) {
		chance := rand.New(rand.NewSource(seed))
		list := make([]byte, chance.Intn(40))
		for i := range list {
			list[i] = byte(chance.Intn([]int{128, 256}[seed%2]))
		}
		membersAre(t, string(list), rangesByWord(string(list))...)
		isPart(t, string(list), chance.Intn(4)-1, chance.Intn(220)-5, chance.Intn(200)-5)
	}
}

func TestPartsAreNewMemory(t *testing.T) {
	source := "// the first line\nvar  a;\n"
	for i := -1; i < 3; i++ {
		if text, _ := impl.FormatPart(source, i, 40, 100); sharesMemory(text, source) {
			t.Errorf("%q is in the memory of the source", text)
		}
	}
	for _, whole := range []string{"// the only line", "no source at all", "var a_long_name = b;", "var a='" + strings.Repeat("x", impl.MaxSource-9) + "';"} {
		if text, _ := impl.FormatPart(whole, 0, 40, 100); text == "" || sharesMemory(text, whole) {
			t.Errorf("%q is in the memory of the source", text)
		}
	}
	first, second := impl.MembersOf(source), impl.MembersOf(source)
	first[0].From, first[1].To = -7, -7
	if !slices.Equal(second, rangesByWord(source)) {
		t.Errorf("an answer is %v behind the change of another one", second)
	}
	membersAre(t, source, rangesByWord(source)...)
}

func TestPartsKeepNothing(t *testing.T) {
	asks := []func() string{}
	for _, source := range []string{"", "var  a;\n\nvar  b;", sourceOf(mixedSource), "$", pointSource, growing(t, mostWritten+1), blanks(impl.MaxSource + 1)} {
		for i := -1; i < 3; i++ {
			for _, width := range []int{leastWidth - 1, leastWidth, 80} {
				asks = append(asks, func() string {
					text, code := impl.FormatPart(source, i, width, 50)
					return fmt.Sprint(text, code, impl.MembersOf(source))
				})
			}
		}
	}
	keepNothing(t, asks)
}
