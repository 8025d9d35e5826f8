package tests

import (
	"fmt"
	"math"
	"math/rand"
	"reflect"
	"regexp"
	"slices"
	"strings"
	"sync"
	"testing"

	"loop.example/g00459/impl"
)

// neatForm is a neat text: lines that end with no blank, at most one empty line between two of them.
var neatForm = regexp.MustCompile(`\A([ -~]*[!-~]\n(\n?[ -~]*[!-~]\n)*)?\z`)

// treeTold is a tree in one text: trees that are not the same have other ones.
func treeTold(nodes []impl.Node) string {
	var out strings.Builder
	for _, node := range nodes {
		fmt.Fprintf(&out, "%d %q %v %v\n", node.Kind, node.Text, append([]int{}, node.Kids...), node.Blank)
	}
	return out.String()
}

// keptByWord is by the chapter's words; what is read, ReadSource tells.
func keptByWord(a string, b string) bool {
	was, _, wasRead := impl.ReadSource(a)
	is, _, isRead := impl.ReadSource(b)
	if !wasRead || !isRead || treeTold(was) != treeTold(is) {
		return false
	}
	wasSigns, _, _ := signsByForms(a)
	isSigns, _, _ := signsByForms(b)
	return slices.Equal(signsWithoutEnds(wasSigns), signsWithoutEnds(isSigns)) && slices.Equal(notesByHand(wasSigns), notesByHand(isSigns))
}

func notesByHand(signs []impl.Sign) []string {
	notes := []string{}
	for _, sign := range signs {
		if strings.HasPrefix(sign.Text, "//") {
			notes = append(notes, sign.Text)
		}
	}
	return notes
}

// keptIs holds two sources both ways round.
func keptIs(t *testing.T, a string, b string, want bool) {
	t.Helper()
	if got := impl.Kept(a, b); got != want {
		t.Fatalf("Kept(%q, %q) is %v", a, b, got)
	}
	if got := impl.Kept(b, a); got != want {
		t.Fatalf("Kept(%q, %q) is %v", b, a, got)
	}
	if keptByWord(a, b) != want {
		t.Fatalf("by the words Kept(%q, %q) is %v", a, b, !want)
	}
}

// keptIsByWord tells what it is.
func keptIsByWord(t *testing.T, a string, b string) bool {
	t.Helper()
	want := keptByWord(a, b)
	keptIs(t, a, b, want)
	return want
}

// areKept holds forms of one source, each against each.
func areKept(t *testing.T, forms ...string) {
	t.Helper()
	for _, a := range forms {
		for _, b := range forms {
			keptIs(t, a, b, true)
		}
	}
}

// areOthers holds sources of which no two are the same.
func areOthers(t *testing.T, sources ...string) {
	t.Helper()
	for i, a := range sources {
		keptIs(t, a, a, true)
		for _, b := range sources[:i] {
			keptIs(t, a, b, false)
		}
	}
}

func neatIs(t *testing.T, text string, want bool) {
	t.Helper()
	if got := impl.Neat(text); got != want {
		t.Fatalf("Neat(%q) is %v", text, got)
	}
	if neatForm.MatchString(text) != want {
		t.Fatalf("by its form Neat(%q) is %v", text, !want)
	}
}

func areNeat(t *testing.T, want bool, texts ...string) {
	t.Helper()
	for _, text := range texts {
		neatIs(t, text, want)
	}
}

// fittingIs is for the width of a text: each that is less is too small.
func fittingIs(t *testing.T, text string, width int) {
	t.Helper()
	for _, less := range []int{1, 2, 10, width + 1, width + 2, 100000, math.MaxInt} {
		if width-less < width && impl.Fitting(text, width-less) {
			t.Errorf("Fitting(%.80q, %d) is true", text, width-less)
		}
	}
	for _, fits := range []int{width, width + 1, width + 2, width + 100000, math.MaxInt - 1, math.MaxInt} {
		if !impl.Fitting(text, fits) {
			t.Errorf("Fitting(%.80q, %d) is false", text, fits)
		}
	}
	for _, none := range []int{-1, math.MinInt + 1, math.MinInt} {
		if impl.Fitting(text, none) {
			t.Errorf("Fitting(%.80q, %d) is true", text, none)
		}
	}
}

// widestByBytes is the width of the widest line.
func widestByBytes(text string) int {
	widest := 0
	for _, line := range linesByBytes(text) {
		widest = max(widest, len(line))
	}
	return widest
}

// truthByWord asks what Search tells by the chapter's words; all else is reckoned here.
func truthByWord(p impl.Piece, width int, budget int) bool {
	found, state := impl.Search(p, width, budget)
	if !pieceByWord(p) {
		return len(found) == 0 && state == 0
	}
	best, _ := bestByWord(p, width)
	all := []int{}
	for _, rule := range p.Rules {
		all = append(all, rule.Values-1)
	}
	over, sum := overByWord(linesByWord(p, found), width), sumByWord(p, found)
	overAll, sumAll := overByWord(linesByWord(p, all), width), sumByWord(p, all)
	noDearer := over < overAll || over == overAll && sum <= sumAll
	return (state != impl.StBest || slices.Equal(found, best)) && tiesByWord(p, found) && noDearer
}

// isTrueSearch asks for true, which the chapter's words are, too, where the search is as it must be.
func isTrueSearch(t *testing.T, p impl.Piece, width int, budget int) {
	t.Helper()
	if !truthByWord(p, width, budget) {
		found, state := impl.Search(p, width, budget)
		t.Fatalf("Search(%+v, %d, %d) is %v, %d, which is not true", p, width, budget, found, state)
	}
	isToldTrue(t, p, width, budget)
}

// isToldTrue does not reckon by words, which takes long where there are many lists.
func isToldTrue(t *testing.T, p impl.Piece, width int, budget int) {
	t.Helper()
	if !impl.TrueSearch(p, width, budget) {
		t.Fatalf("TrueSearch(%+v, %d, %d) is false", p, width, budget)
	}
}

// isWellWritten is promise 16 of what Format makes: nothing is lost, and nothing stands at the ends of lines. It tells whether Format is well.
func isWellWritten(t *testing.T, source string, width int, budget int) bool {
	t.Helper()
	text, _, code := impl.Format(source, width, budget)
	if code != 0 {
		keptIs(t, source, source, code != impl.FmSource)
		return false
	}
	keptIs(t, source, text, true)
	neatIs(t, text, true)
	fittingIs(t, text, widestByBytes(text))
	return true
}

func TestKeptASourceOfTheDocument(t *testing.T) {
	source := "var a = 1; main(b) { if (b) { f(b, b); } return; }"
	text := "var a = 1;\nmain(b) {\n  if (b) {\n    f(b, b);\n  }\n  return;\n}\n"
	narrow := "var a = 1;\nmain(b) {\n  if (b) {\n    f(\n        b,\n        b\n    );\n  }\n  return;\n}\n"
	areKept(t, source, text, narrow)
	for _, other := range []string{"", "var b;", "var a = 1;", "var a = 1; main(b) { if (b) { f(b, b); } }", "main(b) { if (b) { f(b, b); } return; } var a = 1;", source + source} {
		keptIs(t, source, other, false)
		keptIs(t, narrow, other, false)
	}
}

func TestKeptHasOtherBlanks(t *testing.T) {
	areKept(t, "", " ", "\n", "\n\n", "   \n  \n\n ")
	areKept(t, "var a;", "  var   a  ;  ", "var\na\n;", "\n\n\nvar a;\n\n", "var\n\na\n  \n;")
	areKept(t, "m(a,b){return a+b;}", "m ( a , b ) { return a + b ; }", "m(a, b) {\n  return a + b;\n}\n", "m(a,\nb)\n{\nreturn\na\n+\nb\n;\n}")
	areKept(t, "class C{var a;m(){}}", "class C {\n\n  var a;\n  m() {\n\n  }\n\n}\n\n")
	areKept(t, "// a\nvar b;", "  // a  \nvar b;", "\n\n// a\n  var b;")
	// What stands in a text or a note is no blank between signs.
	areOthers(t, "var a = 'b c';", "var a = 'b  c';", "var a = ' b c';", "var a = 'b c ';", "var a = 'bc';")
	areOthers(t, "// a b", "// a  b", "//a b", "//  a b", "// ab")
}

func TestKeptHasOtherEmptyLines(t *testing.T) {
	// One that is left out, one that is too many, and one that stands elsewhere.
	areOthers(t, "var a;\nvar b;\nvar c;", "var a;\n\nvar b;\nvar c;", "var a;\nvar b;\n\nvar c;", "var a;\n\nvar b;\n\nvar c;")
	areOthers(t, "class C {\nvar a;\nm() {}\n}\n// n", "class C {\nvar a;\n\nm() {}\n}\n// n", "class C {\nvar a;\nm() {}\n}\n\n// n")
	areOthers(t, "m() {\na;\nb;\n}\nn() {}", "m() {\na;\n\nb;\n}\nn() {}", "m() {\na;\nb;\n}\n\nn() {}")
	areOthers(t, "m() { if (a) { b;\nc; } else { d;\ne; } }", "m() { if (a) { b;\n\nc; } else { d;\ne; } }", "m() { if (a) { b;\nc; } else { d;\n\ne; } }")
	areOthers(t, "// a\n// b", "// a\n\n// b")
	// Several are one, also with blanks in them.
	areKept(t, "var a;\n\nvar b;", "var a;\n\n\nvar b;", "var a;\n   \nvar b;", "var a; \n \n\n  \n var b;")
	areKept(t, "m() {\na;\n\n// n\n}", "m() {\na;\n\n\n\n// n\n}")
	// At the beginning and the end of a file, a class or a block, and within a statement, none is seen.
	areKept(t, "var a;\nvar b;", "\n\nvar a;\nvar b;", "var a;\nvar b;\n\n", "var\n\na;\nvar\n\nb\n\n;")
	areKept(t, "class C {\nvar a;\n}", "class C {\n\nvar a;\n}", "class C {\nvar a;\n\n}", "class\n\nC\n\n{\n\nvar a;\n\n}\n\n")
	areKept(t, "m() {\na;\n}", "m() {\n\na;\n}", "m() {\na;\n\n}", "m(\n\n)\n\n{\n\na\n\n;\n\n}")
	areKept(t, "m() { if (a) { } else { } }", "m() {\n\nif\n\n(a)\n\n{\n\n}\n\nelse\n\n{\n\n}\n\n}")
}

func TestKeptHasOtherSigns(t *testing.T) {
	// Names, in each place that one has.
	areOthers(t, "class C { var a; m(b) { c = d.e(f); g; return h; } }", "class X { var a; m(b) { c = d.e(f); g; return h; } }", "class C { var x; m(b) { c = d.e(f); g; return h; } }", "class C { var a; x(b) { c = d.e(f); g; return h; } }", "class C { var a; m(x) { c = d.e(f); g; return h; } }", "class C { var a; m(b) { x = d.e(f); g; return h; } }",
		"class C { var a; m(b) { c = x.e(f); g; return h; } }", "class C { var a; m(b) { c = d.x(f); g; return h; } }", "class C { var a; m(b) { c = d.e(x); g; return h; } }", "class C { var a; m(b) { c = d.e(f); x; return h; } }", "class C { var a; m(b) { c = d.e(f); g; return x; } }")
	areOthers(t, "var a;", "var A;", "var a_;", "var _a;", "var aa;", "var a1;", "var b;")
	areOthers(t, "var v = a..f(b)..g(c);", "var v = x..f(b)..g(c);", "var v = a..x(b)..g(c);", "var v = a..f(x)..g(c);", "var v = a..f(b)..x(c);", "var v = a..f(b)..g(x);")
	areOthers(t, "var v = (a, b) => c;", "var v = (x, b) => c;", "var v = (a, x) => c;", "var v = (a, b) => x;", "var v = (b, a) => c;", "var v = (a) => c;", "var v = () => c;", "var v = (a, b, c) => c;")
	// Numbers, texts and marks.
	areOthers(t, "var v = 1;", "var v = 2;", "var v = 01;", "var v = 001;", "var v = 10;", "var v = '1';", "var v = a;", "var v = _1;")
	areOthers(t, "var v = 'a';", "var v = 'b';", "var v = '';", "var v = ' ';", "var v = 'A';", "var v = '//a';", "var v = 'aa';", "var v = a;")
	areOthers(t, "var v = a + b;", "var v = a - b;", "var v = a * b;", "var v = a < b;", "var v = a == b;", "var v = a && b;", "var v = a || b;", "var v = a.b;", "var v = a(b);", "var v = [a, b];", "var v = a..b();", "var v = (a) => b;")
	areOthers(t, "var v = a - b - c;", "var v = a - b + c;", "var v = a + b - c;", "var v = a - (b - c);", "var v = (a - b) - c;", "var v = (a - b - c);", "var v = a * b - c;")
	areOthers(t, "var v = a ? b : c;", "var v = b ? a : c;", "var v = a ? c : b;", "var v = (a) ? b : c;", "var v = a ? b : c ? d : e;", "var v = a ? b ? c : d : e;")
}

func TestKeptHasSignsLeftOutOrTooMany(t *testing.T) {
	areOthers(t, "var v = a;", "var v = a + a;", "var v = a + a + a;", "var v = (a);", "var v = ((a));", "var v = [a];", "var v = a();", "var v = a.a;", "var v;")
	areOthers(t, "var v = f();", "var v = f(a);", "var v = f(a, a);", "var v = f(a, a, a);", "var v = f()();", "var v = f(f());", "var v = f..f();")
	areOthers(t, "var v = [];", "var v = [1];", "var v = [1, 1];", "var v = [[]];", "var v = [[], []];", "var v = [[[]]];", "var v = ['', 1];", "var v = [1, ''];")
	areOthers(t, "m() {}", "m(a) {}", "m(a, a) {}", "m() { a; }", "m() { a; a; }", "m() { return; }", "m() { return; return; }", "m() { return a; }", "m() { var a; }", "m() { var a = a; }", "m() { a = a; }", "m() {} m() {}", "class m {}", "class C { m() {} }", "class C {} m() {}")
	areOthers(t, "m() { if (a) {} }", "m() { if (a) {} else {} }", "m() { if ((a)) {} }", "m() { while (a) {} }", "m() { if (a) { if (a) {} } }", "m() { if (a) {} if (a) {} }", "m() { if (a) { b; } else {} }", "m() { if (a) {} else { b; } }", "m() { if (a) { if (a) {} } else {} }", "m() { if (a) { if (a) {} else {} } }")
	areOthers(t, "", "var a;", "var a; var a;", "var a; var b;", "var b; var a;", "class a {}", "class a { var a; }", "class a {} var a;", "var a; class a {}", "class a {} class a {}", "//", "// a", "//a", "//\n//")
}

func TestKeptHasOtherNotes(t *testing.T) {
	whole := "// a\nclass C {\n// b\nm() {\n// c\nreturn;\n// d\n}\n// e\n}\n// f\n"
	areOthers(t, whole, strings.Replace(whole, "// a\n", "", 1), strings.Replace(whole, "// b\n", "", 1), strings.Replace(whole, "// c\n", "", 1), strings.Replace(whole, "// d\n", "", 1), strings.Replace(whole, "// e\n", "", 1), strings.Replace(whole, "// f\n", "", 1))
	for _, one := range []string{"a", "b", "c", "d", "e", "f"} {
		note := "// " + one + "\n"
		for _, other := range []string{"// x\n", "//" + one + "\n", "//  " + one + "\n", "// " + one + one + "\n", "/// " + one + "\n", "//\n", note + note, "//\n" + note, note + "// x\n", "var a;\n"} {
			keptIs(t, whole, strings.Replace(whole, note, other, 1), false)
		}
		// Blanks at its end are no part of it.
		areKept(t, whole, strings.Replace(whole, note, "   // "+one+"   \n", 1))
	}
	// In another order.
	areOthers(t, "// a\n// b\n// c\n", "// a\n// c\n// b\n", "// b\n// a\n// c\n", "// b\n// c\n// a\n", "// c\n// a\n// b\n", "// c\n// b\n// a\n")
	areOthers(t, "// a\nvar v;\n// b\n", "// b\nvar v;\n// a\n", "var v;\n// a\n// b\n", "// a\n// b\nvar v;\n")
	// The same note elsewhere.
	areOthers(t, "// a\nm() {}", "m() {\n// a\n}", "m() {}\n// a", "class C {\n// a\n}\nm() {}")
	areOthers(t, "m() { a; // n\n b; }", "m() { // n\n a; b; }", "m() { a; b; // n\n }", "m() { a; b; } // n\n")
	// At the end of a line a note is below what stands there, as it is on a line of its own.
	areKept(t, "var a; // n\nvar b;", "var a;\n// n\nvar b;", "var a; // n \nvar b;", "var a;// n\n  var b;\n")
	areKept(t, "//", "// ", "//   \n", "\n\n//\n\n")
}

func TestKeptWithCommasAtEnds(t *testing.T) {
	for _, c := range []struct{ with, without string }{
		{"var v = [a,];", "var v = [a];"}, {"var v = [a, b,];", "var v = [a, b];"}, {"var v = f(a,);", "var v = f(a);"}, {"var v = f(a, [b,], c,);", "var v = f(a, [b], c);"}, {"m(a,) {}", "m(a) {}"}, {"m(a, b ,\n) {}", "m(a, b) {}"},
		{"var v = (a,) => b;", "var v = (a) => b;"}, {"var v = (a, b,) => [c,];", "var v = (a, b) => [c];"}, {"var v = a..f(b,)..g(c, d,);", "var v = a..f(b)..g(c, d);"}, {"m() { f(a,)(b,).c(d,); }", "m() { f(a)(b).c(d); }"}, {"var v = [[[a,],],];", "var v = [[[a]]];"},
	} {
		areKept(t, c.with, c.without)
	}
	// Here and there.
	areKept(t, "var v = [[a,], [b]];", "var v = [[a], [b,]];", "var v = [[a], [b],];", "var v = [[a], [b]];")
	// One behind nothing, or a second one, is no source; nor is one elsewhere.
	for _, source := range []string{"var v = [,];", "var v = [a,,];", "var v = f(,);", "var v = f(a,,);", "m(,) {}", "m(a,,) {}", "var v = (a,);", "var v = a,;", "m() { a,; }", "m() { if (a,) {} }", "var v = (,) => a;"} {
		keptIs(t, source, source, false)
		keptIs(t, source, strings.ReplaceAll(source, ",", ""), false)
	}
	// A `,` in a text or a note is no mark.
	areOthers(t, "var v = [','];", "var v = [''];", "var v = [',',','];", "var v = [')'];", "var v = [',)'];")
	areOthers(t, "var v = [a];// ,", "var v = [a];//", "var v = [a];// ,)", "var v = [a];// )")
}

func TestKeptOfWhatIsNoSource(t *testing.T) {
	sources := []string{"", "var a;", "// n", "m() { return; }", pointSource}
	none := []string{";", "a", "var", "var a", "var a = ;", "m()", "m() {", "}", "class C {", "'", "$", "\x00", "\xff", "\t", "\r\n", "var a; $", "// \x7f", "return;", "1", "abcdefghijabcdefghijabcdefghij1", "var v = " + inOneAnother("(", "a", ")", 12) + ";", wideSource(impl.MaxNodes + 1), blanks(impl.MaxSource + 1)}
	for _, a := range none {
		keptIs(t, a, a, false)
		for _, b := range sources {
			keptIs(t, a, b, false)
		}
		for _, b := range none {
			keptIs(t, a, b, false)
		}
	}
	for b := range 256 {
		one := string([]byte{byte(b)})
		keptIs(t, one, one, one == " " || one == "\n")
		keptIs(t, one, "", one == " " || one == "\n")
		keptIs(t, "var a;"+one, "var a;", one == " " || one == "\n")
		keptIs(t, "var v = '"+one+"';", "var v = '"+one+"';", b >= 32 && b <= 126 && one != "'")
		keptIs(t, "//"+one, "//"+one, b >= 32 && b <= 126 || one == "\n")
	}
}

func TestKeptOfTheLongestSources(t *testing.T) {
	for _, source := range []string{"", "var a;", "m(){f(a,b);}//n\n", pointSource} {
		for _, fill := range []string{" ", "\n"} {
			fills := strings.Repeat(fill, impl.MaxSource-len(source))
			areKept(t, source, fills[1:]+source, fills+source, source+fills)
			for _, more := range []string{fills + source + " ", fill + fills + source, source + fills + "\n"} {
				keptIs(t, more, more, false)
				keptIs(t, source, more, false)
				keptIs(t, fills+source, more, false)
			}
		}
	}
	note := "//" + strings.Repeat("n", impl.MaxSource-2)
	areOthers(t, note, note[:impl.MaxSource-1], note[:impl.MaxSource-1]+"m")
	keptIs(t, note+"n", note+"n", false)
}

func TestNeatTextsOfTheDocument(t *testing.T) {
	areNeat(t, true, "", "a\n", "a\nb\n", "a\n\nb\n", "  a\n", "a\n  b\nc\n", "a\n\nb\n\nc\n", "a b  c\n", "var a = 1;\nmain(b) {\n  return;\n}\n")
	areNeat(t, false, "a \n", "a", "a\n\n", "\na\n", "a\n\n\nb\n", "\n", " ", "a\t\n", "a\nb", "a\nb \n", "a \nb\n")
}

func TestNeatEmptyLines(t *testing.T) {
	// At the beginning.
	areNeat(t, false, "\n", "\n\n", "\n\n\n", "\na\n", "\n\na\n", "\na\n\nb\n", "\n a\n")
	// At the end.
	areNeat(t, false, "a\n\n", "a\n\n\n", "a\nb\n\n", "a\n\nb\n\n", "a\n\nb\n\n\n")
	// At both.
	areNeat(t, false, "\na\n\n", "\n\na\n\n\n", "\na", "\na\n\nb\n\n")
	// One between two lines, and two or more one below the other.
	for count := range 6 {
		gap := strings.Repeat("\n", count)
		areNeat(t, count <= 1, "a\n"+gap+"b\n", "a\n"+gap+"b\n\nc\n", "a\n\nb\n"+gap+"c\n", "a\nb\n"+gap+"c\nd\n", "  a\n"+gap+"  b\n")
		areNeat(t, count == 0, "a\n"+gap, gap+"a\n", gap)
	}
	// Each second line may be empty.
	areNeat(t, true, strings.Repeat("a\n\n", 500)+"b\n")
	areNeat(t, false, strings.Repeat("a\n\n", 500), strings.Repeat("a\n\n", 500)+"\nb\n", "\n"+strings.Repeat("a\n\n", 500)+"b\n")
}

func TestNeatEndsOfLines(t *testing.T) {
	// Of the first line, one in the middle, and the last one.
	for _, end := range []string{" ", "  ", "     ", blanks(100)} {
		areNeat(t, false, "a"+end+"\n", "a"+end+"\nb\nc\n", "a\nb"+end+"\nc\n", "a\nb\nc"+end+"\n", "a\nb\nc\n"+end, "a"+end, "a\nb"+end, "a"+end+"\n\nb\n")
		// A line of blanks alone.
		areNeat(t, false, end, end+"\n", "a\n"+end+"\nb\n", end+"\na\n", "a\n"+end+"\n", "a\n"+end+"\n\nb\n", "a\n\n"+end+"\nb\n")
		// Ahead and in the midst they may stand.
		areNeat(t, true, end+"a\n", "a"+end+"b\n", "a\n"+end+"b\n", end+"a"+end+"b\n\n"+end+"c\n")
	}
	// Without the byte 10 at the end.
	areNeat(t, false, "a", "a\nb", "a\n\nb", "  a", "a\n  b", "}", strings.Repeat("a\n", 1000)+"b")
	areNeat(t, true, strings.Repeat("a\n", 1000))
}

func TestNeatBytes(t *testing.T) {
	for b := range 256 {
		one := string([]byte{byte(b)})
		isPlain := b >= 32 && b <= 126
		isSeen := b >= 33 && b <= 126
		areNeat(t, isPlain || b == 10, "a"+one+"b\n", "a"+one+"b\nc\n", "c\na"+one+"b\n")
		areNeat(t, isPlain, one+"a\n", one+"a\n\nb\n", "a\n\n"+one+"b\n")
		areNeat(t, isSeen, one+"\n", "a"+one+"\n", "a\n"+one+"\n")
		areNeat(t, isSeen || b == 10, "a"+one+"\nb\n")
		areNeat(t, isSeen, "a\n"+one+"\nb\n")
		areNeat(t, b == 10, "a"+one)
		areNeat(t, false, one)
	}
	for _, text := range []string{"\x00", "\t", "\r", "\x1f", "\x7f", "\x80", "\xff", "\u00e9", "\u00a0", "\u2028", "\u200b"} {
		areNeat(t, false, "a\n"+text+"\nb\n", "a"+text+"b\n", "a"+text+"\n", text+"a\n", "a\n"+text, text)
	}
	areNeat(t, false, "a\r\nb\r\n", "a\r\n", "\ta\n", "a\t\n", "a\n\t\nb\n")
	areNeat(t, true, "!\n", "~\n", " !\n", "'\n", "~ ~\n")
}

func TestNeatSmallTexts(t *testing.T) {
	neat := 0
	eachSmallText(func(text string) {
		neatIs(t, text, neatForm.MatchString(text))
		if impl.Neat(text) {
			neat++
		}
	})
	if neat < 50 {
		t.Errorf("only %d are neat", neat)
	}
}

func TestNeatLongTexts(t *testing.T) {
	// The first line of it is empty.
	text := longText()
	areNeat(t, false, text, text+"\n", text+" ")
	areNeat(t, true, text[1:], strings.ReplaceAll(text[1:], "\n", "\n\n")+"x\n", strings.Repeat(text[1:], 50))
	areNeat(t, false, strings.Repeat(text, 50), strings.Repeat(text[1:], 50)+"\n", strings.Repeat(text[1:], 50)+" ")
	line := strings.Repeat("x", 200000)
	areNeat(t, true, line+"\n", line+"\n\n"+line+"\n")
	areNeat(t, false, line, line+" \n", line+"\x1f\n", line+"\n\n\n"+line+"\n")
}

func TestNeatAnyText(t *testing.T) {
	neat := 0
	for seed := range int64(20000) {
		chance := rand.New(rand.NewSource(seed))
		var text strings.Builder
		for range chance.Intn(8) {
			text.WriteString([]string{"a\n", "a\n", "  b\n", "c d\n", "a\n\nb\n", "\n", "e", " ", "\x1f", "\x7f"}[chance.Intn(7+3*int(seed%2))])
		}
		neatIs(t, text.String(), neatForm.MatchString(text.String()))
		if impl.Neat(text.String()) {
			neat++
		}
	}
	if neat < 2000 {
		t.Errorf("only %d are neat", neat)
	}
}

func TestFittingByHand(t *testing.T) {
	for _, c := range []struct {
		text  string
		width int
	}{
		{"", 0}, {"\n", 0}, {"\n\n\n", 0}, {"a", 1}, {"a\n", 1}, {"\na", 1}, {" ", 1}, {"ab\nc\n", 2}, {"a\nbc\n", 2}, {"a\nbc", 2}, {"a\nbcd\nef\n", 3}, {"   \n", 3}, {"a   \nbc\n", 4}, {"abcd\n\n\n", 4},
		// All bytes count, of any kind.
		{"\t", 1}, {"a\r\n", 2}, {"\x00\xff\x7f", 3}, {"\u00e9\n", 2}, {"\u2028a\nb", 4},
		{"var a = 1;\nmain(b) {\n  if (b) {\n    f(b, b);\n  }\n  return;\n}\n", 12},
		{longText(), 119}, {strings.Repeat("x", 200000), 200000}, {strings.Repeat("x\n", 200000), 1}, {blanks(3000) + "\n" + blanks(3001), 3001},
	} {
		fittingIs(t, c.text, c.width)
	}
}

func TestFittingOfTheDocument(t *testing.T) {
	text, _, _ := impl.Format("var a = 1; main(b) { if (b) { f(b, b); } return; }", 40, 100)
	for width := range 41 {
		if impl.Fitting(text, width) != (width >= 12) {
			t.Errorf("Fitting(%q, %d) is %v", text, width, width < 12)
		}
	}
}

func TestFittingSmallTexts(t *testing.T) {
	eachSmallText(func(text string) {
		for width := -2; width < 8; width++ {
			if impl.Fitting(text, width) != (widestByBytes(text) <= width) {
				t.Fatalf("Fitting(%q, %d) is %v", text, width, !impl.Fitting(text, width))
			}
		}
	})
}

func TestTrueSearchOfTheDocument(t *testing.T) {
	for width := -1; width < 20; width++ {
		for budget := -1; budget < 12; budget++ {
			isTrueSearch(t, tiedByHand(), width, budget)
		}
		isTrueSearch(t, tiedByHand(), width, 100)
	}
}

// isTrueAtAll asks at odd widths and budgets, and at just enough of it and one less.
func isTrueAtAll(t *testing.T, p impl.Piece) {
	t.Helper()
	for _, width := range append([]int{1, 3, 12, 40, 80}, oddWidths...) {
		popped, _ := searchByWord(p, width)
		count := len(popped)
		_, just := impl.Search(p, width, count)
		_, less := impl.Search(p, width, count-1)
		if just != impl.StBest || less != impl.StSoFar {
			t.Fatalf("Search(%+v, %d, %d) ends with %d, with one less with %d", p, width, count, just, less)
		}
		for _, budget := range append([]int{count - 1, count, count + 1}, oddBudgets...) {
			isTrueSearch(t, p, width, budget)
		}
	}
}

func TestTrueSearchOfPiecesByHand(t *testing.T) {
	isTrueAtAll(t, pieceByHand())
	isTrueAtAll(t, tiedByHand())
	// Of one rule, with a split and without.
	isTrueAtAll(t, chunksOf(impl.Split{Space: true, Nest: 4}, "first", "second"))
	isTrueAtAll(t, rulesAlone(2))
	isTrueAtAll(t, rulesAlone(3))
	// Of several, with ties one way, both ways, and in a ring.
	isTrueAtAll(t, chunksOf(impl.Split{Nest: 2}, "a", "bb", "ccc", "dddd"))
	isTrueAtAll(t, rulesAlone(2, 3, 2))
	isTrueAtAll(t, tiedRules([]int{2, 3}, impl.Tie{Kid: 0, Up: 1}))
	isTrueAtAll(t, tiedRules([]int{3, 2}, impl.Tie{Kid: 0, Up: 1}, impl.Tie{Kid: 1, Up: 0}))
	isTrueAtAll(t, tiedRules([]int{2, 3, 2}, impl.Tie{Kid: 0, Up: 1}, impl.Tie{Kid: 1, Up: 2}, impl.Tie{Kid: 2, Up: 0}))
	// A dearer rule that makes it shorter.
	isTrueAtAll(t, shorterByRule([]int{0, 3, 1}, 2, 5))
}

// TestTrueSearchWithoutRules has the empty list of values, which is told, and is best.
func TestTrueSearchWithoutRules(t *testing.T) {
	for _, text := range []string{"", "a", "a longer text;"} {
		p := impl.Piece{Indent: 2, Chunks: []impl.Chunk{{Text: text}}}
		isTrueAtAll(t, p)
		if best, _, ok := impl.BestOf(p, 80); len(best) != 0 || !ok {
			t.Errorf("BestOf(%+v, 80) is %v, %v", p, best, ok)
		}
		for budget, state := range []int{impl.StSoFar, impl.StBest} {
			searchIs(t, p, 80, budget, state)
		}
	}
}

func TestTrueSearchOfSmallPieces(t *testing.T) {
	ends := map[int]int{}
	for seed := range int64(300) {
		p := smallPiece(seed)
		for _, width := range []int{0, 4, 8, 16} {
			for _, budget := range []int{0, 1, 3, 7, 15, enough} {
				isTrueSearch(t, p, width, budget)
				_, state := impl.Search(p, width, budget)
				ends[state]++
			}
		}
	}
	if ends[impl.StBest] < 1000 || ends[impl.StSoFar] < 1000 {
		t.Errorf("the searches end as %v", ends)
	}
}

func TestTrueSearchOfAnyPiece(t *testing.T) {
	for seed := range int64(200) {
		p := anyPiece(seed)
		for _, width := range []int{10, 80} {
			for _, budget := range []int{0, 20, 300, enough} {
				isToldTrue(t, p, width, budget)
			}
		}
	}
}

// TestTrueSearchOfPiecesOfTrees has the pieces that are searched where a source is written.
func TestTrueSearchOfPiecesOfTrees(t *testing.T) {
	for _, value := range []string{"a", "f(a, b)", "[a, [b, c]]", "a + b - c * d", "a && (b || c) && d", "a ? b : c ? d : e", "(a, b) => f(a)(b)", "a..f(b)..g(c, d)"} {
		nodes, k := valueIn(t, value)
		for _, pre := range []string{"", "var v =", "return "} {
			p, ok := impl.PieceOf(nodes, k, pre, ";", 2)
			if !ok {
				t.Fatalf("%q has no piece", value)
			}
			for width := range 30 {
				for _, budget := range []int{0, 1, 2, 5, 10, 30, 100, enough} {
					isTrueSearch(t, p, width, budget)
				}
			}
		}
	}
}

func TestTrueSearchAtTheLimits(t *testing.T) {
	p := fullPiece(3)
	for _, width := range []int{0, 110, math.MaxInt, math.MinInt} {
		for _, budget := range oddBudgets {
			isToldTrue(t, p, width, budget)
		}
	}
	p = rulesAlone(slices.Repeat([]int{3}, impl.MaxRules)...)
	for _, budget := range oddBudgets {
		isToldTrue(t, p, 80, budget)
	}
	// Lines that are by far too long.
	p = chunksOf(impl.Split{}, strings.Repeat("x", 100001), strings.Repeat("y", 100002))
	for _, width := range oddWidths {
		for _, budget := range []int{0, 2, 3, enough} {
			isTrueSearch(t, p, width, budget)
		}
	}
}

// TestTrueSearchOfPiecesThatAreNotRight has nothing to be told, which is as it must be.
func TestTrueSearchOfPiecesThatAreNotRight(t *testing.T) {
	for why, p := range notRight() {
		if _, _, ok := impl.BestOf(p, 80); ok || pieceByWord(p) {
			t.Errorf("%s is right", why)
		}
		for _, width := range append([]int{3, 80}, oddWidths...) {
			for _, budget := range oddBudgets {
				isTrueSearch(t, p, width, budget)
			}
		}
	}
	for _, p := range []impl.Piece{
		// With too many lists of values, or with rules that have none.
		rulesAlone(slices.Repeat([]int{3}, impl.MaxRules+1)...), rulesAlone(slices.Repeat([]int{3}, 300)...), rulesAlone(math.MaxInt), rulesAlone(slices.Repeat([]int{math.MaxInt}, 8)...),
		rulesAlone(math.MinInt), rulesAlone(0), rulesAlone(-1, 2), rulesAloneWithout(), rulesAloneWithout(2, 3), tiedRules([]int{2}, impl.Tie{}), tiedRules(nil, impl.Tie{Kid: 0, Up: 1}),
		{Chunks: []impl.Chunk{{Text: "a"}}, Spans: []impl.Span{{}}}, {Chunks: []impl.Chunk{{Text: "a"}, {Text: "b"}}},
	} {
		for _, budget := range oddBudgets {
			isTrueSearch(t, p, 80, budget)
		}
	}
}

func TestTrueSearchOfTurnedPieces(t *testing.T) {
	rights := map[bool]int{}
	for seed := range int64(20) {
		p := smallPiece(seed)
		if seed == 0 {
			p = pieceByHand()
		}
		for _, place := range numbersIn(&p) {
			held := *place
			for _, odd := range oddNumbers {
				*place = odd
				for _, budget := range []int{0, 5, enough} {
					isTrueSearch(t, p, 12, budget)
				}
				rights[pieceByWord(p)]++
			}
			*place = held
		}
	}
	if rights[true] < 100 || rights[false] < 100 {
		t.Errorf("they are right as %v", rights)
	}
}

func TestNothingIsLostInManySources(t *testing.T) {
	for _, source := range append(manySources(), someSources()...) {
		for _, width := range []int{leastWidth, 15, 20, 40, 80, widest} {
			for _, budget := range []int{0, 1, 10, enough} {
				isWellWritten(t, source, width, budget)
			}
		}
	}
}

func TestNothingIsLostAtEachWidth(t *testing.T) {
	for width := leastWidth; width <= widest; width++ {
		for _, budget := range []int{0, 7, enough} {
			if !isWellWritten(t, pointSource, width, budget) {
				t.Fatalf("with the width %d and the budget %d it is not written", width, budget)
			}
		}
		// With room to try, what can be split fits in each width that the longest line that can't be split has.
		text, _, _ := impl.Format(pointSource, width, enough)
		if impl.Fitting(text, width) != (widestByBytes(text) <= width) || width >= 40 && !impl.Fitting(text, width) {
			t.Errorf("with the width %d there is written\n%s", width, text)
		}
	}
}

// TestNeatWithEmptyLinesAtTheEnds has sources with empty lines wherever they may stand: in what is written there are none at the ends.
func TestNeatWithEmptyLinesAtTheEnds(t *testing.T) {
	for _, gap := range []string{"\n", "\n\n", "\n\n\n\n", "\n  \n", "  \n \n   \n"} {
		source := gap + "// a" + gap + "\nclass C {" + gap + "var b;" + gap + "m() {" + gap + "// c " + gap + "\nif (d) {" + gap + "return;" + gap + "} else {" + gap + "}" + gap + "}" + gap + "}" + gap + "// e   " + gap
		for _, width := range []int{leastWidth, 80} {
			for _, budget := range []int{0, enough} {
				if !isWellWritten(t, source, width, budget) {
					t.Fatalf("%q is not written", source)
				}
			}
		}
		areNeat(t, false, source)
	}
}

func TestNothingIsLostInAnySource(t *testing.T) {
	written, others := 0, 0
	for seed := range int64(500) {
		source := anySource(seed).out.String()
		keptIs(t, source, source, true)
		for i, width := range []int{leastWidth, 25, 80, widest} {
			if isWellWritten(t, source, width, []int{enough, 0, 20, mostBudget}[(int(seed)+i)%4]) {
				written++
			}
		}
		if !keptIsByWord(t, source, anySource(seed+1).out.String()) {
			others++
		}
	}
	if written < 1900 || others < 400 {
		t.Errorf("%d are written, %d are others", written, others)
	}
}

// byChance has as many sources, made once, as making one takes long.
func byChance(count int) []string {
	sources := []string{}
	for seed := range count {
		sources = append(sources, anySource(int64(seed)).out.String())
	}
	return sources
}

func TestKeptOfTurnedSources(t *testing.T) {
	read, same, other := 0, 0, 0
	sources := byChance(300)
	for seed := range int64(2500) {
		chance := rand.New(rand.NewSource(seed))
		source := sources[seed%300]
		turned := turnedByte(chance, source)
		_, _, ok := impl.ReadSource(turned)
		keptIs(t, turned, turned, ok)
		if ok {
			read++
			isWellWritten(t, turned, leastWidth+chance.Intn(60), chance.Intn(40))
		}
		switch kept := keptIsByWord(t, source, turned); {
		case kept:
			same++
		case ok:
			other++
		}
	}
	if read < 500 || same < 100 || other < 150 {
		t.Errorf("%d are read, %d are the same, %d are others", read, same, other)
	}
}

// TestKeptOfSignsTurned leaves out, doubles, changes and swaps whole signs.
func TestKeptOfSignsTurned(t *testing.T) {
	read, same := 0, 0
	sources := byChance(300)
	for seed := range int64(2000) {
		chance := rand.New(rand.NewSource(seed))
		texts := textsIn(sources[seed%300])
		if len(texts) == 0 {
			continue
		}
		source, at := spaced(texts), chance.Intn(len(texts))
		switch turned := slices.Clone(texts); chance.Intn(4) {
		case 0:
			texts = slices.Delete(turned, at, at+1)
		case 1:
			texts = slices.Insert(turned, at, turned[at])
		case 2:
			turned[at] = []string{"a", "1", "'a'", "// a", ",", "+", "-", "(", ")", ";"}[chance.Intn(10)]
			texts = turned
		case 3:
			with := chance.Intn(len(turned))
			turned[at], turned[with] = turned[with], turned[at]
			texts = turned
		}
		if _, _, ok := impl.ReadSource(spaced(texts)); ok {
			read++
		}
		if keptIsByWord(t, source, spaced(texts)) {
			same++
		}
	}
	if read < 150 || same < 30 || same > read {
		t.Errorf("%d are read, %d are the same", read, same)
	}
}

func TestTruthsOfSmallTexts(t *testing.T) {
	eachSignText(func(text string) {
		_, _, ok := impl.ReadSource(text)
		if impl.Kept(text, text) != ok {
			t.Fatalf("Kept(%q, %q) is %v", text, text, !ok)
		}
		if impl.Neat(text) != neatForm.MatchString(text) {
			t.Fatalf("Neat(%q) is %v", text, impl.Neat(text))
		}
	})
}

func TestTruthsOfAnyBytes(t *testing.T) {
	for seed := range int64(4000) {
		chance := rand.New(rand.NewSource(seed))
		list := make([]byte, chance.Intn(60))
		for i := range list {
			list[i] = byte(chance.Intn([]int{128, 256}[seed%2]))
		}
		text := string(list)
		keptIsByWord(t, text, text)
		keptIsByWord(t, text, "var a;")
		neatIs(t, text, neatForm.MatchString(text))
		fittingIs(t, text, widestByBytes(text))
	}
}

func TestTruthsLeaveAllAsItIs(t *testing.T) {
	p := roomyPiece()
	held := heldWithRoom(t, p, withRoom([]int{1}))
	for _, width := range []int{0, 12, 80} {
		for _, budget := range []int{0, 5, enough} {
			isToldTrue(t, p, width, budget)
			held()
		}
	}
}

// keepNothing asks for the same things in another order, and all at once.
func keepNothing[T any](t *testing.T, asks []func() T) {
	t.Helper()
	answers, later := make([]T, len(asks)), make([]T, len(asks))
	for i, ask := range asks {
		answers[i] = ask()
	}
	for i := len(asks) - 1; i >= 0; i-- {
		if again := asks[i](); !reflect.DeepEqual(again, answers[i]) {
			t.Errorf("the question %d is answered with %v, then with %v", i, answers[i], again)
		}
	}
	var all sync.WaitGroup
	for i, ask := range asks {
		all.Go(func() { later[i] = ask() })
	}
	all.Wait()
	if !reflect.DeepEqual(later, answers) {
		t.Error("asked all at once, they are answered in another way")
	}
}

func TestTruthsKeepNothing(t *testing.T) {
	texts := []string{"", "\n", "var a;", "var a;\n", "var a;\n\nvar b;\n", "var a; \n", "$", pointSource, blanks(impl.MaxSource + 1)}
	asks := []func() bool{}
	for i, text := range texts {
		asks = append(asks, func() bool { return impl.Neat(text) }, func() bool { return impl.Fitting(text, 7) })
		for _, other := range texts[i:] {
			asks = append(asks, func() bool { return impl.Kept(text, other) })
		}
	}
	for _, p := range []impl.Piece{{}, pieceByHand(), tiedByHand(), rulesAlone(2, 3)} {
		asks = append(asks, func() bool { return impl.TrueSearch(p, 12, 3) }, func() bool { return impl.TrueSearch(p, 80, enough) })
	}
	keepNothing(t, asks)
}
