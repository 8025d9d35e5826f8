package tests

import (
	"fmt"
	"maps"
	"math"
	"math/rand"
	"slices"
	"strings"
	"testing"

	"loop.example/g00459/impl"
)

// popsByWord counts the states of a search whose list has no order; of a piece with many lists it takes long.
func popsByWord(p impl.Piece, width int) int {
	if !pieceByWord(p) {
		return 0
	}
	popped, _ := searchByWord(p, width)
	return len(popped)
}

func popsIs(t *testing.T, p impl.Piece, width int, budget int, want int) {
	t.Helper()
	if got := impl.PopsOf(p, width, budget); got != want {
		t.Fatalf("PopsOf(%+v, %d, %d) is %d; want %d", p, width, budget, got, want)
	}
}

// popsAre holds how many states a search of a right piece has: with less room as many as there is room for, and Search ends as it must with just so much.
func popsAre(t *testing.T, p impl.Piece, width int, count int) {
	t.Helper()
	for _, budget := range append([]int{count - 2, count - 1, count, count + 1, count + 2}, oddBudgets...) {
		popsIs(t, p, width, budget, max(0, min(budget, count)))
	}
	found, state := impl.Search(p, width, count)
	if state != impl.StBest {
		t.Fatalf("Search(%+v, %d, %d) ends with %d", p, width, count, state)
	}
	for _, budget := range []int{count + 1, count + 7, enough, math.MaxInt} {
		searchIs(t, p, width, max(count, budget), state, found...)
	}
	if _, state := impl.Search(p, width, count-1); state != impl.StSoFar {
		t.Fatalf("Search(%+v, %d, %d) ends with %d", p, width, count-1, state)
	}
}

func popsAreByWord(t *testing.T, p impl.Piece, width int) {
	t.Helper()
	popsAre(t, p, width, popsByWord(p, width))
}

func nothingPops(t *testing.T, why string, p impl.Piece) {
	t.Helper()
	for _, width := range append([]int{3, 80}, oddWidths...) {
		for _, budget := range oddBudgets {
			if got := impl.PopsOf(p, width, budget); got != 0 {
				t.Fatalf("PopsOf with %s, the width %d and the budget %d is %d", why, width, budget, got)
			}
		}
	}
}

// stepsBySigns goes by the signs, and knows of each `{` whether a class begins with it: a statement in a block has a `;`, or is an `if` or a `while`.
func stepsBySigns(signs []impl.Sign) int {
	steps, ahead, inBlock := 0, "", []bool{false}
	for i, sign := range signs {
		if i > 1 {
			ahead = signs[i-2].Text
		}
		switch sign.Text {
		case "{":
			inBlock = append(inBlock, ahead != "class")
		case "}":
			inBlock = inBlock[:len(inBlock)-1]
		case "if", "while":
			steps++
		case ";":
			if inBlock[len(inBlock)-1] {
				steps++
			}
		}
	}
	return steps
}

// measureByWord counts by lines and signs; the depth alone is that of the tree.
func measureByWord(source string) impl.Measure {
	nodes, _, ok := impl.ReadSource(source)
	if !ok {
		return impl.Measure{}
	}
	signs, _, _ := signsByForms(source)
	return impl.Measure{
		Lines:   len(linesByBytes(source)),
		Widest:  widestByBytes(source),
		Members: len(rangesByWord(source)),
		Steps:   stepsBySigns(signs),
		Deep:    deepByWord(nodes, len(nodes)-1),
		Notes:   len(notesByHand(signs)),
	}
}

// bytesIn tells how often each byte stands in a text, but the blank and the byte 10.
func bytesIn(text string) map[byte]int {
	counts := map[byte]int{}
	for i := range len(text) {
		if text[i] != 32 && text[i] != 10 {
			counts[text[i]]++
		}
	}
	return counts
}

func bytesByWord(text string) int {
	sum := 0
	for _, count := range bytesIn(text) {
		sum += count
	}
	return sum
}

func bytesAre(t *testing.T, text string, want int) {
	t.Helper()
	if got := impl.Bytes(text); got != want || bytesByWord(text) != want {
		t.Fatalf("Bytes(%.200q) is %d, by word %d; want %d", text, got, bytesByWord(text), want)
	}
}

// isMeasured holds both measures of a text by the chapter's words; it tells whether the text is a source.
func isMeasured(t *testing.T, text string) bool {
	t.Helper()
	want := measureByWord(text)
	if got := impl.MeasureOf(text); got != want {
		t.Fatalf("MeasureOf(%q) is %+v; want %+v", text, got, want)
	}
	bytesAre(t, text, bytesByWord(text))
	return want != impl.Measure{}
}

func measureIs(t *testing.T, source string, want impl.Measure) {
	t.Helper()
	if got := impl.MeasureOf(source); got != want {
		t.Errorf("MeasureOf(%q) is %+v; want %+v", source, got, want)
	}
	isMeasured(t, source)
}

// isNotMeasured is for what is no source: that of a source is never all 0, as a file is 1 deep.
func isNotMeasured(t *testing.T, texts ...string) {
	t.Helper()
	for _, text := range texts {
		measureIs(t, text, impl.Measure{})
	}
}

// writtenIsMeasured is promise 21 of what Format makes; it tells whether there is any.
func writtenIsMeasured(t *testing.T, source string, width int, budget int) bool {
	t.Helper()
	text, _, code := impl.Format(source, width, budget)
	if code != 0 {
		return false
	}
	isMeasured(t, text)
	nodes, _, _ := impl.ReadSource(source)
	was, is, lines := impl.MeasureOf(source), impl.MeasureOf(text), impl.WriteFile(nodes, width, budget).Lines
	was.Lines, was.Widest = len(lines), widestByBytes(strings.Join(lines, "\n"))
	if is != was {
		t.Fatalf("%q is written as %q, which is measured as %+v; want %+v", source, text, is, was)
	}
	signs, _, _ := signsByForms(source)
	ends := len(signs) - len(signsWithoutEnds(signs))
	want, got := bytesIn(source), bytesIn(text)
	if want[','] -= ends; want[','] == 0 {
		delete(want, ',')
	}
	if impl.Bytes(text) != impl.Bytes(source)-ends || !maps.Equal(got, want) {
		t.Fatalf("%q is written as %q: the bytes are %v; want %v", source, text, got, want)
	}
	return true
}

func TestMeasuresOfTheDocument(t *testing.T) {
	source := "var a = 1; main(b) { if (b) { f(b, b); } return; }"
	measureIs(t, source, impl.Measure{Lines: 1, Widest: len(source), Members: 2, Steps: 3, Deep: 8})
	bytesAre(t, source, 37)
	text, _, _ := impl.Format(source, 40, enough)
	measureIs(t, text, impl.Measure{Lines: 7, Widest: 12, Members: 2, Steps: 3, Deep: 8})
	bytesAre(t, text, 37)
	popsAre(t, tiedByHand(), 12, 7)
	popsIs(t, tiedByHand(), 12, 2, 2)
	bytesAre(t, " a\nb ", 2)
}

func TestPopsByHand(t *testing.T) {
	for _, c := range []struct{ width, count int }{{7, 7}, {12, 7}, {13, 4}} {
		popsAre(t, tiedByHand(), c.width, c.count)
		popsAreByWord(t, tiedByHand(), c.width)
	}
	for _, c := range []struct{ width, count int }{{0, 7}, {4, 7}, {8, 6}, {9, 5}, {80, 5}} {
		popsAre(t, chunksOf(impl.Split{}, "aaaa", "b", "cccc"), c.width, c.count)
	}
	popsAre(t, shorterByRule([]int{1, 2, 5}, 1, 2), 0, 15)
	// A tie that is broken leaves out what begins so.
	popsAre(t, tiedRules([]int{2, 2}), 0, 7)
	popsAre(t, tiedRules([]int{2, 2}, impl.Tie{Kid: 1, Up: 0}), 0, 6)
	popsAre(t, tiedRules([]int{2, 2}, impl.Tie{Kid: 0, Up: 1}), 0, 6)
	popsAre(t, tiedRules([]int{2, 2}, impl.Tie{Kid: 0, Up: 1}, impl.Tie{Kid: 1, Up: 0}), 0, 5)
	// A span makes what is split dearer, so that less is pushed.
	p := chunksOf(impl.Split{}, "a", "b", "c")
	p.Rules[0].Cost, p.Rules[1].Cost = 0, 0
	popsAre(t, p, 80, 7)
	p.Spans = []impl.Span{{From: 0, To: 0, Cost: 1}}
	popsAre(t, p, 80, 5)
}

// A piece without rules has one list of values, which is empty: the state of no values has all.
func TestPopsWithoutRules(t *testing.T) {
	for _, p := range []impl.Piece{rulesAlone(), {Chunks: []impl.Chunk{{}}}, {Indent: 60, Chunks: []impl.Chunk{{Text: "a + b;"}}}} {
		for _, width := range append([]int{8, 66}, oddWidths...) {
			popsAre(t, p, width, 1)
		}
	}
}

func TestPopsOfAllLists(t *testing.T) {
	popsAre(t, rulesAlone(2), 0, 3)
	popsAre(t, rulesAlone(3), 0, 4)
	popsAre(t, rulesAlone(2, 3), 0, 1+2+6)
	popsAre(t, rulesAlone(3, 2), 0, 1+3+6)
	popsAre(t, rulesAlone(slices.Repeat([]int{2}, impl.MaxRules)...), 0, 511)
	popsAre(t, rulesAlone(slices.Repeat([]int{3}, impl.MaxRules)...), 0, enough)
	p := fullPiece(5)
	p.Ties = nil
	popsAre(t, p, 0, enough)
}

func TestPopsAtEachBudget(t *testing.T) {
	for _, p := range []impl.Piece{tiedByHand(), pieceByHand(), rulesAlone(2, 3, 2), chunksOf(impl.Split{Space: true, Nest: 4}, "first", "second", "third")} {
		for _, width := range []int{0, 9, 12, 16, 22, 80} {
			count := popsByWord(p, width)
			for budget := -3; budget <= count+3; budget++ {
				popsIs(t, p, width, budget, max(0, min(budget, count)))
			}
			popsAre(t, p, width, count)
		}
	}
}

func TestPopsAtOddWidths(t *testing.T) {
	for seed := range int64(40) {
		p := smallPiece(seed)
		for _, width := range oddWidths {
			popsAreByWord(t, p, width)
		}
	}
}

// TestPopsOfPiecesOfTrees has the pieces that are searched where a source is written, with their ties and spans.
func TestPopsOfPiecesOfTrees(t *testing.T) {
	ties, spans := 0, 0
	for _, value := range []string{"a", "f()", "f(a, b)", "[a, [b, c]]", "a + b - c * d", "a && (b || c) && d", "a ? b : c ? d : e", "(a, b) => f(a)(b)", "a..f(b)..g(c, d)"} {
		nodes, k := valueIn(t, value)
		for _, pre := range []string{"", "var v =", "return "} {
			p, ok := impl.PieceOf(nodes, k, pre, ";", 2)
			if !ok {
				t.Fatalf("%q has no piece", value)
			}
			ties, spans = ties+len(p.Ties), spans+len(p.Spans)
			for _, width := range []int{leastWidth, 16, 24, widest} {
				popsAreByWord(t, p, width)
			}
		}
	}
	if ties < 5 || spans < 5 {
		t.Errorf("there are %d ties and %d spans", ties, spans)
	}
}

func TestPopsOfSmallPieces(t *testing.T) {
	counts := map[int]bool{}
	for seed := range int64(700) {
		p := smallPiece(seed)
		for _, width := range []int{0, int(seed % 23), 60} {
			popsAreByWord(t, p, width)
			counts[impl.PopsOf(p, width, math.MaxInt)] = true
		}
	}
	if len(counts) < 40 {
		t.Errorf("there are only %d counts", len(counts))
	}
}

// TestPopsOfAnyPiece holds the count against Search alone.
func TestPopsOfAnyPiece(t *testing.T) {
	for seed := range int64(120) {
		p := anyPiece(seed)
		chance := rand.New(rand.NewSource(seed))
		width := chance.Intn(200)
		count := impl.PopsOf(p, width, math.MaxInt)
		if count < 1+len(p.Rules) || count > enough {
			t.Fatalf("PopsOf(%+v, %d, ..) is %d", p, width, count)
		}
		popsAre(t, p, width, count)
		for range 10 {
			budget := chance.Intn(2*count) - 3
			popsIs(t, p, width, budget, max(0, min(budget, count)))
		}
	}
}

func TestPopsOfPiecesThatAreNotRight(t *testing.T) {
	for why, p := range notRight() {
		nothingPops(t, why, p)
	}
	nothingPops(t, "one rule too many", rulesAlone(slices.Repeat([]int{2}, impl.MaxRules+1)...))
	nothingPops(t, "many rules", rulesAlone(slices.Repeat([]int{3}, 300)...))
	nothingPops(t, "a rule of the greatest Values", rulesAlone(math.MaxInt))
	nothingPops(t, "a rule of the least Values", rulesAlone(math.MinInt))
	nothingPops(t, "no chunks", rulesAloneWithout(2, 3))
	nothingPops(t, "no rules and a tie", tiedRules(nil, impl.Tie{}))
	nothingPops(t, "one chunk and a span", impl.Piece{Chunks: []impl.Chunk{{Text: "a"}}, Spans: []impl.Span{{}}})
}

func TestPopsOfTurnedPieces(t *testing.T) {
	rights := map[bool]int{}
	for seed := range int64(12) {
		p := smallPiece(seed)
		if seed == 0 {
			p = pieceByHand()
		}
		for _, place := range numbersIn(&p) {
			held := *place
			for _, odd := range oddNumbers {
				*place = odd
				count := popsByWord(p, 12)
				for _, budget := range []int{-1, 0, 1, 5, enough} {
					popsIs(t, p, 12, budget, max(0, min(budget, count)))
				}
				rights[pieceByWord(p)]++
			}
			*place = held
		}
	}
	if rights[true] < 100 || rights[false] < 100 {
		t.Errorf("they are right as %v", rights)
	}
}

func TestMeasureByHand(t *testing.T) {
	measureIs(t, pointSource, impl.Measure{Lines: 19, Widest: 121, Members: 5, Steps: 9, Deep: 9, Notes: 3})
	text, _, _ := impl.Format(pointSource, 80, enough)
	measureIs(t, text, impl.Measure{Lines: 27, Widest: 54, Members: 5, Steps: 9, Deep: 9, Notes: 3})
	measureIs(t, "class C{var a;m(b){return b;}}", impl.Measure{Lines: 1, Widest: 30, Members: 1, Steps: 1, Deep: 6})
	measureIs(t, "class C {\n  var a;\n\n  m(b) {\n    while (b) {\n      // n\n      b = f(b);\n    }\n  }\n}\n", impl.Measure{Lines: 10, Widest: 15, Members: 1, Steps: 2, Deep: 9, Notes: 1})
	measureIs(t, "m(){var a;var b=c;d=e;f;return;return g;if(h){}while(i){}// n\n}", impl.Measure{Lines: 2, Widest: 61, Members: 1, Steps: 8, Deep: 5, Notes: 1})
}

func TestMeasureMembers(t *testing.T) {
	measureIs(t, "class A{}class B{}// n\nvar a;m(){}class C{}", impl.Measure{Lines: 2, Widest: 22, Members: 6, Deep: 3, Notes: 1})
	// The members of a class are none of the file.
	measureIs(t, "class C{var a;var b;m(){}// n\n}", impl.Measure{Lines: 2, Widest: 29, Members: 1, Deep: 4, Notes: 1})
	for count := range 13 {
		measureIs(t, strings.Repeat("var a;\n", count), impl.Measure{Lines: count, Widest: min(6, 6*count), Members: count, Deep: min(2, 1+count)})
		measureIs(t, strings.Repeat("//\n", count), impl.Measure{Lines: count, Widest: min(2, 2*count), Members: count, Deep: min(2, 1+count), Notes: count})
		if count > 0 {
			measureIs(t, "class C{"+strings.Repeat("m(){}", count)+"}", impl.Measure{Lines: 1, Widest: 9 + 5*count, Members: 1, Deep: 4})
		}
	}
	isNotMeasured(t, strings.Repeat("var a;\n", 13), strings.Repeat("//\n", 13))
}

func TestMeasureVariables(t *testing.T) {
	measureIs(t, "var a;", impl.Measure{Lines: 1, Widest: 6, Members: 1, Deep: 2})
	measureIs(t, "class C{var a;}", impl.Measure{Lines: 1, Widest: 15, Members: 1, Deep: 3})
	measureIs(t, "m(){var a;}", impl.Measure{Lines: 1, Widest: 11, Members: 1, Steps: 1, Deep: 4})
	measureIs(t, "class C{m(){var a;}}", impl.Measure{Lines: 1, Widest: 20, Members: 1, Steps: 1, Deep: 5})
	measureIs(t, "var a;m(){var b;var c=d;}var e;", impl.Measure{Lines: 1, Widest: 31, Members: 3, Steps: 2, Deep: 5})
	measureIs(t, "class C{var a;m(){var b;if(c){var d;}}var e;}var f;", impl.Measure{Lines: 1, Widest: 51, Members: 2, Steps: 3, Deep: 7})
}

func TestMeasureNotes(t *testing.T) {
	measureIs(t, "// n", impl.Measure{Lines: 1, Widest: 4, Members: 1, Deep: 2, Notes: 1})
	measureIs(t, "class C{// n\n}", impl.Measure{Lines: 2, Widest: 12, Members: 1, Deep: 3, Notes: 1})
	measureIs(t, "m(){// n\n}", impl.Measure{Lines: 2, Widest: 8, Members: 1, Deep: 4, Notes: 1})
	measureIs(t, "//\nclass C{//\n//\nm(){//\na;//\nif(b){//\n}else{//\n}//\n}//\n}//", impl.Measure{Lines: 10, Widest: 10, Members: 3, Steps: 2, Deep: 7, Notes: 10})
	// What stands in a note, or in a text, is no statement, no member and no note.
	measureIs(t, "m(){// if(a){b;} // c\n}// }", impl.Measure{Lines: 2, Widest: 21, Members: 2, Deep: 4, Notes: 2})
	measureIs(t, "m(){a='};{// if';}", impl.Measure{Lines: 1, Widest: 18, Members: 1, Steps: 1, Deep: 5})
}

func TestMeasureBranches(t *testing.T) {
	measureIs(t, "m(){if(a){b;}else{c;d;}}", impl.Measure{Lines: 1, Widest: 24, Members: 1, Steps: 4, Deep: 7})
	measureIs(t, "m(){if(a){}else{b;}}", impl.Measure{Lines: 1, Widest: 20, Members: 1, Steps: 2, Deep: 7})
	measureIs(t, "m(){if(a){if(b){c;}else{d;}}else{while(e){f;g;}}}", impl.Measure{Lines: 1, Widest: 49, Members: 1, Steps: 7, Deep: 9})
	// Empty blocks.
	measureIs(t, "m(){}", impl.Measure{Lines: 1, Widest: 5, Members: 1, Deep: 3})
	measureIs(t, "m(){if(a){}}", impl.Measure{Lines: 1, Widest: 12, Members: 1, Steps: 1, Deep: 5})
	measureIs(t, "m(){if(a){}else{}}", impl.Measure{Lines: 1, Widest: 18, Members: 1, Steps: 1, Deep: 5})
	measureIs(t, "m(){while(a){}}", impl.Measure{Lines: 1, Widest: 15, Members: 1, Steps: 1, Deep: 5})
	measureIs(t, "m(){\n\n}n(a,b){\n//\n}", impl.Measure{Lines: 5, Widest: 8, Members: 2, Deep: 4, Notes: 1})
	for count := range 13 {
		measureIs(t, "m(){"+strings.Repeat("a;", count)+"}", impl.Measure{Lines: 1, Widest: 5 + 2*count, Members: 1, Steps: count, Deep: min(5, 3+2*count)})
	}
	isNotMeasured(t, "m(){"+strings.Repeat("a;", 13)+"}")
}

func TestMeasureLines(t *testing.T) {
	measureIs(t, "", impl.Measure{Deep: 1})
	measureIs(t, " ", impl.Measure{Lines: 1, Widest: 1, Deep: 1})
	measureIs(t, "\n", impl.Measure{Lines: 1, Deep: 1})
	measureIs(t, "\n\n  \n", impl.Measure{Lines: 3, Widest: 2, Deep: 1})
	for source, lines := range map[string]int{"var a;": 1, "var a;\n": 1, "var a;\n\n": 2, "var a;\n\n\n": 3, "var a;\n ": 2, "var a;\n \n": 2, "\nvar a;": 2, "\n\nvar a;\n": 3} {
		measureIs(t, source, impl.Measure{Lines: lines, Widest: 6, Members: 1, Deep: 2})
	}
	measureIs(t, "var\na\n;", impl.Measure{Lines: 3, Widest: 3, Members: 1, Deep: 2})
	measureIs(t, "var\n\na\n;\n\n\n", impl.Measure{Lines: 6, Widest: 3, Members: 1, Deep: 2})
	// Blanks at the end of a line are bytes of it, and so are those of a line of blanks alone.
	measureIs(t, "var a;   ", impl.Measure{Lines: 1, Widest: 9, Members: 1, Deep: 2})
	measureIs(t, "   var a;\n", impl.Measure{Lines: 1, Widest: 9, Members: 1, Deep: 2})
	measureIs(t, "var a;\n         \nvar b;", impl.Measure{Lines: 3, Widest: 9, Members: 2, Deep: 2})
	measureIs(t, "// n   \n", impl.Measure{Lines: 1, Widest: 7, Members: 1, Deep: 2, Notes: 1})
}

func TestMeasureAtTheLimits(t *testing.T) {
	room := impl.MaxSource - len("var a;")
	for source, want := range map[string]impl.Measure{
		blanks(impl.MaxSource):                         {Lines: 1, Widest: impl.MaxSource, Deep: 1},
		strings.Repeat("\n", impl.MaxSource):           {Lines: impl.MaxSource, Deep: 1},
		"var a;" + blanks(room):                        {Lines: 1, Widest: impl.MaxSource, Members: 1, Deep: 2},
		strings.Repeat("\n", room) + "var a;":          {Lines: room + 1, Widest: 6, Members: 1, Deep: 2},
		"var a;//" + strings.Repeat("n", room-2):       {Lines: 1, Widest: impl.MaxSource, Members: 2, Deep: 2, Notes: 1},
		"var a='" + strings.Repeat("x", room-3) + "';": {Lines: 1, Widest: impl.MaxSource, Members: 1, Deep: 3},
	} {
		if len(source) != impl.MaxSource {
			t.Fatalf("%.20q has %d bytes", source, len(source))
		}
		measureIs(t, source, want)
		isNotMeasured(t, source+" ", source+"\n", " "+source)
	}
	for _, size := range []int{1, 2, 28, 299, impl.MaxNodes} {
		if source := wideSource(size); !isMeasured(t, source) {
			t.Errorf("%q is not measured", source)
		}
	}
	isNotMeasured(t, wideSource(impl.MaxNodes+1))
}

func TestMeasureTheDeepest(t *testing.T) {
	for count := range 12 {
		source := "var v = " + inOneAnother("(", "a", ")", count) + ";"
		measureIs(t, source, impl.Measure{Lines: 1, Widest: 10 + 2*count, Members: 1, Deep: 3 + count})
	}
	isNotMeasured(t, "var v = "+inOneAnother("(", "a", ")", 12)+";")
	for count := 1; count < 6; count++ {
		source := "m() {" + inOneAnother("if (a) {", "", "}", count) + "}"
		measureIs(t, source, impl.Measure{Lines: 1, Widest: 6 + 9*count, Members: 1, Steps: count, Deep: 3 + 2*count})
		measureIs(t, "class C {"+source+"}", impl.Measure{Lines: 1, Widest: 16 + 9*count, Members: 1, Steps: count, Deep: 4 + 2*count})
	}
	isNotMeasured(t, "m() {"+inOneAnother("if (a) {", "", "}", 6)+"}")
	measureIs(t, "class C { m() {"+inOneAnother("while (a) {", "return b;", "}", 4)+"} }", impl.Measure{Lines: 1, Widest: 75, Members: 1, Steps: 5, Deep: 14})
	isNotMeasured(t, "class C { m() {"+inOneAnother("while (a) {", "return b;", "}", 5)+"} }")
}

func TestMeasureOfWhatIsNoSource(t *testing.T) {
	isNotMeasured(t, "$", "\xff", "\x00", "\t", "\r\n", "var", "var a", "var a = ;", "var a; var", "var a; $", "var a;\r\n", "m() {", "m() { } }", "class C { class D { } }", "if (a) { }", "return;", "a;", "'", "// \xe9", "var a = b // n\n;", blanks(impl.MaxSource+1), strings.Repeat("var a;", impl.MaxSource))
	for _, b := range letters(allBytes()) {
		for _, text := range []string{b, "var a;" + b, b + "var a;", "var a='" + b + "';", "//" + b, "m(){//" + b + "\nb;}"} {
			isMeasured(t, text)
		}
	}
}

func TestBytesByHand(t *testing.T) {
	for text, want := range map[string]int{
		"": 0, " ": 0, "\n": 0, " \n \n\n ": 0, "a": 1, " a\nb ": 2, "var a;": 5, "var  a ;\n": 5, "m( ){ }": 5,
		// All of a note but its blanks.
		"//": 2, "// ": 2, "// a note": 7, "//  a   b  \n": 4, "// a\n// b\n": 6, "a; // b; c\n": 7, "m() { // n\n}": 8,
		// Blanks in a text are none either.
		"'a b'": 4, "'  '": 2, "var a = 'b // c';": 12,
		// All other bytes count, of any kind.
		"\t": 1, "\r\n": 1, "\x00\x00": 2, "\x7f\x80\xff": 3, "\u00e9": 2, "\u2028 \u00a0": 5, "\x0b\x0c\x1f": 3, "$ is no source": 11,
	} {
		bytesAre(t, text, want)
	}
	for i, b := range letters(allBytes()) {
		want := 1
		if i == 32 || i == 10 {
			want = 0
		}
		bytesAre(t, b, want)
		bytesAre(t, " "+b+"\n"+b+"x", 1+2*want)
	}
	bytesAre(t, allBytes(), 254)
}

// TestBytesOfLongTexts has more bytes than a source may have.
func TestBytesOfLongTexts(t *testing.T) {
	for _, count := range []int{impl.MaxSource - 1, impl.MaxSource, impl.MaxSource + 1, 200000} {
		bytesAre(t, blanks(count), 0)
		bytesAre(t, strings.Repeat("\n", count), 0)
		bytesAre(t, strings.Repeat("x", count), count)
		bytesAre(t, strings.Repeat("x \n\xff", count), 2*count)
	}
}

func TestBytesOfSmallTexts(t *testing.T) {
	eachSmallText(func(text string) { bytesAre(t, text, bytesByWord(text)) })
}

func TestMeasuresOfSmallTexts(t *testing.T) {
	sources := 0
	eachSignText(func(text string) {
		if isMeasured(t, text) {
			sources++
		}
	})
	if sources < 400 {
		t.Errorf("only %d are sources", sources)
	}
}

func TestMeasuresOfWhatIsWritten(t *testing.T) {
	text, _, _ := impl.Format("var v = [a, b,];", 10, enough)
	measureIs(t, text, impl.Measure{Lines: 3, Widest: 9, Members: 1, Deep: 4})
	bytesAre(t, "var v = [a, b,];", 12)
	bytesAre(t, text, 11)
	for _, source := range append(manySources(), someSources()...) {
		isMeasured(t, source)
		for _, width := range []int{leastWidth, 20, 80} {
			for _, budget := range []int{0, 10, enough} {
				if impl.MeasureOf(source) != (impl.Measure{}) && !writtenIsMeasured(t, source, width, budget) {
					t.Fatalf("%q with the width %d is not written", source, width)
				}
			}
		}
	}
	for width := leastWidth; width <= widest; width++ {
		writtenIsMeasured(t, pointSource, width, enough)
	}
}

func TestMeasuresOfAnySource(t *testing.T) {
	written, steps, notes, ends := 0, 0, 0, 0
	for seed, source := range byChance(500) {
		chance := rand.New(rand.NewSource(int64(seed)))
		isMeasured(t, source)
		for _, budget := range []int{0, 20, enough} {
			if writtenIsMeasured(t, source, leastWidth+chance.Intn(90), budget) {
				written++
			}
		}
		got := impl.MeasureOf(source)
		steps, notes = steps+got.Steps, notes+got.Notes
		if signs, _, _ := signsByForms(source); len(signsWithoutEnds(signs)) < len(signs) {
			ends++
		}
	}
	if written < 1400 || steps < 1000 || notes < 500 || ends < 100 {
		t.Errorf("%d are written; there are %d statements, %d notes, and %d have a `,` at an end", written, steps, notes, ends)
	}
}

func TestMeasuresOfTurnedSources(t *testing.T) {
	read := 0
	sources := append(byChance(200), someSources()...)
	for seed := range int64(5000) {
		chance := rand.New(rand.NewSource(seed))
		turned := turnedByte(chance, sources[chance.Intn(len(sources))])
		for range chance.Intn(3) {
			turned = turnedByte(chance, turned)
		}
		if isMeasured(t, turned) {
			read++
			writtenIsMeasured(t, turned, leastWidth+chance.Intn(60), chance.Intn(40))
		}
	}
	if read < 700 || read > 4500 {
		t.Errorf("%d are read", read)
	}
}

func TestMeasuresOfAnyBytes(t *testing.T) {
	for seed := range int64(4000) {
		chance := rand.New(rand.NewSource(seed))
		list := make([]byte, chance.Intn(60))
		for i := range list {
			list[i] = byte(chance.Intn([]int{128, 256}[seed%2]))
		}
		isMeasured(t, string(list))
	}
}

func TestMeasuresLeaveAllAsItIs(t *testing.T) {
	p := roomyPiece()
	isLeft := heldWithRoom(t, p, withRoom([]int{1}))
	for _, width := range []int{0, 12, 80} {
		for _, budget := range []int{-1, 0, 5, enough} {
			impl.PopsOf(p, width, budget)
			isLeft()
		}
	}
}

func TestMeasuresKeepNothing(t *testing.T) {
	asks := []func() string{}
	for _, text := range []string{"", "\n", "var a;", "var a;\n\nm(){b;// n\n}", "$", pointSource, sourceOf(mixedSource), blanks(impl.MaxSource + 1)} {
		asks = append(asks, func() string { return fmt.Sprint(impl.MeasureOf(text), impl.Bytes(text)) })
	}
	for _, p := range []impl.Piece{{}, pieceByHand(), tiedByHand(), rulesAlone(2, 3), rulesAlone()} {
		for _, budget := range []int{-1, 0, 3, enough} {
			asks = append(asks, func() string { return fmt.Sprint(impl.PopsOf(p, 12, budget)) })
			asks = append(asks, func() string { return fmt.Sprint(impl.Search(p, 12, budget)) })
		}
	}
	keepNothing(t, asks)
}
