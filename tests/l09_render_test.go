package tests

import (
	"cmp"
	"math"
	"math/rand"
	"slices"
	"strings"
	"testing"

	"loop.example/g00459/impl"
)

// The numbers of the chapter that have no name there.
const (
	mostWidth    = 100000
	overNotRight = 1000000
)

// oddWidths have both sides of each end that a width is moved to.
var oddWidths = []int{math.MinInt, math.MinInt + 1, -100001, -1, 0, 1, 2, mostWidth - 1, mostWidth, mostWidth + 1, math.MaxInt - 1, math.MaxInt}

func blanks(count int) string {
	return strings.Repeat(" ", count)
}

// linesByWord writes the lines of a right piece with right values as one text, and cuts it.
func linesByWord(p impl.Piece, v []int) []string {
	text := blanks(p.Indent)
	for i, chunk := range p.Chunks {
		text += chunk.Text
		if splitsByWord(p, v, i) {
			text += "\n" + blanks(p.Indent+chunk.Split.Nest)
		} else if chunk.Split.Space {
			text += " "
		}
	}
	return strings.Split(text, "\n")
}

func overByWord(lines []string, width int) int {
	if width < 0 {
		width = 0
	}
	if width > mostWidth {
		width = mostWidth
	}
	over := 0
	for _, line := range lines {
		if len(line) > width {
			over += len(line[width:])
		}
	}
	return over
}

// sumByWord adds the Cost of a rule once for each of its values above 0 up to v's, and that of a span once at the first split behind a chunk of it.
func sumByWord(p impl.Piece, v []int) int {
	sum := 0
	for i, rule := range p.Rules {
		for range v[i] {
			sum += rule.Cost
		}
	}
	for _, span := range p.Spans {
		for i := range p.Chunks {
			if i >= span.From && i <= span.To && splitsByWord(p, v, i) {
				sum += span.Cost
				break
			}
		}
	}
	return sum
}

func rendersAs(t *testing.T, p impl.Piece, v []int, want ...string) {
	t.Helper()
	if got := impl.Render(p, v); !slices.Equal(got, want) {
		t.Errorf("Render(%+v, %v) is %q; want %q", p, v, got, want)
	}
	tellsChunks(t, p, v)
}

func costsThis(t *testing.T, p impl.Piece, v []int, width int, over int, sum int) {
	t.Helper()
	if got := impl.CostOf(p, v, width); got != (impl.Cost{Over: over, Sum: sum}) {
		t.Errorf("CostOf with %v and the width %d is %+v; want %d, %d", v, width, got, over, sum)
	}
}

// tellsChunks holds promise 9 for a right piece and right values.
func tellsChunks(t *testing.T, p impl.Piece, v []int) {
	t.Helper()
	lines := impl.Render(p, v)
	splits, bytes := 0, ""
	for i, chunk := range p.Chunks {
		if splitsByWord(p, v, i) {
			splits++
		}
		bytes += withoutBlanks(chunk.Text)
	}
	if len(lines) != splits+1 || withoutBlanks(strings.Join(lines, "")) != bytes {
		t.Fatalf("Render(%+v, %v) is %q", p, v, lines)
	}
	at, in := 0, p.Indent
	for _, line := range lines {
		rest, count := restOfLine(p, v, line, at, in)
		if rest != "" || count == 0 {
			t.Fatalf("Render(%+v, %v) has the line %q, in which %q does not tell the chunks from %d on", p, v, line, rest, at)
		}
		at += count
		in = p.Indent + p.Chunks[at-1].Split.Nest
	}
	if at != len(p.Chunks) {
		t.Fatalf("Render(%+v, %v) tells %d chunks", p, v, at)
	}
}

func withoutBlanks(text string) string {
	return strings.ReplaceAll(text, " ", "")
}

// restOfLine takes the blanks that a line begins with away, and its chunks one by one, from the chunk at on: what is left of it, and how many chunks it has (0 when one is not there).
func restOfLine(p impl.Piece, v []int, line string, at int, in int) (string, int) {
	rest, ok := strings.CutPrefix(line, blanks(in))
	for i := at; ok && i < len(p.Chunks); i++ {
		rest, ok = strings.CutPrefix(rest, p.Chunks[i].Text)
		if ok && (splitsByWord(p, v, i) || i == len(p.Chunks)-1) {
			return rest, i + 1 - at
		}
		if ok && p.Chunks[i].Split.Space {
			rest, ok = strings.CutPrefix(rest, " ")
		}
	}
	return rest, 0
}

// looksByWord holds Render and CostOf of a right piece and right values at these widths.
func looksByWord(t *testing.T, p impl.Piece, v []int, widths ...int) {
	t.Helper()
	want := linesByWord(p, v)
	if got := impl.Render(p, v); !slices.Equal(got, want) {
		t.Fatalf("Render(%+v, %v) is %q; want %q", p, v, got, want)
	}
	sum := sumByWord(p, v)
	for _, width := range widths {
		if got := impl.CostOf(p, v, width); got != (impl.Cost{Over: overByWord(want, width), Sum: sum}) {
			t.Fatalf("CostOf(%+v, %v, %d) is %+v; want %d, %d", p, v, width, got, overByWord(want, width), sum)
		}
	}
}

// looksLikeNothing holds the one answer where the piece or the values are not right.
func looksLikeNothing(t *testing.T, why string, p impl.Piece, v []int) {
	t.Helper()
	if got := impl.Render(p, v); len(got) != 0 {
		t.Errorf("Render with %s, of %v, is %q", why, v, got)
	}
	for _, width := range append([]int{3, 80}, oddWidths...) {
		if got := impl.CostOf(p, v, width); got != (impl.Cost{Over: overNotRight}) {
			t.Errorf("CostOf with %s, of %v, and the width %d is %+v", why, v, width, got)
		}
	}
}

// chunksOf is a right piece of these Texts with a rule of its own of Cost 1 behind each but the last one; at most MaxRules and one.
func chunksOf(split impl.Split, texts ...string) impl.Piece {
	p := impl.Piece{}
	for i, text := range texts {
		if i == len(texts)-1 {
			p.Chunks = append(p.Chunks, impl.Chunk{Text: text})
			break
		}
		p.Rules = append(p.Rules, impl.Rule{Values: 2, Cost: 1})
		split.Rule, split.From = i, 1
		p.Chunks = append(p.Chunks, impl.Chunk{Text: text, Split: split})
	}
	return p
}

func TestLinesByHand(t *testing.T) {
	p := pieceByHand()
	rendersAs(t, p, []int{0, 0, 0, 0}, "  var a = f(x + y, z);")
	rendersAs(t, p, []int{1, 0, 0, 0}, "  var a =", "      f(x + y, z);")
	rendersAs(t, p, []int{0, 1, 0, 0}, "  var a = f(", "          x + y, z", "      );")
	rendersAs(t, p, []int{0, 2, 0, 0}, "  var a = f(", "          x + y,", "          z", "      );")
	rendersAs(t, p, []int{0, 0, 1, 0}, "  var a = f(x +", "              y, z);")
	rendersAs(t, p, []int{0, 0, 0, 2}, "  var a = f(x + y, z);")
	rendersAs(t, p, []int{1, 1, 1, 1}, "  var a =", "      f(", "          x +", "              y, z", "      );")
	rendersAs(t, p, []int{1, 2, 1, 2}, "  var a =", "      f(", "          x +", "              y,", "          z", "      );")
}

func TestCostsByHand(t *testing.T) {
	p := pieceByHand()
	for _, row := range []struct {
		v          []int
		width      int
		over, want int
	}{
		{[]int{0, 0, 0, 0}, 23, 0, 0}, {[]int{0, 0, 0, 0}, 22, 0, 0}, {[]int{0, 0, 0, 0}, 21, 1, 0}, {[]int{0, 0, 0, 0}, 10, 12, 0}, {[]int{0, 0, 0, 0}, 0, 22, 0},
		{[]int{1, 0, 0, 0}, 18, 0, 3}, {[]int{1, 0, 0, 0}, 17, 1, 3}, {[]int{1, 0, 0, 0}, 9, 9, 3}, {[]int{1, 0, 0, 0}, 8, 11, 3},
		{[]int{0, 1, 0, 0}, 19, 0, 11}, {[]int{0, 1, 0, 0}, 18, 0, 11}, {[]int{0, 1, 0, 0}, 17, 1, 11}, {[]int{0, 1, 0, 0}, 12, 6, 11},
		{[]int{0, 1, 0, 0}, 11, 8, 11}, {[]int{0, 1, 0, 0}, 8, 14, 11}, {[]int{0, 1, 0, 0}, 7, 17, 11}, {[]int{0, 1, 0, 0}, 0, 38, 11},
		{[]int{0, 2, 0, 0}, 16, 0, 12}, {[]int{0, 2, 0, 0}, 11, 6, 12}, {[]int{0, 2, 0, 0}, 10, 9, 12},
		{[]int{0, 0, 1, 0}, 20, 0, 10}, {[]int{0, 0, 1, 0}, 19, 1, 10}, {[]int{0, 0, 1, 0}, 14, 7, 10},
		{[]int{0, 0, 0, 1}, 22, 0, 9}, {[]int{0, 0, 0, 2}, 21, 1, 18},
		{[]int{1, 2, 1, 2}, 16, 0, 32}, {[]int{1, 2, 1, 2}, 13, 3, 32}, {[]int{1, 2, 1, 2}, 12, 5, 32},
	} {
		costsThis(t, p, row.v, row.width, row.over, row.want)
	}
}

func TestEachListOfThePieceByHand(t *testing.T) {
	p := pieceByHand()
	widths := slices.Clone(oddWidths)
	for width := range 30 {
		widths = append(widths, width)
	}
	eachList(4, 0, 2, func(v []int) {
		if impl.ValuesOk(p, v) {
			tellsChunks(t, p, v)
			looksByWord(t, p, v, widths...)
		}
	})
}

func TestLinesTellTheChunksInOrder(t *testing.T) {
	for seed := range int64(1500) {
		p := anyPiece(seed)
		chance := rand.New(rand.NewSource(seed))
		for i := range p.Chunks {
			// Texts that are unlike one another show chunks that change places.
			p.Chunks[i].Text = strings.Repeat(" ", chance.Intn(2)) + impl.Decimal(i) + strings.Repeat("+ ", chance.Intn(3))
		}
		for range 5 {
			v := []int{}
			for _, rule := range p.Rules {
				v = append(v, chance.Intn(rule.Values))
			}
			tellsChunks(t, p, v)
			looksByWord(t, p, v, 0, chance.Intn(20), chance.Intn(60), chance.Intn(200), oddWidths[chance.Intn(len(oddWidths))])
		}
		tellsChunks(t, p, impl.AllSplit(p))
		looksByWord(t, p, impl.AllSplit(p), chance.Intn(100))
	}
}

func TestALineThatIsJustTooLong(t *testing.T) {
	for length := range 70 {
		for _, in := range []int{0, 1, 7, 60} {
			p := impl.Piece{Indent: in, Chunks: []impl.Chunk{{Text: strings.Repeat("x", length)}}}
			costsThis(t, p, nil, in+length+1, 0, 0)
			costsThis(t, p, nil, in+length, 0, 0)
			if in+length > 0 {
				costsThis(t, p, nil, in+length-1, 1, 0)
			}
		}
	}
}

// A short line does not make up for a long one.
func TestEachLineIsTooLongByItself(t *testing.T) {
	p := chunksOf(impl.Split{}, "aaaaa", "bbb", "c", "dddd")
	rendersAs(t, p, []int{1, 1, 1}, "aaaaa", "bbb", "c", "dddd")
	for width, want := range []int{13, 9, 6, 3, 1, 0, 0} {
		costsThis(t, p, []int{1, 1, 1}, width, want, 3)
	}
	rendersAs(t, p, []int{0, 1, 0}, "aaaaabbb", "cdddd")
	for width, want := range []int{13, 11, 9, 7, 5, 3, 2, 1, 0, 0} {
		costsThis(t, p, []int{0, 1, 0}, width, want, 1)
	}
}

func TestOneChunkAlone(t *testing.T) {
	p := impl.Piece{Indent: 3, Chunks: []impl.Chunk{{Text: "a + b;"}}}
	for _, v := range [][]int{nil, {}} {
		rendersAs(t, p, v, "   a + b;")
		costsThis(t, p, v, 9, 0, 0)
		costsThis(t, p, v, 8, 1, 0)
	}
	rendersAs(t, impl.Piece{Chunks: []impl.Chunk{{}}}, nil, "")
	costsThis(t, impl.Piece{Chunks: []impl.Chunk{{}}}, nil, 0, 0, 0)
	rendersAs(t, impl.Piece{Indent: 60, Chunks: []impl.Chunk{{}}}, nil, blanks(60))
	costsThis(t, impl.Piece{Indent: 60, Chunks: []impl.Chunk{{}}}, nil, 59, 1, 0)
}

// Where there is a split no blank stands, whatever the Space: neither at the end of the one line nor at the beginning of the other.
func TestBlanksBetweenChunks(t *testing.T) {
	for _, space := range []bool{true, false} {
		p := chunksOf(impl.Split{Space: space, Nest: 2}, "a", "b", "c")
		between := ""
		if space {
			between = " "
		}
		rendersAs(t, p, []int{0, 0}, "a"+between+"b"+between+"c")
		rendersAs(t, p, []int{1, 0}, "a", "  b"+between+"c")
		rendersAs(t, p, []int{0, 1}, "a"+between+"b", "  c")
		rendersAs(t, p, []int{1, 1}, "a", "  b", "  c")
		costsThis(t, p, []int{0, 0}, 0, 3+2*len(between), 0)
		costsThis(t, p, []int{1, 0}, 0, 5+len(between), 1)
		costsThis(t, p, []int{0, 1}, 0, 5+len(between), 1)
		costsThis(t, p, []int{1, 1}, 0, 7, 2)
	}
	mixed := chunksOf(impl.Split{}, "a", "b", "c")
	mixed.Chunks[0].Split.Space = true
	rendersAs(t, mixed, []int{0, 0}, "a bc")
	rendersAs(t, mixed, []int{1, 0}, "a", "bc")
	rendersAs(t, mixed, []int{0, 1}, "a b", "c")
}

func TestHowFarLinesAreIn(t *testing.T) {
	for _, indent := range []int{0, 1, 59, 60} {
		for _, nest := range []int{0, 1, 39, 40} {
			p := chunksOf(impl.Split{Nest: nest}, "a", "b", "c")
			p.Indent = indent
			first, later := blanks(indent), blanks(indent+nest)
			rendersAs(t, p, []int{0, 0}, first+"abc")
			rendersAs(t, p, []int{1, 0}, first+"a", later+"bc")
			rendersAs(t, p, []int{0, 1}, first+"ab", later+"c")
			rendersAs(t, p, []int{1, 1}, first+"a", later+"b", later+"c")
			costsThis(t, p, []int{1, 1}, 0, 3*indent+2*nest+3, 2)
		}
	}
}

// Each line is as far in as the split just ahead of it says, not one further ahead, nor one that is not done.
func TestTheSplitJustAheadTellsHowFar(t *testing.T) {
	p := chunksOf(impl.Split{}, "a", "b", "c", "d")
	p.Indent = 1
	for i, nest := range []int{4, 0, 2} {
		p.Chunks[i].Split.Nest = nest
	}
	rendersAs(t, p, []int{1, 1, 1}, " a", "     b", " c", "   d")
	rendersAs(t, p, []int{1, 0, 1}, " a", "     bc", "   d")
	rendersAs(t, p, []int{0, 0, 1}, " abc", "   d")
	rendersAs(t, p, []int{0, 1, 0}, " ab", " cd")
}

func TestTextsWithNothingOrBlanks(t *testing.T) {
	empty := chunksOf(impl.Split{Space: true, Nest: 3}, "", "", "")
	rendersAs(t, empty, []int{0, 0}, "  ")
	rendersAs(t, empty, []int{1, 0}, "", "    ")
	rendersAs(t, empty, []int{1, 1}, "", "   ", "   ")
	costsThis(t, empty, []int{0, 0}, 1, 1, 0)
	costsThis(t, empty, []int{1, 1}, 2, 2, 2)
	costsThis(t, empty, []int{1, 1}, 3, 0, 2)
	rendersAs(t, chunksOf(impl.Split{}, "a", "", "b"), []int{1, 1}, "a", "", "b")
	rendersAs(t, chunksOf(impl.Split{}, "a", "", "b"), []int{0, 0}, "ab")
	ends := chunksOf(impl.Split{Space: true, Nest: 1}, "  a ", " b  ", " ")
	rendersAs(t, ends, []int{0, 0}, "  a   b    ")
	rendersAs(t, ends, []int{1, 0}, "  a ", "  b    ")
	rendersAs(t, ends, []int{1, 1}, "  a ", "  b  ", "  ")
	costsThis(t, ends, []int{0, 0}, 10, 1, 0)
	costsThis(t, ends, []int{1, 1}, 0, 11, 2)
	all := ""
	for one := 32; one <= 126; one++ {
		all += string(rune(one))
	}
	rendersAs(t, chunksOf(impl.Split{}, all, all), []int{1}, all, all)
}

// spanned has five splits of rules that cost nothing, and these spans.
func spanned(spans ...impl.Span) impl.Piece {
	p := chunksOf(impl.Split{}, "a", "b", "c", "d", "e", "f")
	for i := range p.Rules {
		p.Rules[i].Cost = 0
	}
	p.Spans = spans
	return p
}

func TestWhenASpanCosts(t *testing.T) {
	for _, row := range []struct {
		from, to int
		v        []int
		want     bool
	}{
		{1, 3, []int{0, 1, 0, 0, 0}, true}, {1, 3, []int{0, 0, 1, 0, 0}, true}, {1, 3, []int{0, 0, 0, 1, 0}, true},
		{1, 3, []int{0, 0, 0, 0, 0}, false}, {1, 3, []int{1, 0, 0, 0, 0}, false}, {1, 3, []int{0, 0, 0, 0, 1}, false}, {1, 3, []int{1, 0, 0, 0, 1}, false},
		{1, 3, []int{0, 1, 1, 1, 0}, true}, {1, 3, []int{1, 1, 1, 1, 1}, true},
		{2, 2, []int{0, 0, 1, 0, 0}, true}, {2, 2, []int{0, 1, 0, 1, 0}, false}, {2, 2, []int{1, 1, 0, 1, 1}, false},
		{0, 0, []int{1, 0, 0, 0, 0}, true}, {0, 0, []int{0, 1, 1, 1, 1}, false},
		{4, 4, []int{0, 0, 0, 0, 1}, true}, {4, 4, []int{1, 1, 1, 1, 0}, false},
		{0, 4, []int{0, 0, 0, 0, 0}, false}, {0, 4, []int{1, 0, 0, 0, 0}, true}, {0, 4, []int{0, 0, 0, 0, 1}, true},
	} {
		for _, cost := range []int{0, 1, 9} {
			want := 0
			if row.want {
				want = cost
			}
			costsThis(t, spanned(impl.Span{From: row.from, To: row.to, Cost: cost}), row.v, 80, 0, want)
		}
	}
}

// A span costs once, whatever the number of splits; two on the same chunks cost both.
func TestSeveralSpans(t *testing.T) {
	twice := spanned(impl.Span{From: 1, To: 2, Cost: 3}, impl.Span{From: 1, To: 2, Cost: 3})
	costsThis(t, twice, []int{1, 1, 1, 1, 1}, 80, 0, 6)
	costsThis(t, twice, []int{0, 1, 0, 0, 0}, 80, 0, 6)
	costsThis(t, twice, []int{1, 0, 0, 1, 1}, 80, 0, 0)
	over := spanned(impl.Span{From: 0, To: 2, Cost: 1}, impl.Span{From: 2, To: 4, Cost: 4}, impl.Span{From: 2, To: 2, Cost: 8})
	costsThis(t, over, []int{0, 1, 0, 0, 0}, 80, 0, 1)
	costsThis(t, over, []int{0, 0, 1, 0, 0}, 80, 0, 13)
	costsThis(t, over, []int{0, 0, 0, 1, 1}, 80, 0, 4)
	costsThis(t, over, []int{1, 0, 0, 0, 1}, 80, 0, 5)
	many := spanned(slices.Repeat([]impl.Span{{From: 3, To: 3, Cost: 9}}, mostSpans)...)
	costsThis(t, many, []int{0, 0, 0, 1, 0}, 80, 0, 9*mostSpans)
	costsThis(t, many, []int{1, 1, 1, 0, 1}, 80, 0, 0)
	many.Spans[mostSpans-1] = impl.Span{From: 4, To: 4, Cost: 2}
	costsThis(t, many, []int{0, 0, 0, 0, 1}, 80, 0, 2)
	looksLikeNothing(t, "one span more than 40", spanned(slices.Repeat([]impl.Span{{From: 3, To: 3, Cost: 9}}, mostSpans+1)...), make([]int, 5))
}

// A span asks for splits, not for values: a value below From makes none.
func TestASpanWithValuesBelowFrom(t *testing.T) {
	p := chunksOf(impl.Split{}, "a", "b")
	p.Rules[0] = impl.Rule{Values: 3, Cost: 4}
	p.Chunks[0].Split.From = 2
	p.Spans = []impl.Span{{Cost: 1}}
	costsThis(t, p, []int{0}, 80, 0, 0)
	costsThis(t, p, []int{1}, 80, 0, 4)
	costsThis(t, p, []int{2}, 80, 0, 9)
	rendersAs(t, p, []int{1}, "ab")
	rendersAs(t, p, []int{2}, "a", "b")
}

// A rule costs its value, whatever it splits: rules without splits do, too, and one with many splits costs once.
func TestWhatValuesCost(t *testing.T) {
	for _, cost := range []int{0, 1, 2, 9} {
		for value := range 3 {
			p := rulesAlone(3, 3, 3)
			p.Rules[1].Cost = cost
			costsThis(t, p, []int{0, value, 0}, 80, 0, cost*value)
			costsThis(t, p, []int{2, value, 1}, 80, 0, cost*value)
		}
	}
	p := rulesAlone(3)
	p.Rules[0].Cost = 2
	p.Chunks = append(slices.Repeat([]impl.Chunk{{Text: "a", Split: impl.Split{From: 1}}}, impl.MaxChunks-1), impl.Chunk{Text: "a"})
	costsThis(t, p, []int{0}, 80, 0, 0)
	costsThis(t, p, []int{1}, 80, 0, 2)
	costsThis(t, p, []int{2}, 80, 0, 4)
}

func TestOddWidths(t *testing.T) {
	p := chunksOf(impl.Split{}, strings.Repeat("x", mostWidth), strings.Repeat("y", mostWidth+1), "z")
	for _, row := range []struct{ width, want int }{
		{math.MinInt, 200002}, {-1, 200002}, {0, 200002}, {1, 199999}, {99999, 3}, {100000, 1}, {100001, 1}, {100002, 1}, {math.MaxInt, 1},
	} {
		costsThis(t, p, []int{1, 1}, row.width, row.want, 2)
	}
	for _, length := range []int{mostWidth - 1, mostWidth, mostWidth + 1, mostWidth + 2} {
		one := impl.Piece{Chunks: []impl.Chunk{{Text: strings.Repeat("x", length)}}}
		looksByWord(t, one, nil, oddWidths...)
		one.Indent, one.Chunks[0].Text = 60, one.Chunks[0].Text[60:]
		looksByWord(t, one, nil, oddWidths...)
	}
}

// What is too long is not bounded: a right piece may have more than one that is not right.
func TestLongTextsAtTheLimits(t *testing.T) {
	p := impl.Piece{Indent: 60}
	for i := range impl.MaxChunks - 1 {
		p.Chunks = append(p.Chunks, impl.Chunk{Text: strings.Repeat("x", impl.MaxText), Split: impl.Split{Rule: i % impl.MaxRules, From: 1 + i%2, Space: true, Nest: 40}})
	}
	p.Chunks = append(p.Chunks, impl.Chunk{Text: strings.Repeat("y", impl.MaxText)})
	p.Rules = slices.Repeat([]impl.Rule{{Values: 3, Cost: 9}}, impl.MaxRules)
	p.Spans = slices.Repeat([]impl.Span{{From: 0, To: impl.MaxChunks - 2, Cost: 9}}, mostSpans)
	none, all := make([]int, impl.MaxRules), impl.AllSplit(p)
	costsThis(t, p, none, math.MaxInt, 60+80*20000+79-100000, 0)
	costsThis(t, p, none, 0, 60+80*20000+79, 0)
	costsThis(t, p, all, 0, 80*20060+79*40, 8*18+40*9)
	costsThis(t, p, all, 20099, 79, 8*18+40*9)
	costsThis(t, p, all, 20100, 0, 8*18+40*9)
	for _, v := range [][]int{none, all, {1, 1, 1, 1, 1, 1, 1, 1}, {2, 0, 0, 0, 0, 0, 0, 0}, {0, 0, 0, 0, 0, 0, 0, 2}} {
		tellsChunks(t, p, v)
		looksByWord(t, p, v, append([]int{20000, 20060, 20100}, oddWidths...)...)
	}
}

// Neither Render nor CostOf asks for the ties.
func TestTiesThatDoNotHold(t *testing.T) {
	p := chunksOf(impl.Split{}, "a", "b", "c")
	p.Ties = []impl.Tie{{Kid: 1, Up: 0}}
	if impl.TiesHold(p, []int{0, 1}) {
		t.Error("the tie holds")
	}
	rendersAs(t, p, []int{0, 1}, "ab", "c")
	costsThis(t, p, []int{0, 1}, 1, 1, 1)
}

// notRight has a piece for each way in which chapter 8 says that one is not right; the values 1, 1, 1, 1 and 0, 0, 0, 0 are right for those with four rules.
func notRight() map[string]impl.Piece {
	list := map[string]impl.Piece{"nothing": {}}
	put := func(why string, change func(p *impl.Piece)) { list[why] = pieceWith(change) }
	put("Indent below 0", func(p *impl.Piece) { p.Indent = -1 })
	put("Indent above 60", func(p *impl.Piece) { p.Indent = 61 })
	put("the greatest Indent", func(p *impl.Piece) { p.Indent = math.MaxInt })
	put("rules above MaxRules", func(p *impl.Piece) {
		p.Rules = append(p.Rules, slices.Repeat([]impl.Rule{{Values: 2}}, impl.MaxRules-3)...)
	})
	put("Values above 3", func(p *impl.Piece) { p.Rules[3].Values = 4 })
	put("Values 1", func(p *impl.Piece) { p.Rules[3].Values = 1 })
	put("Cost of a rule below 0", func(p *impl.Piece) { p.Rules[3].Cost = -1 })
	put("Cost of a rule above 9", func(p *impl.Piece) { p.Rules[3].Cost = 10 })
	put("no chunks", func(p *impl.Piece) { p.Chunks, p.Spans = nil, nil })
	put("chunks above MaxChunks", func(p *impl.Piece) { p.Chunks = append(slices.Repeat(p.Chunks[:1], impl.MaxChunks-5), p.Chunks...) })
	put("a byte 31", func(p *impl.Piece) { p.Chunks[2].Text = "a\x1f" })
	put("a byte 127", func(p *impl.Piece) { p.Chunks[5].Text = "\x7f" })
	put("an end of a line", func(p *impl.Piece) { p.Chunks[0].Text = "a\nb" })
	put("a split of a rule below 0", func(p *impl.Piece) { p.Chunks[1].Split.Rule = -1 })
	put("a split of a rule that there is not", func(p *impl.Piece) { p.Chunks[1].Split.Rule = 4 })
	put("From 0", func(p *impl.Piece) { p.Chunks[1].Split.From = 0 })
	put("From of Values", func(p *impl.Piece) { p.Chunks[0].Split.From = 2 })
	put("Nest below 0", func(p *impl.Piece) { p.Chunks[1].Split.Nest = -1 })
	put("Nest above 40", func(p *impl.Piece) { p.Chunks[1].Split.Nest = 41 })
	put("a Rule behind the last chunk", func(p *impl.Piece) { p.Chunks[5].Split.Rule = 1 })
	put("a From behind the last chunk", func(p *impl.Piece) { p.Chunks[5].Split.From = 1 })
	put("a Space behind the last chunk", func(p *impl.Piece) { p.Chunks[5].Split.Space = true })
	put("a Nest behind the last chunk", func(p *impl.Piece) { p.Chunks[5].Split.Nest = 1 })
	put("spans above 40", func(p *impl.Piece) { p.Spans = slices.Repeat(p.Spans[:1], mostSpans+1) })
	put("a span from below 0", func(p *impl.Piece) { p.Spans[0].From = -1 })
	put("a span to the last chunk", func(p *impl.Piece) { p.Spans[0].To = 5 })
	put("a span to behind the last chunk", func(p *impl.Piece) { p.Spans[0].To = 6 })
	put("a span from above its To", func(p *impl.Piece) { p.Spans[1].From = 3 })
	put("Cost of a span below 0", func(p *impl.Piece) { p.Spans[2].Cost = -1 })
	put("Cost of a span above 9", func(p *impl.Piece) { p.Spans[2].Cost = 10 })
	put("ties above 20", func(p *impl.Piece) { p.Ties = slices.Repeat(p.Ties[:1], mostTies+1) })
	put("a Kid below 0", func(p *impl.Piece) { p.Ties[0].Kid = -1 })
	put("a Kid that there is not", func(p *impl.Piece) { p.Ties[0].Kid = 4 })
	put("an Up below 0", func(p *impl.Piece) { p.Ties[0].Up = -1 })
	put("an Up that there is not", func(p *impl.Piece) { p.Ties[0].Up = 4 })
	put("a tie of a rule with itself", func(p *impl.Piece) { p.Ties[0].Up = 2 })
	return list
}

func TestPiecesThatAreNotRightLookLikeNothing(t *testing.T) {
	for why, p := range notRight() {
		if impl.PieceOk(p) {
			t.Errorf("PieceOk with %s", why)
		}
		for _, v := range [][]int{make([]int, len(p.Rules)), impl.AllSplit(p), {0, 0, 0, 0}, {1, 1, 1, 1}, nil} {
			looksLikeNothing(t, why, p, v)
		}
	}
}

func TestValuesThatAreNotRightLookLikeNothing(t *testing.T) {
	p := pieceByHand()
	for _, v := range [][]int{
		nil, {}, {0}, {0, 0, 0}, {1, 2, 1}, {0, 0, 0, 0, 0}, {1, 2, 1, 2, 0}, make([]int, 100),
		{-1, 0, 0, 0}, {0, -1, 0, 0}, {0, 0, -1, 0}, {0, 0, 0, -1}, {2, 0, 0, 0}, {0, 3, 0, 0}, {0, 0, 2, 0}, {0, 0, 0, 3},
		{math.MinInt, 0, 0, 0}, {0, math.MaxInt, 0, 0}, {0, 0, 0, math.MinInt}, {0, 0, 0, math.MaxInt},
	} {
		looksLikeNothing(t, "values", p, v)
	}
	looksLikeNothing(t, "a value and no rules", rulesAlone(), []int{0})
	looksLikeNothing(t, "no value and a rule", rulesAlone(2), nil)
	looksLikeNothing(t, "a value and nothing", impl.Piece{}, []int{1})
}

func TestTurnedPiecesLookByWord(t *testing.T) {
	for seed := range int64(40) {
		p := anyPiece(seed)
		if len(p.Chunks) > 20 {
			continue
		}
		all := impl.AllSplit(p)
		for _, place := range numbersIn(&p) {
			held := *place
			for _, odd := range oddNumbers {
				*place = odd
				if pieceByWord(p) && valuesByWord(p, all) {
					looksByWord(t, p, all, 0, 20, 50)
				} else if got := impl.Render(p, all); len(got) != 0 || impl.CostOf(p, all, 20) != (impl.Cost{Over: overNotRight}) {
					t.Fatalf("Render(%+v, %v) is %q, CostOf is %+v", p, all, got, impl.CostOf(p, all, 20))
				}
			}
			*place = held
		}
	}
}

func TestCostLess(t *testing.T) {
	for _, row := range []struct {
		a, b impl.Cost
		want bool
	}{
		{impl.Cost{}, impl.Cost{}, false},
		{impl.Cost{Over: 3, Sum: 5}, impl.Cost{Over: 3, Sum: 5}, false},
		{impl.Cost{Over: 3, Sum: 4}, impl.Cost{Over: 3, Sum: 5}, true},
		{impl.Cost{Over: 3, Sum: 5}, impl.Cost{Over: 3, Sum: 4}, false},
		{impl.Cost{Over: 2, Sum: 5}, impl.Cost{Over: 3, Sum: 5}, true},
		{impl.Cost{Over: 3, Sum: 5}, impl.Cost{Over: 2, Sum: 5}, false},
		{impl.Cost{Over: 2, Sum: 9}, impl.Cost{Over: 3, Sum: 1}, true},
		{impl.Cost{Over: 3, Sum: 1}, impl.Cost{Over: 2, Sum: 9}, false},
		{impl.Cost{Over: 1, Sum: 2}, impl.Cost{Over: 2, Sum: 3}, true},
		{impl.Cost{Over: math.MinInt, Sum: math.MaxInt}, impl.Cost{Over: math.MaxInt, Sum: math.MinInt}, true},
		{impl.Cost{Over: math.MaxInt, Sum: math.MinInt}, impl.Cost{Over: math.MinInt, Sum: math.MaxInt}, false},
		{impl.Cost{Over: 1, Sum: math.MinInt}, impl.Cost{Over: 1, Sum: math.MaxInt}, true},
		{impl.Cost{Over: 1, Sum: math.MaxInt}, impl.Cost{Over: 1, Sum: math.MinInt}, false},
	} {
		if got := impl.CostLess(row.a, row.b); got != row.want {
			t.Errorf("CostLess(%+v, %+v) is %v", row.a, row.b, got)
		}
	}
}

// Costs stand in one order: that of all of them by Over first and Sum then.
func TestCostLessIsAnOrder(t *testing.T) {
	numbers := []int{math.MinInt, math.MinInt + 1, -1, 0, 1, 2, overNotRight, math.MaxInt - 1, math.MaxInt}
	costs := []impl.Cost{}
	for _, over := range numbers {
		for _, sum := range numbers {
			costs = append(costs, impl.Cost{Over: over, Sum: sum})
		}
	}
	for i, a := range costs {
		for k, b := range costs {
			if got := impl.CostLess(a, b); got != (i < k) {
				t.Errorf("CostLess(%+v, %+v) is %v", a, b, got)
			}
		}
	}
}

func TestCompare(t *testing.T) {
	for _, row := range []struct {
		a, b []int
		want int
	}{
		{nil, nil, 0}, {nil, []int{}, 0}, {[]int{}, nil, 0}, {nil, []int{0}, -1}, {[]int{0}, nil, 1}, {[]int{}, []int{-5}, -1}, {[]int{math.MinInt}, []int{}, 1},
		{[]int{1}, []int{1}, 0}, {[]int{1}, []int{2}, -1}, {[]int{2}, []int{1}, 1},
		{[]int{1}, []int{1, 0}, -1}, {[]int{1, 0}, []int{1}, 1}, {[]int{1}, []int{1, -9}, -1}, {[]int{1, 2}, []int{1, 2, 3, 4}, -1},
		{[]int{2}, []int{1, 5}, 1}, {[]int{1, 5}, []int{2}, -1}, {[]int{0, 9, 9}, []int{1, 0, 0}, -1},
		{[]int{1, 2, 3}, []int{1, 2, 4}, -1}, {[]int{1, 3, 0}, []int{1, 2, 9}, 1}, {[]int{1, 2, 3}, []int{1, 2, 3}, 0},
		{[]int{math.MinInt}, []int{math.MaxInt}, -1}, {[]int{math.MaxInt}, []int{math.MinInt}, 1}, {[]int{-2}, []int{math.MaxInt}, -1},
		{[]int{0, math.MinInt}, []int{0, 1}, -1}, {[]int{0, math.MaxInt}, []int{0, math.MaxInt}, 0}, {[]int{math.MinInt, 1}, []int{math.MinInt}, 1},
	} {
		if got := impl.Compare(row.a, row.b); got != row.want {
			t.Errorf("Compare(%v, %v) is %d; want %d", row.a, row.b, got, row.want)
		}
	}
}

// Texts are compared byte by byte, a beginning being less: lists of small numbers written as bytes stand in the same order.
func TestCompareAsTexts(t *testing.T) {
	lists, texts := [][]int{}, []string{}
	for count := range 5 {
		eachList(count, -1, 1, func(v []int) {
			text := ""
			for _, n := range v {
				text += string(rune('b' + n))
			}
			lists, texts = append(lists, slices.Clone(v)), append(texts, text)
		})
	}
	for i, a := range lists {
		for k, b := range lists {
			if got, want := impl.Compare(a, b), cmp.Compare(texts[i], texts[k]); got != want {
				t.Fatalf("Compare(%v, %v) is %d; want %d", a, b, got, want)
			}
		}
	}
	long := slices.Repeat([]int{7}, 5000)
	if impl.Compare(long, long) != 0 || impl.Compare(long[1:], long) != -1 || impl.Compare(append(slices.Clone(long), 0), long) != 1 {
		t.Error("Compare of long lists")
	}
}

func TestRenderLeavesAllAsItIs(t *testing.T) {
	p, v := roomyPiece(), withRoom([]int{1, 2, 1, 2})
	isLeft := heldWithRoom(t, p, v)
	for _, list := range [][]int{v, v[:3], nil} {
		lines := impl.Render(p, list)
		for i := range lines[:cap(lines)] {
			lines[:cap(lines)][i] = "turned"
		}
		impl.CostOf(p, list, 10)
		impl.Compare(list, v)
		impl.Compare(v, list)
	}
	isLeft()
}

func TestRenderIsNewMemory(t *testing.T) {
	for _, texts := range [][]string{{"one chunk"}, {"", "second"}, {"first", ""}, {"first", "second", "third"}} {
		p := chunksOf(impl.Split{}, texts...)
		for _, v := range [][]int{make([]int, len(p.Rules)), impl.AllSplit(p)} {
			first, second := impl.Render(p, v), impl.Render(p, v)
			for _, line := range first {
				for _, chunk := range p.Chunks {
					if sharesMemory(line, chunk.Text) {
						t.Errorf("the line %q is memory of a chunk", line)
					}
				}
			}
			want := slices.Clone(second)
			for i := range first {
				first[i] = "turned"
			}
			if !slices.Equal(second, want) || !slices.Equal(impl.Render(p, v), want) {
				t.Errorf("Render is %q, then %q", second, impl.Render(p, v))
			}
		}
	}
}
