package tests

import (
	"math"
	"math/rand"
	"reflect"
	"slices"
	"strings"
	"testing"

	"loop.example/g00459/impl"
)

// The limits of the chapter that have no name there.
const (
	mostSpans = 40
	mostTies  = 20
)

// pieceByHand has rules of 2 and of 3 Values, one of them (the rule 3) without splits, each From, spans that overlap, and two ties on one rule.
func pieceByHand() impl.Piece {
	return impl.Piece{
		Indent: 2,
		Rules:  []impl.Rule{{Values: 2, Cost: 2}, {Values: 3, Cost: 1}, {Values: 2, Cost: 0}, {Values: 3, Cost: 9}},
		Chunks: []impl.Chunk{
			{Text: "var a =", Split: impl.Split{Rule: 0, From: 1, Space: true, Nest: 4}},
			{Text: "f(", Split: impl.Split{Rule: 1, From: 1, Nest: 8}},
			{Text: "x +", Split: impl.Split{Rule: 2, From: 1, Space: true, Nest: 12}},
			{Text: "y,", Split: impl.Split{Rule: 1, From: 2, Space: true, Nest: 8}},
			{Text: "z", Split: impl.Split{Rule: 1, From: 1, Nest: 4}},
			{Text: ");"},
		},
		Spans: []impl.Span{{From: 0, To: 4, Cost: 1}, {From: 2, To: 2, Cost: 0}, {From: 1, To: 3, Cost: 9}},
		Ties:  []impl.Tie{{Kid: 2, Up: 1}, {Kid: 3, Up: 1}, {Kid: 1, Up: 0}},
	}
}

// pieceWith is the piece by hand with one thing changed.
func pieceWith(change func(p *impl.Piece)) impl.Piece {
	p := pieceByHand()
	change(&p)
	return p
}

func clonePiece(p impl.Piece) impl.Piece {
	p.Rules, p.Chunks, p.Spans, p.Ties = slices.Clone(p.Rules), slices.Clone(p.Chunks), slices.Clone(p.Spans), slices.Clone(p.Ties)
	return p
}

// rulesAlone is a piece of rules of these Values and one chunk.
func rulesAlone(values ...int) impl.Piece {
	p := impl.Piece{Chunks: []impl.Chunk{{Text: "a"}}}
	for _, count := range values {
		p.Rules = append(p.Rules, impl.Rule{Values: count})
	}
	return p
}

// tiedRules is a piece of rules of these Values with ties, which is right when the ties are.
func tiedRules(values []int, ties ...impl.Tie) impl.Piece {
	p := rulesAlone(values...)
	p.Ties = ties
	return p
}

// anyPiece is right, and made by chance of the seed; at some seeds without rules, spans or ties, or up to the limits.
func anyPiece(seed int64) impl.Piece {
	chance := rand.New(rand.NewSource(seed))
	p := impl.Piece{Indent: chance.Intn(61)}
	for range chance.Intn(impl.MaxRules + 1) {
		p.Rules = append(p.Rules, impl.Rule{Values: 2 + chance.Intn(2), Cost: chance.Intn(10)})
	}
	splits := chance.Intn(10)
	if chance.Intn(5) == 0 {
		splits = impl.MaxChunks - 1
	}
	if len(p.Rules) == 0 {
		splits = 0
	}
	for range splits {
		rule := chance.Intn(len(p.Rules))
		split := impl.Split{Rule: rule, From: 1 + chance.Intn(p.Rules[rule].Values-1), Space: chance.Intn(2) == 0, Nest: chance.Intn(41)}
		p.Chunks = append(p.Chunks, impl.Chunk{Text: strings.Repeat("x ", chance.Intn(4)), Split: split})
	}
	p.Chunks = append(p.Chunks, impl.Chunk{Text: "end;"})
	for range chance.Intn(mostSpans + 1) {
		if splits > 0 {
			from := chance.Intn(splits)
			p.Spans = append(p.Spans, impl.Span{From: from, To: from + chance.Intn(splits-from), Cost: chance.Intn(10)})
		}
	}
	for range chance.Intn(mostTies + 1) {
		if len(p.Rules) > 1 {
			pair := chance.Perm(len(p.Rules))
			p.Ties = append(p.Ties, impl.Tie{Kid: pair[0], Up: pair[1]})
		}
	}
	return p
}

// amongst asks the other way round than a bound does: whether n is one of the numbers that there are.
func amongst(n int, least int, most int) bool {
	for one := least; one <= most; one++ {
		if n == one {
			return true
		}
	}
	return false
}

// pieceByWord is PieceOk, sentence by sentence.
func pieceByWord(p impl.Piece) bool {
	rights := []bool{
		amongst(p.Indent, 0, 60), amongst(len(p.Rules), 0, 8), amongst(len(p.Chunks), 1, 80), amongst(len(p.Spans), 0, 40), amongst(len(p.Ties), 0, 20),
	}
	for _, rule := range p.Rules {
		rights = append(rights, rule.Values == 2 || rule.Values == 3, amongst(rule.Cost, 0, 9))
	}
	for i, chunk := range p.Chunks {
		for _, one := range []byte(chunk.Text) {
			rights = append(rights, amongst(int(one), 32, 126))
		}
		split := chunk.Split
		if i == len(p.Chunks)-1 {
			rights = append(rights, split.Rule == 0, split.From == 0, !split.Space, split.Nest == 0)
			continue
		}
		rights = append(rights, amongst(split.Nest, 0, 40), amongst(split.Rule, 0, len(p.Rules)-1))
		if amongst(split.Rule, 0, len(p.Rules)-1) {
			count := p.Rules[split.Rule].Values
			rights = append(rights, split.From == 1 && count >= 2 || split.From == 2 && count >= 3)
		}
	}
	for _, span := range p.Spans {
		rights = append(rights, amongst(span.From, 0, len(p.Chunks)-2), amongst(span.To, 0, len(p.Chunks)-2), span.From <= span.To, amongst(span.Cost, 0, 9))
	}
	for _, tie := range p.Ties {
		rights = append(rights, amongst(tie.Kid, 0, len(p.Rules)-1), amongst(tie.Up, 0, len(p.Rules)-1), tie.Kid != tie.Up)
	}
	return !slices.Contains(rights, false)
}

func valuesByWord(p impl.Piece, v []int) bool {
	if len(v) != len(p.Rules) {
		return false
	}
	for i, rule := range p.Rules {
		if v[i] < 0 || v[i] >= rule.Values {
			return false
		}
	}
	return true
}

// splitsByWord is of a right piece and right values.
func splitsByWord(p impl.Piece, v []int, i int) bool {
	for k, chunk := range p.Chunks[:len(p.Chunks)-1] {
		if k == i {
			return v[chunk.Split.Rule]-chunk.Split.From >= 0
		}
	}
	return false
}

// tiesByWord looks for the rules of a tie among those above 0 and those that are 0.
func tiesByWord(p impl.Piece, v []int) bool {
	above, none := map[int]bool{}, map[int]bool{}
	for i, value := range v {
		above[i], none[i] = value > 0, value <= 0
	}
	for _, tie := range p.Ties {
		if !(above[tie.Up] && above[tie.Kid] || above[tie.Up] && none[tie.Kid] || none[tie.Up] && none[tie.Kid]) {
			return false
		}
	}
	return valuesByWord(p, v)
}

// isByWord holds all functions that answer by values, at each place from below the first chunk to behind the last one; right is whether the piece is.
func isByWord(t *testing.T, p impl.Piece, right bool, v []int) {
	t.Helper()
	valuesRight := valuesByWord(p, v)
	if got := impl.ValuesOk(p, v); got != valuesRight {
		t.Fatalf("ValuesOk(%+v, %v) is %v", p, v, got)
	}
	if got, want := impl.TiesHold(p, v), tiesByWord(p, v); got != want {
		t.Fatalf("TiesHold(%+v, %v) is %v", p, v, got)
	}
	for i := -1; i <= len(p.Chunks); i++ {
		want := right && valuesRight && splitsByWord(p, v, i)
		if got := impl.SplitsAt(p, v, i); got != want {
			t.Fatalf("SplitsAt(%+v, %v, %d) is %v", p, v, i, got)
		}
	}
}

// eachList hands on all lists of count numbers from least to most.
func eachList(count int, least int, most int, hand func(v []int)) {
	v := make([]int, count)
	var put func(i int)
	put = func(i int) {
		if i == count {
			hand(v)
			return
		}
		for v[i] = least; v[i] <= most; v[i]++ {
			put(i + 1)
		}
	}
	put(0)
}

// countedOneByOne is how many lists of values are right, those below 0 and of Values looked at, too.
func countedOneByOne(p impl.Piece) int {
	count := 0
	eachList(len(p.Rules), -1, 4, func(v []int) {
		if impl.ValuesOk(p, v) {
			count++
		}
	})
	return count
}

func isPieceOk(t *testing.T, why string, p impl.Piece, want bool) {
	t.Helper()
	if got := impl.PieceOk(p); got != want {
		t.Errorf("PieceOk with %s is %v", why, got)
	}
	if want {
		mayAllBeSplit(t, p)
		return
	}
	for i := -1; i <= len(p.Chunks); i++ {
		if impl.SplitsAt(p, impl.AllSplit(p), i) {
			t.Errorf("SplitsAt at %d with %s", i, why)
		}
	}
}

func areValues(t *testing.T, p impl.Piece, want bool, v ...int) {
	t.Helper()
	if got := impl.ValuesOk(p, v); got != want {
		t.Errorf("ValuesOk(%+v, %v) is %v", p, v, got)
	}
}

func tiesHold(t *testing.T, p impl.Piece, want bool, v ...int) {
	t.Helper()
	if got := impl.TiesHold(p, v); got != want {
		t.Errorf("TiesHold(%+v, %v) is %v", p, v, got)
	}
}

// splitsAre tells a split behind a chunk by `|`, none by `.`.
func splitsAre(t *testing.T, p impl.Piece, want string, v ...int) {
	t.Helper()
	got := ""
	for i := range p.Chunks[1:] {
		if impl.SplitsAt(p, v, i) {
			got += "|"
		} else {
			got += "."
		}
	}
	if got != want {
		t.Errorf("SplitsAt with %v is %q; want %q", v, got, want)
	}
}

// mayAllBeSplit holds promise 8 for a right piece; and that none need be split.
func mayAllBeSplit(t *testing.T, p impl.Piece) {
	t.Helper()
	all, none := impl.AllSplit(p), make([]int, len(p.Rules))
	if !impl.PieceOk(p) || len(all) != len(p.Rules) {
		t.Fatalf("PieceOk(%+v) is false, or AllSplit of it is %v", p, all)
	}
	for i, rule := range p.Rules {
		above := slices.Clone(all)
		above[i]++
		if all[i] != rule.Values-1 || impl.ValuesOk(p, above) {
			t.Fatalf("AllSplit(%+v) is %v", p, all)
		}
	}
	for _, v := range [][]int{all, none} {
		if !impl.ValuesOk(p, v) || !impl.TiesHold(p, v) {
			t.Fatalf("ValuesOk or TiesHold of %+v with %v is false", p, v)
		}
	}
	for i := -1; i <= len(p.Chunks); i++ {
		inside := i >= 0 && i < len(p.Chunks)-1
		if impl.SplitsAt(p, all, i) != inside || impl.SplitsAt(p, none, i) {
			t.Fatalf("SplitsAt of %+v at %d is %v with all values, %v with none", p, i, impl.SplitsAt(p, all, i), impl.SplitsAt(p, none, i))
		}
	}
}

func TestLimitsOfPieces(t *testing.T) {
	if impl.MaxRules != 8 || impl.MaxChunks != 80 {
		t.Error("a limit is not the document's")
	}
}

func TestAPieceByHand(t *testing.T) {
	p := pieceByHand()
	if !impl.PieceOk(p) {
		t.Fatal("PieceOk is false")
	}
	if got := impl.AllSplit(p); !slices.Equal(got, []int{1, 2, 1, 2}) {
		t.Errorf("AllSplit is %v", got)
	}
	if got := impl.CountOf(p); got != 36 {
		t.Errorf("CountOf is %d", got)
	}
	splitsAre(t, p, ".....", 0, 0, 0, 0)
	splitsAre(t, p, "|....", 1, 0, 0, 0)
	splitsAre(t, p, ".|..|", 0, 1, 0, 0)
	splitsAre(t, p, ".|.||", 0, 2, 0, 0)
	splitsAre(t, p, "..|..", 0, 0, 1, 0)
	splitsAre(t, p, ".....", 0, 0, 0, 2)
	splitsAre(t, p, "|||.|", 1, 1, 1, 1)
	splitsAre(t, p, "|||||", 1, 2, 1, 2)
	tiesHold(t, p, true, 0, 0, 0, 0)
	tiesHold(t, p, true, 1, 0, 0, 0)
	tiesHold(t, p, false, 0, 1, 0, 0)
	tiesHold(t, p, true, 1, 1, 0, 0)
	tiesHold(t, p, false, 1, 0, 1, 0)
	tiesHold(t, p, false, 1, 0, 0, 2)
	tiesHold(t, p, true, 1, 2, 1, 0)
	tiesHold(t, p, true, 1, 1, 0, 2)
	tiesHold(t, p, true, 1, 2, 1, 2)
	mayAllBeSplit(t, p)
}

func TestAllThatMayBeSplitMayBeSplitAtOnce(t *testing.T) {
	for seed := range int64(2000) {
		mayAllBeSplit(t, anyPiece(seed))
	}
}

func TestEachListOfValuesByWord(t *testing.T) {
	for seed := range int64(60) {
		p := anyPiece(seed)
		if len(p.Rules) > 4 {
			continue
		}
		for count := range len(p.Rules) + 2 {
			eachList(count, -1, 3, func(v []int) { isByWord(t, p, true, v) })
		}
	}
	p := pieceByHand()
	eachList(4, -1, 3, func(v []int) { isByWord(t, p, true, v) })
}

func TestSplitsAtEachValue(t *testing.T) {
	for _, values := range []int{2, 3} {
		for from := 1; from < values; from++ {
			p := rulesAlone(2, values)
			p.Chunks = []impl.Chunk{{Text: "a", Split: impl.Split{Rule: 1, From: from}}, {Text: "b"}}
			for value := range values {
				for other := range 2 {
					if got := impl.SplitsAt(p, []int{other, value}, 0); got != (value >= from) {
						t.Errorf("SplitsAt with the value %d of %d, From %d, is %v", value, values, from, got)
					}
				}
			}
			for _, value := range []int{math.MinInt, -1, values, values + 1, math.MaxInt} {
				if impl.SplitsAt(p, []int{0, value}, 0) || impl.SplitsAt(p, []int{value, values - 1}, 0) {
					t.Errorf("SplitsAt with the value %d of %d", value, values)
				}
			}
		}
	}
}

func TestSplitsAtOtherPlaces(t *testing.T) {
	p := pieceByHand()
	all := impl.AllSplit(p)
	for _, i := range []int{math.MinInt, -6, -2, -1, 5, 6, 7, impl.MaxChunks, math.MaxInt} {
		if impl.SplitsAt(p, all, i) {
			t.Errorf("SplitsAt at %d", i)
		}
	}
	for i := range 5 {
		if !impl.SplitsAt(p, all, i) {
			t.Errorf("SplitsAt at %d is false", i)
		}
	}
	for _, i := range []int{-1, 0, 1, math.MinInt, math.MaxInt} {
		if impl.SplitsAt(rulesAlone(2), []int{1}, i) || impl.SplitsAt(impl.Piece{}, nil, i) {
			t.Errorf("SplitsAt at %d of a piece with one chunk, or with none", i)
		}
	}
}

// A split asks for all values to be right, not for those of its rule alone; for ties it does not ask.
func TestSplitsAtWithOtherValues(t *testing.T) {
	p := pieceByHand()
	for _, v := range [][]int{nil, {1}, {1, 2, 1}, {1, 2, 1, 2, 0}, {1, 2, 1, 3}, {1, 2, 1, -1}, {1, 2, 2, 2}, {2, 2, 1, 2}} {
		for i := range p.Chunks {
			if impl.SplitsAt(p, v, i) {
				t.Errorf("SplitsAt at %d with %v", i, v)
			}
		}
	}
	if impl.TiesHold(p, []int{0, 1, 0, 0}) || !impl.SplitsAt(p, []int{0, 1, 0, 0}, 1) {
		t.Error("SplitsAt asks for ties")
	}
}

func TestCountOf(t *testing.T) {
	for _, row := range []struct {
		values []int
		want   int
	}{
		{nil, 1}, {[]int{2}, 2}, {[]int{3}, 3}, {[]int{2, 3}, 6}, {[]int{3, 3, 2}, 18},
		{[]int{2, 2, 2, 2, 2, 2, 2, 2}, 256}, {[]int{3, 3, 3, 3, 3, 3, 3, 3}, 6561}, {[]int{2, 3, 2, 3, 2, 3, 2, 3}, 1296},
	} {
		p := rulesAlone(row.values...)
		if got := impl.CountOf(p); got != row.want || got != countedOneByOne(p) {
			t.Errorf("CountOf with Values %v is %d; want %d, counted %d", row.values, got, row.want, countedOneByOne(p))
		}
	}
}

func TestCountOfAnyPiece(t *testing.T) {
	for seed := range int64(300) {
		p := anyPiece(seed)
		if len(p.Rules) > 5 {
			continue
		}
		if got, want := impl.CountOf(p), countedOneByOne(p); got != want {
			t.Fatalf("CountOf(%+v) is %d; want %d", p, got, want)
		}
	}
}

// The first MaxRules rules count alone, what ever the later ones are.
func TestCountOfManyRules(t *testing.T) {
	twos := []int{2, 2, 2, 2, 2, 2, 2, 2}
	for _, later := range []int{2, 3, 1, 4, 0, -1, math.MaxInt, math.MinInt} {
		if got := impl.CountOf(rulesAlone(append(twos, later)...)); got != 256 {
			t.Errorf("CountOf with a ninth rule of %d is %d", later, got)
		}
		if got := impl.CountOf(rulesAlone(append(twos, 3, later, later)...)); got != 256 {
			t.Errorf("CountOf with later rules of %d is %d", later, got)
		}
	}
	for _, wrong := range []int{1, 4, 0, -2, -3, math.MaxInt, math.MinInt} {
		for i := range impl.MaxRules {
			values := append(slices.Clone(twos), 2, 3)
			values[i] = wrong
			if got := impl.CountOf(rulesAlone(values...)); got != 0 {
				t.Errorf("CountOf with the rule %d of %d is %d", i, wrong, got)
			}
			if got := impl.CountOf(rulesAlone(values[:i+1]...)); got != 0 {
				t.Errorf("CountOf with the last rule of %d is %d", wrong, got)
			}
		}
	}
}

func TestAllSplit(t *testing.T) {
	if got := impl.AllSplit(impl.Piece{}); len(got) != 0 {
		t.Errorf("AllSplit of nothing is %v", got)
	}
	for _, row := range []struct{ values, want []int }{
		{[]int{2}, []int{1}}, {[]int{3}, []int{2}}, {[]int{3, 2, 3}, []int{2, 1, 2}},
		{[]int{2, 2, 2, 2, 3, 3, 3, 3}, []int{1, 1, 1, 1, 2, 2, 2, 2}},
		{[]int{2, 2, 2, 2, 3, 3, 3, 3, 2, 3}, []int{1, 1, 1, 1, 2, 2, 2, 2, 1, 2}},
		{[]int{4, 1, 0, math.MaxInt}, []int{3, 0, -1, math.MaxInt - 1}},
	} {
		if got := impl.AllSplit(rulesAlone(row.values...)); !slices.Equal(got, row.want) {
			t.Errorf("AllSplit with Values %v is %v; want %v", row.values, got, row.want)
		}
	}
}

func TestPiecesWithoutThisOrThat(t *testing.T) {
	isPieceOk(t, "one chunk alone", impl.Piece{Chunks: []impl.Chunk{{Text: "a"}}}, true)
	isPieceOk(t, "one chunk with nothing in it", impl.Piece{Chunks: []impl.Chunk{{}}}, true)
	isPieceOk(t, "rules without splits", rulesAlone(2, 3, 2), true)
	isPieceOk(t, "rules without splits, and ties", tiedRules([]int{2, 3, 2}, impl.Tie{Kid: 0, Up: 1}, impl.Tie{Kid: 2, Up: 1}), true)
	isPieceOk(t, "no spans", pieceWith(func(p *impl.Piece) { p.Spans = nil }), true)
	isPieceOk(t, "an empty list of spans", pieceWith(func(p *impl.Piece) { p.Spans = []impl.Span{} }), true)
	isPieceOk(t, "no ties", pieceWith(func(p *impl.Piece) { p.Ties = nil }), true)
	isPieceOk(t, "empty Texts", pieceWith(func(p *impl.Piece) {
		for i := range p.Chunks {
			p.Chunks[i].Text = ""
		}
	}), true)
	isPieceOk(t, "nothing", impl.Piece{}, false)
	isPieceOk(t, "no chunks", pieceWith(func(p *impl.Piece) { p.Chunks, p.Spans = nil, nil }), false)
	isPieceOk(t, "an empty list of chunks", rulesAloneWithout(2, 3), false)
	isPieceOk(t, "no rules and two chunks", impl.Piece{Chunks: []impl.Chunk{{Text: "a"}, {Text: "b"}}}, false)
	isPieceOk(t, "no rules and a split", impl.Piece{Chunks: []impl.Chunk{{Text: "a", Split: impl.Split{From: 1}}, {Text: "b"}}}, false)
	isPieceOk(t, "one chunk and a span", impl.Piece{Chunks: []impl.Chunk{{Text: "a"}}, Spans: []impl.Span{{}}}, false)
	isPieceOk(t, "no rules and a tie", impl.Piece{Chunks: []impl.Chunk{{Text: "a"}}, Ties: []impl.Tie{{Kid: 0, Up: 1}}}, false)
	isPieceOk(t, "a chunk without a split that is not the last one", pieceWith(func(p *impl.Piece) { p.Chunks[2].Split = impl.Split{} }), false)
}

func rulesAloneWithout(values ...int) impl.Piece {
	p := rulesAlone(values...)
	p.Chunks = []impl.Chunk{}
	return p
}

func TestTheLastSplitIsNothing(t *testing.T) {
	for _, split := range []impl.Split{{Rule: 1}, {From: 1}, {Space: true}, {Nest: 1}, {Rule: -1}, {From: -1}, {Nest: -1}, {Rule: 1, From: 1, Space: true, Nest: 4}} {
		isPieceOk(t, "something behind the last chunk", pieceWith(func(p *impl.Piece) { p.Chunks[5].Split = split }), false)
		isPieceOk(t, "something behind the one chunk", impl.Piece{Rules: []impl.Rule{{Values: 2}, {Values: 2}}, Chunks: []impl.Chunk{{Text: "a", Split: split}}}, false)
	}
	isPieceOk(t, "nothing behind the last chunk", pieceWith(func(p *impl.Piece) { p.Chunks[5].Split = impl.Split{} }), true)
}

// bounds holds a number of the piece by hand at its least and its most, and one less and one more.
func bounds(t *testing.T, why string, least int, most int, place func(p *impl.Piece) *int) {
	t.Helper()
	for _, n := range []int{math.MinInt, math.MinInt + 1, least - 1, least, most, most + 1, math.MaxInt - 1, math.MaxInt} {
		isPieceOk(t, why+" "+impl.Decimal(n), pieceWith(func(p *impl.Piece) { *place(p) = n }), n >= least && n <= most)
	}
}

func TestNumbersOfPieces(t *testing.T) {
	bounds(t, "Indent", 0, 60, func(p *impl.Piece) *int { return &p.Indent })
	bounds(t, "Values", 2, 3, func(p *impl.Piece) *int { return &p.Rules[3].Values })
	bounds(t, "Values with a split of From 2", 3, 3, func(p *impl.Piece) *int { return &p.Rules[1].Values })
	for i := range 4 {
		bounds(t, "Cost of a rule", 0, 9, func(p *impl.Piece) *int { return &p.Rules[i].Cost })
	}
	for i, most := range []int{1, 2, 1, 2, 2} {
		bounds(t, "Rule of a split", 0, 3, func(p *impl.Piece) *int {
			p.Chunks[i].Split.From = 1
			return &p.Chunks[i].Split.Rule
		})
		bounds(t, "From of a split", 1, most, func(p *impl.Piece) *int { return &p.Chunks[i].Split.From })
		bounds(t, "Nest", 0, 40, func(p *impl.Piece) *int { return &p.Chunks[i].Split.Nest })
	}
	for i := range 3 {
		bounds(t, "Cost of a span", 0, 9, func(p *impl.Piece) *int { return &p.Spans[i].Cost })
	}
	bounds(t, "From of a span to 4", 0, 4, func(p *impl.Piece) *int { return &p.Spans[0].From })
	bounds(t, "From of a span to 2", 0, 2, func(p *impl.Piece) *int { return &p.Spans[1].From })
	bounds(t, "To of a span from 0", 0, 4, func(p *impl.Piece) *int { return &p.Spans[0].To })
	bounds(t, "To of a span from 2", 2, 4, func(p *impl.Piece) *int { return &p.Spans[1].To })
	bounds(t, "Kid of a tie to 0", 1, 3, func(p *impl.Piece) *int { return &p.Ties[2].Kid })
	bounds(t, "Up of a tie from 3", 0, 2, func(p *impl.Piece) *int { return &p.Ties[1].Up })
}

func TestSpansUpToTheLastSplit(t *testing.T) {
	for last := 1; last < impl.MaxChunks; last++ {
		p := rulesAlone(2)
		p.Chunks = append(slices.Repeat([]impl.Chunk{{Text: "a", Split: impl.Split{From: 1}}}, last), impl.Chunk{Text: "b"})
		p.Spans = []impl.Span{{From: last - 1, To: last - 1}, {From: 0, To: last - 1}}
		isPieceOk(t, "spans up to the last place but one", p, true)
		p.Spans = []impl.Span{{From: last - 1, To: last}}
		isPieceOk(t, "To at the last place", p, false)
		p.Spans = []impl.Span{{From: last, To: last}}
		isPieceOk(t, "From at the last place", p, false)
		p.Spans = []impl.Span{{From: last, To: last - 1}}
		isPieceOk(t, "From above To", p, false)
	}
}

func TestSizesOfLists(t *testing.T) {
	for _, extra := range []int{0, 1, 2, 100} {
		rules := pieceWith(func(p *impl.Piece) {
			p.Rules = append(p.Rules, slices.Repeat([]impl.Rule{{Values: 2}}, impl.MaxRules-4+extra)...)
		})
		isPieceOk(t, "MaxRules rules and some more", rules, extra == 0)
		chunks := pieceWith(func(p *impl.Piece) {
			p.Chunks = append(slices.Repeat(p.Chunks[:1], impl.MaxChunks-6+extra), p.Chunks...)
		})
		isPieceOk(t, "MaxChunks chunks and some more", chunks, extra == 0)
		spans := pieceWith(func(p *impl.Piece) { p.Spans = slices.Repeat(p.Spans[:1], mostSpans+extra) })
		isPieceOk(t, "40 spans and some more", spans, extra == 0)
		ties := pieceWith(func(p *impl.Piece) { p.Ties = slices.Repeat(p.Ties[:1], mostTies+extra) })
		isPieceOk(t, "20 ties and some more", ties, extra == 0)
	}
	isPieceOk(t, "MaxRules rules, the last one split and tied", pieceWith(func(p *impl.Piece) {
		p.Rules = append(p.Rules, slices.Repeat([]impl.Rule{{Values: 3}}, impl.MaxRules-4)...)
		p.Chunks[0].Split = impl.Split{Rule: impl.MaxRules - 1, From: 2}
		p.Ties[0] = impl.Tie{Kid: impl.MaxRules - 1, Up: impl.MaxRules - 2}
	}), true)
}

func TestBytesOfTexts(t *testing.T) {
	for i := range pieceByHand().Chunks {
		for one := range 256 {
			for _, text := range []string{string([]byte{byte(one)}), "a" + string([]byte{byte(one)}), string([]byte{byte(one)}) + "b"} {
				p := pieceWith(func(p *impl.Piece) { p.Chunks[i].Text = text })
				if got := impl.PieceOk(p); got != (one >= 32 && one <= 126) {
					t.Fatalf("PieceOk with the Text %q at %d is %v", text, i, got)
				}
			}
		}
		isPieceOk(t, "a long Text", pieceWith(func(p *impl.Piece) { p.Chunks[i].Text = strings.Repeat("~ ", impl.MaxText) }), true)
		isPieceOk(t, "a wrong byte behind many", pieceWith(func(p *impl.Piece) { p.Chunks[i].Text = strings.Repeat("~ ", impl.MaxText) + "\n" }), false)
	}
}

func TestValuesOk(t *testing.T) {
	p := rulesAlone(2, 3)
	areValues(t, p, true, 0, 0)
	areValues(t, p, true, 1, 2)
	areValues(t, p, true, 0, 1)
	areValues(t, p, false, 2, 0)
	areValues(t, p, false, 0, 3)
	areValues(t, p, false, -1, 0)
	areValues(t, p, false, 0, -1)
	areValues(t, p, false, 0, math.MaxInt)
	areValues(t, p, false, math.MinInt, 0)
	areValues(t, p, false)
	areValues(t, p, false, 0)
	areValues(t, p, false, 0, 0, 0)
	areValues(t, rulesAlone(), true)
	areValues(t, rulesAlone(), true, []int{}...)
	areValues(t, rulesAlone(), false, 0)
}

// Values are right or not by the rules alone, what ever else the piece is.
func TestValuesOfOtherPieces(t *testing.T) {
	p := impl.Piece{Indent: -1, Rules: []impl.Rule{{Values: 2, Cost: -5}, {Values: 7, Cost: 99}, {Values: 1}}, Spans: []impl.Span{{From: 3, To: 1}}}
	areValues(t, p, true, 1, 6, 0)
	areValues(t, p, false, 1, 7, 0)
	areValues(t, p, false, 1, 6, 1)
	tiesHold(t, p, true, 1, 6, 0)
	areValues(t, rulesAlone(0), false, 0)
	areValues(t, rulesAlone(0), false, -1)
	areValues(t, rulesAlone(-2), false, -3)
	areValues(t, rulesAlone(math.MinInt), false, 0)
	areValues(t, rulesAlone(math.MinInt), false, math.MaxInt)
	areValues(t, rulesAlone(math.MinInt), false, math.MinInt)
	areValues(t, rulesAlone(math.MaxInt), true, math.MaxInt-1)
	areValues(t, rulesAlone(math.MaxInt), false, math.MaxInt)
	many := rulesAlone(slices.Repeat([]int{2}, 300)...)
	areValues(t, many, true, slices.Repeat([]int{1}, 300)...)
	areValues(t, many, false, slices.Repeat([]int{1}, 299)...)
	areValues(t, many, false, append(slices.Repeat([]int{1}, 299), 2)...)
}

func TestOneTie(t *testing.T) {
	for _, values := range [][]int{{2, 2}, {3, 3}, {2, 3}, {3, 2}} {
		p := tiedRules(values, impl.Tie{Kid: 0, Up: 1})
		for kid := range values[0] {
			for up := range values[1] {
				tiesHold(t, p, kid == 0 || up > 0, kid, up)
			}
		}
		tiesHold(t, p, false, 0)
		tiesHold(t, p, false)
		tiesHold(t, p, false, 0, 0, 0)
		tiesHold(t, p, false, 0, values[1])
		tiesHold(t, p, false, values[0], 1)
		tiesHold(t, p, false, 0, -1)
		tiesHold(t, p, false, -1, 0)
	}
}

func TestSeveralTies(t *testing.T) {
	threes := []int{3, 3, 3}
	rows := map[string]struct {
		ties  []impl.Tie
		holds func(a, b, c bool) bool
	}{
		"no ties":        {nil, func(a, b, c bool) bool { return true }},
		"two on one Up":  {[]impl.Tie{{Kid: 0, Up: 2}, {Kid: 1, Up: 2}}, func(a, b, c bool) bool { return c || !a && !b }},
		"two on one Kid": {[]impl.Tie{{Kid: 2, Up: 0}, {Kid: 2, Up: 1}}, func(a, b, c bool) bool { return !c || a && b }},
		"a row":          {[]impl.Tie{{Kid: 0, Up: 1}, {Kid: 1, Up: 2}}, func(a, b, c bool) bool { return !a && !b || !a && c || b && c }},
		"both ways":      {[]impl.Tie{{Kid: 0, Up: 1}, {Kid: 1, Up: 0}}, func(a, b, c bool) bool { return a == b }},
		"a ring":         {[]impl.Tie{{Kid: 0, Up: 1}, {Kid: 1, Up: 2}, {Kid: 2, Up: 0}}, func(a, b, c bool) bool { return a == b && b == c }},
		"one twice":      {[]impl.Tie{{Kid: 1, Up: 0}, {Kid: 1, Up: 0}}, func(a, b, c bool) bool { return a || !b }},
	}
	for why, row := range rows {
		p := tiedRules(threes, row.ties...)
		isPieceOk(t, why, p, true)
		eachList(3, 0, 2, func(v []int) {
			if got := impl.TiesHold(p, v); got != row.holds(v[0] > 0, v[1] > 0, v[2] > 0) {
				t.Errorf("TiesHold with %s at %v is %v", why, v, got)
			}
		})
	}
}

// A piece whose ties are not right has answers, too: a tie of a rule with itself holds, and none does of a rule that is not there.
func TestTiesThatAreNotRight(t *testing.T) {
	self := tiedRules([]int{2, 2}, impl.Tie{Kid: 1, Up: 1})
	isPieceOk(t, "a tie of a rule with itself", self, false)
	eachList(2, 0, 1, func(v []int) { tiesHold(t, self, true, v...) })
	for _, wrong := range []int{math.MinInt, -1, 2, 3, impl.MaxRules, 64, math.MaxInt} {
		for _, tie := range []impl.Tie{{Kid: wrong, Up: 0}, {Kid: 0, Up: wrong}, {Kid: wrong, Up: wrong}, {Kid: wrong, Up: 1}, {Kid: 1, Up: wrong}} {
			for _, ties := range [][]impl.Tie{{tie}, {{Kid: 0, Up: 1}, tie}, {tie, {Kid: 1, Up: 0}}} {
				p := tiedRules([]int{2, 2}, ties...)
				isPieceOk(t, "a tie of a rule that there is not", p, false)
				eachList(2, 0, 1, func(v []int) { tiesHold(t, p, false, v...) })
			}
		}
	}
	tiesHold(t, impl.Piece{Ties: []impl.Tie{{}}}, false)
	tiesHold(t, impl.Piece{}, true)
}

func TestTiesOfManyRules(t *testing.T) {
	const count = 200
	p := rulesAlone(slices.Repeat([]int{2}, count)...)
	for i := range count - 1 {
		p.Ties = append(p.Ties, impl.Tie{Kid: i + 1, Up: i})
	}
	for raised := range count + 1 {
		v := append(slices.Repeat([]int{1}, raised), make([]int, count-raised)...)
		tiesHold(t, p, true, v...)
		slices.Reverse(v)
		tiesHold(t, p, raised == 0 || raised == count, v...)
	}
	p.Ties = append(p.Ties, impl.Tie{Kid: count, Up: 0})
	tiesHold(t, p, false, make([]int, count)...)
}

// numbersIn has each number of a piece, to be turned.
func numbersIn(p *impl.Piece) []*int {
	places := []*int{&p.Indent}
	for i := range p.Rules {
		places = append(places, &p.Rules[i].Values, &p.Rules[i].Cost)
	}
	for i := range p.Chunks {
		places = append(places, &p.Chunks[i].Split.Rule, &p.Chunks[i].Split.From, &p.Chunks[i].Split.Nest)
	}
	for i := range p.Spans {
		places = append(places, &p.Spans[i].From, &p.Spans[i].To, &p.Spans[i].Cost)
	}
	for i := range p.Ties {
		places = append(places, &p.Ties[i].Kid, &p.Ties[i].Up)
	}
	return places
}

var oddNumbers = []int{math.MinInt, math.MinInt + 1, -2, -1, 0, 1, 2, 3, 4, 5, 6, 7, 8, 9, 10, 39, 40, 41, 59, 60, 61, 78, 79, 80, math.MaxInt - 1, math.MaxInt}

func TestTurnedPiecesByWord(t *testing.T) {
	for seed := range int64(50) {
		p := anyPiece(seed)
		if seed == 0 {
			p = pieceByHand()
		}
		all := impl.AllSplit(p)
		for _, place := range numbersIn(&p) {
			held := *place
			for _, odd := range oddNumbers {
				*place = odd
				right := pieceByWord(p)
				if impl.PieceOk(p) != right {
					t.Fatalf("PieceOk(%+v) is %v", p, impl.PieceOk(p))
				}
				if len(p.Chunks) < 20 {
					isByWord(t, p, right, all)
				}
				if got := impl.AllSplit(p); len(got) != len(p.Rules) {
					t.Fatalf("AllSplit(%+v) is %v", p, got)
				}
				if count := impl.CountOf(p); (count == 0) != hasOddRule(p) {
					t.Fatalf("CountOf(%+v) is %d", p, count)
				}
			}
			*place = held
		}
	}
}

func hasOddRule(p impl.Piece) bool {
	return slices.ContainsFunc(p.Rules, func(rule impl.Rule) bool { return rule.Values != 2 && rule.Values != 3 })
}

// withRoom copies a list into one with spare room, in which the last thing of the list stands again.
func withRoom[T any](list []T) []T {
	room := append(slices.Clone(list), list[len(list)-1], list[len(list)-1])
	return room[:len(list)]
}

// roomyPiece is the piece by hand with spare room behind each of its lists.
func roomyPiece() impl.Piece {
	p := pieceByHand()
	p.Rules, p.Chunks, p.Spans, p.Ties = withRoom(p.Rules), withRoom(p.Chunks), withRoom(p.Spans), withRoom(p.Ties)
	return p
}

// heldWithRoom looks at a piece and a list of values as they are, their spare room too; what it tells is to be called behind all that might change them.
func heldWithRoom(t *testing.T, p impl.Piece, v []int) func() {
	whole := p
	whole.Rules, whole.Chunks, whole.Spans, whole.Ties = p.Rules[:cap(p.Rules)], p.Chunks[:cap(p.Chunks)], p.Spans[:cap(p.Spans)], p.Ties[:cap(p.Ties)]
	before, values := clonePiece(whole), slices.Clone(v[:cap(v)])
	return func() {
		t.Helper()
		if !reflect.DeepEqual(whole, before) || !slices.Equal(v[:cap(v)], values) {
			t.Errorf("the piece is %+v, the values are %v", whole, v[:cap(v)])
		}
	}
}

func TestPiecesAreLeftAsTheyAre(t *testing.T) {
	p, v := roomyPiece(), withRoom([]int{1, 2, 1, 2})
	isLeft := heldWithRoom(t, p, v)
	for _, list := range [][]int{v, v[:3], nil} {
		impl.PieceOk(p)
		impl.ValuesOk(p, list)
		impl.SplitsAt(p, list, 1)
		impl.TiesHold(p, list)
		impl.CountOf(p)
		all := impl.AllSplit(p)
		for i := range all[:cap(all)] {
			all[:cap(all)][i] = 77
		}
	}
	isLeft()
}

func TestAllSplitIsNewMemory(t *testing.T) {
	p := pieceByHand()
	first, second := impl.AllSplit(p), impl.AllSplit(p)
	for i := range first {
		first[i] = -1
	}
	if want := []int{1, 2, 1, 2}; !slices.Equal(second, want) || !slices.Equal(impl.AllSplit(p), want) {
		t.Errorf("AllSplit is %v, then %v", second, impl.AllSplit(p))
	}
	p.Rules[0].Values = 3
	if second[0] != 1 || impl.AllSplit(p)[0] != 2 {
		t.Errorf("AllSplit is %v behind a change of the rules", second)
	}
}
