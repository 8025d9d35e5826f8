package tests

import (
	"math"
	"math/rand"
	"slices"
	"strings"
	"testing"

	"loop.example/g00459/impl"
)

// nextByWord looks for the list behind v that keeps the longest beginning of it: one value is raised, all behind it are 0.
func nextByWord(p impl.Piece, v []int) ([]int, bool) {
	if !valuesByWord(p, v) {
		return nil, false
	}
	for keep := len(v) - 1; keep >= 0; keep-- {
		next := make([]int, len(v))
		copy(next, v[:keep+1])
		next[keep]++
		if valuesByWord(p, next) {
			return next, true
		}
	}
	return nil, false
}

// rightLists has all right lists of a piece whose rules have at most 3 Values, in the order of eachList, in which the last place counts fastest.
func rightLists(p impl.Piece) [][]int {
	lists := [][]int{}
	eachList(len(p.Rules), 0, 2, func(v []int) {
		if valuesByWord(p, v) {
			lists = append(lists, slices.Clone(v))
		}
	})
	return lists
}

// bestByWord writes the lines of all lists whose ties hold, and takes the first of those that cost the least.
func bestByWord(p impl.Piece, width int) ([]int, impl.Cost) {
	best, least := []int(nil), impl.Cost{Over: math.MaxInt, Sum: math.MaxInt}
	for _, v := range rightLists(p) {
		if !tiesByWord(p, v) {
			continue
		}
		over, sum := overByWord(linesByWord(p, v), width), sumByWord(p, v)
		if over < least.Over || over == least.Over && sum < least.Sum {
			best, least = v, impl.Cost{Over: over, Sum: sum}
		}
	}
	return best, least
}

func nextIs(t *testing.T, p impl.Piece, v []int, want ...int) {
	t.Helper()
	if got, ok := impl.NextOf(p, v); !ok || !slices.Equal(got, want) {
		t.Errorf("NextOf(%+v, %v) is %v, %v; want %v", p, v, got, ok, want)
	}
}

func nextIsNone(t *testing.T, p impl.Piece, v ...int) {
	t.Helper()
	if got, ok := impl.NextOf(p, v); ok || len(got) != 0 {
		t.Errorf("NextOf(%+v, %v) is %v, %v", p, v, got, ok)
	}
}

func nextIsByWord(t *testing.T, p impl.Piece, v []int) {
	t.Helper()
	want, more := nextByWord(p, v)
	if got, ok := impl.NextOf(p, v); ok != more || !slices.Equal(got, want) {
		t.Fatalf("NextOf(%+v, %v) is %v, %v; want %v, %v", p, v, got, ok, want, more)
	}
}

// goesThroughAll holds the lists from all 0 on, one behind the other, of a piece whose rules have 2 or 3 Values.
func goesThroughAll(t *testing.T, p impl.Piece) {
	t.Helper()
	v, count := make([]int, len(p.Rules)), 1
	for {
		if !impl.ValuesOk(p, v) {
			t.Fatalf("NextOf of %+v comes to %v", p, v)
		}
		next, ok := impl.NextOf(p, v)
		if !ok {
			if len(next) != 0 {
				t.Fatalf("NextOf(%+v, %v) is %v and false", p, v, next)
			}
			break
		}
		if impl.Compare(v, next) != -1 {
			t.Fatalf("NextOf(%+v, %v) is %v", p, v, next)
		}
		v = next
		count++
	}
	if all := impl.AllSplit(p); count != impl.CountOf(p) || !slices.Equal(v, all) {
		t.Fatalf("NextOf of %+v tells %d lists up to %v; want %d up to %v", p, count, v, impl.CountOf(p), all)
	}
}

func bestIs(t *testing.T, p impl.Piece, width int, cost impl.Cost, want ...int) {
	t.Helper()
	got, least, ok := impl.BestOf(p, width)
	if !ok || least != cost || !slices.Equal(got, want) {
		t.Errorf("BestOf(%+v, %d) is %v, %+v, %v; want %v, %+v", p, width, got, least, ok, want, cost)
	}
	isCheapest(t, p, width)
}

func bestIsByWord(t *testing.T, p impl.Piece, width int) {
	t.Helper()
	want, cost := bestByWord(p, width)
	if got, least, ok := impl.BestOf(p, width); !ok || least != cost || !slices.Equal(got, want) {
		t.Fatalf("BestOf(%+v, %d) is %v, %+v, %v; want %v, %+v", p, width, got, least, ok, want, cost)
	}
}

// isCheapest holds promise 10 for a right piece: the best one against all others, by what each of them costs.
func isCheapest(t *testing.T, p impl.Piece, width int) {
	t.Helper()
	best, least, ok := impl.BestOf(p, width)
	if !ok || !impl.TiesHold(p, best) || impl.CostOf(p, best, width) != least {
		t.Fatalf("BestOf(%+v, %d) is %v, %+v, %v", p, width, best, least, ok)
	}
	for _, v := range rightLists(p) {
		if !impl.TiesHold(p, v) {
			continue
		}
		cost := impl.CostOf(p, v, width)
		if impl.CostLess(cost, least) || cost == least && impl.Compare(v, best) < 0 {
			t.Fatalf("BestOf(%+v, %d) is %v, %+v; %v costs %+v", p, width, best, least, v, cost)
		}
	}
}

func bestIsNone(t *testing.T, why string, p impl.Piece, width int) {
	t.Helper()
	if got, cost, ok := impl.BestOf(p, width); ok || len(got) != 0 || cost != (impl.Cost{}) {
		t.Errorf("BestOf with %s and the width %d is %v, %+v, %v", why, width, got, cost, ok)
	}
}

// smallPiece is anyPiece with fewer rules, chunks and spans, with costs that are often alike, so that all lists can be written out.
func smallPiece(seed int64) impl.Piece {
	chance := rand.New(rand.NewSource(seed))
	p := impl.Piece{Indent: chance.Intn(4)}
	for range 1 + chance.Intn(4) {
		p.Rules = append(p.Rules, impl.Rule{Values: 2 + chance.Intn(2), Cost: chance.Intn(3)})
	}
	splits := chance.Intn(8)
	for range splits {
		rule := chance.Intn(len(p.Rules))
		split := impl.Split{Rule: rule, From: 1 + chance.Intn(p.Rules[rule].Values-1), Space: chance.Intn(2) == 0, Nest: chance.Intn(5)}
		p.Chunks = append(p.Chunks, impl.Chunk{Text: strings.Repeat("x", chance.Intn(6)), Split: split})
	}
	p.Chunks = append(p.Chunks, impl.Chunk{Text: strings.Repeat("y", chance.Intn(6))})
	for range min(splits, chance.Intn(4)) {
		from := chance.Intn(splits)
		p.Spans = append(p.Spans, impl.Span{From: from, To: from + chance.Intn(splits-from), Cost: chance.Intn(3)})
	}
	for range chance.Intn(4) {
		if len(p.Rules) > 1 {
			pair := chance.Perm(len(p.Rules))
			p.Ties = append(p.Ties, impl.Tie{Kid: pair[0], Up: pair[1]})
		}
	}
	return p
}

// fullPiece has as much of all as a right piece may have, with rules of 3 Values; its Texts are of length bytes.
func fullPiece(length int) impl.Piece {
	p := impl.Piece{Indent: 60, Rules: slices.Repeat([]impl.Rule{{Values: 3, Cost: 9}}, impl.MaxRules)}
	text := strings.Repeat("x", length)
	for i := range impl.MaxChunks - 1 {
		split := impl.Split{Rule: i % impl.MaxRules, From: 1 + i/impl.MaxRules%2, Space: true, Nest: 40}
		p.Chunks = append(p.Chunks, impl.Chunk{Text: text, Split: split})
	}
	p.Chunks = append(p.Chunks, impl.Chunk{Text: text})
	for i := range mostSpans {
		p.Spans = append(p.Spans, impl.Span{From: i, To: 2*i + 1 - i/39, Cost: i % 10})
	}
	for i := range mostTies {
		p.Ties = append(p.Ties, impl.Tie{Kid: 1 + i%(impl.MaxRules-1), Up: i % (impl.MaxRules - 1)})
	}
	return p
}

func TestNextByHand(t *testing.T) {
	p := rulesAlone(2, 3)
	nextIs(t, p, []int{0, 0}, 0, 1)
	nextIs(t, p, []int{0, 1}, 0, 2)
	nextIs(t, p, []int{0, 2}, 1, 0)
	nextIs(t, p, []int{1, 0}, 1, 1)
	nextIs(t, p, []int{1, 1}, 1, 2)
	nextIsNone(t, p, 1, 2)
	mixed := pieceByHand()
	nextIs(t, mixed, []int{0, 0, 0, 0}, 0, 0, 0, 1)
	nextIs(t, mixed, []int{0, 0, 0, 2}, 0, 0, 1, 0)
	nextIs(t, mixed, []int{0, 0, 1, 1}, 0, 0, 1, 2)
	nextIs(t, mixed, []int{0, 0, 1, 2}, 0, 1, 0, 0)
	nextIs(t, mixed, []int{0, 2, 1, 1}, 0, 2, 1, 2)
	nextIs(t, mixed, []int{0, 2, 1, 2}, 1, 0, 0, 0)
	nextIs(t, mixed, []int{1, 2, 0, 2}, 1, 2, 1, 0)
	nextIs(t, mixed, []int{1, 2, 1, 1}, 1, 2, 1, 2)
	nextIsNone(t, mixed, 1, 2, 1, 2)
	goesThroughAll(t, mixed)
}

func TestOneRuleCounts(t *testing.T) {
	nextIs(t, rulesAlone(2), []int{0}, 1)
	nextIsNone(t, rulesAlone(2), 1)
	nextIs(t, rulesAlone(3), []int{0}, 1)
	nextIs(t, rulesAlone(3), []int{1}, 2)
	nextIsNone(t, rulesAlone(3), 2)
}

// All rules behind the one that is raised carry at once, however many they are.
func TestSeveralRulesCarry(t *testing.T) {
	for _, values := range [][]int{{2, 2, 2, 2, 2, 2, 2, 2}, {3, 3, 3, 3, 3, 3, 3, 3}, {2, 3, 2, 3, 2, 3, 2, 3}, {3, 3, 3, 3, 2, 2, 2, 2}} {
		p := rulesAlone(values...)
		for raised := range values {
			v, want := impl.AllSplit(p), impl.AllSplit(p)
			v[raised]--
			for i := raised + 1; i < len(values); i++ {
				want[i] = 0
			}
			nextIs(t, p, v, want...)
		}
		nextIsNone(t, p, impl.AllSplit(p)...)
	}
}

func TestTheLastRuleAloneCounts(t *testing.T) {
	p := rulesAlone(3, 2, 3, 3)
	for _, first := range [][]int{{0, 0, 0}, {1, 0, 2}, {2, 1, 0}, {2, 1, 2}} {
		nextIs(t, p, append(slices.Clone(first), 0), append(slices.Clone(first), 1)...)
		nextIs(t, p, append(slices.Clone(first), 1), append(slices.Clone(first), 2)...)
	}
}

func TestNextGoesThroughAllLists(t *testing.T) {
	goesThroughAll(t, rulesAlone())
	goesThroughAll(t, rulesAlone(3, 3, 3, 3, 3, 3, 3, 3))
	goesThroughAll(t, fullPiece(1))
	for seed := range int64(60) {
		goesThroughAll(t, anyPiece(seed))
	}
}

// The order is that of the lists themselves, whatever they cost and whether their ties hold.
func TestNextIsTheOrderOfLists(t *testing.T) {
	for seed := range int64(300) {
		p := smallPiece(seed)
		lists := rightLists(p)
		for i, v := range lists[1:] {
			nextIs(t, p, lists[i], v...)
		}
		nextIsNone(t, p, lists[len(lists)-1]...)
	}
}

func TestNextAtTheLastLists(t *testing.T) {
	p := rulesAlone(3, 3, 3, 3, 3, 3, 3, 3)
	nextIs(t, p, []int{2, 2, 2, 2, 2, 2, 2, 0}, 2, 2, 2, 2, 2, 2, 2, 1)
	nextIs(t, p, []int{2, 2, 2, 2, 2, 2, 2, 1}, 2, 2, 2, 2, 2, 2, 2, 2)
	nextIsNone(t, p, 2, 2, 2, 2, 2, 2, 2, 2)
	for seed := range int64(300) {
		p := anyPiece(seed)
		all := impl.AllSplit(p)
		nextIsNone(t, p, all...)
		if len(all) > 0 {
			ahead := slices.Clone(all)
			ahead[len(all)-1]--
			nextIs(t, p, ahead, all...)
		}
	}
}

func TestNextWithoutRules(t *testing.T) {
	for _, p := range []impl.Piece{rulesAlone(), {}, {Indent: -1}} {
		nextIsNone(t, p)
		nextIsNone(t, p, []int{}...)
		nextIsNone(t, p, 0)
		nextIsNone(t, p, 1, 0)
	}
}

func TestNextOfValuesThatAreNotRight(t *testing.T) {
	p := pieceByHand()
	for _, v := range [][]int{
		nil, {}, {0}, {0, 0, 0}, {1, 2, 1}, {0, 0, 0, 0, 0}, {1, 2, 1, 2, 0}, make([]int, 100),
		{-1, 0, 0, 0}, {0, -1, 0, 0}, {0, 0, -1, 0}, {0, 0, 0, -1}, {2, 0, 0, 0}, {0, 3, 0, 0}, {0, 0, 2, 0}, {0, 0, 0, 3},
		{0, 0, 0, math.MinInt}, {0, 0, 0, math.MaxInt}, {math.MinInt, 0, 0, 0}, {math.MaxInt, 0, 0, 0}, {0, math.MaxInt, 0, math.MinInt},
	} {
		nextIsNone(t, p, v...)
	}
	for count := range 6 {
		eachList(count, -1, 3, func(v []int) { nextIsByWord(t, p, v) })
	}
}

// NextOf asks for the values alone to be right, which they may be in a piece that is not.
func TestNextOfPiecesThatAreNotRight(t *testing.T) {
	for _, p := range notRight() {
		for _, v := range [][]int{make([]int, len(p.Rules)), impl.AllSplit(p), {0, 0, 0, 0}, {1, 1, 1, 1}, {0, 2, 1, 2}, {0, 0, 0, 3}, {1, 0, 2, 0}, {-1, 0, 0, 0}, {0, 0, 0}, nil} {
			nextIsByWord(t, p, v)
		}
	}
	wrong := pieceWith(func(p *impl.Piece) { p.Indent = -1 })
	nextIs(t, wrong, []int{0, 2, 1, 2}, 1, 0, 0, 0)
	nextIsNone(t, wrong, 1, 2, 1, 2)
	nextIsNone(t, wrong, 0, 0, 0, 3)
	goesThroughAll(t, wrong)
	goesThroughAll(t, impl.Piece{Rules: []impl.Rule{{Values: 3, Cost: -1}, {Values: 2, Cost: math.MaxInt}}, Ties: []impl.Tie{{Kid: 5, Up: 5}}})
}

func TestNextOfOtherValues(t *testing.T) {
	nextIs(t, rulesAlone(1, 4, 1), []int{0, 2, 0}, 0, 3, 0)
	nextIsNone(t, rulesAlone(1, 4, 1), 0, 3, 0)
	nextIsNone(t, rulesAlone(1), 0)
	nextIs(t, rulesAlone(2, 1, 1), []int{0, 0, 0}, 1, 0, 0)
	nextIs(t, rulesAlone(5, 100), []int{3, 99}, 4, 0)
	nextIsNone(t, rulesAlone(5, 100), 4, 99)
	nextIsNone(t, rulesAlone(5, 100), 4, 100)
	nextIs(t, rulesAlone(2, math.MaxInt), []int{0, math.MaxInt - 2}, 0, math.MaxInt-1)
	nextIs(t, rulesAlone(2, math.MaxInt), []int{0, math.MaxInt - 1}, 1, 0)
	nextIsNone(t, rulesAlone(2, math.MaxInt), 0, math.MaxInt)
	nextIsNone(t, rulesAlone(math.MaxInt), math.MaxInt-1)
	for _, values := range []int{0, -1, math.MinInt} {
		for _, value := range []int{math.MinInt, -2, -1, 0, 1, math.MaxInt} {
			nextIsNone(t, rulesAlone(values), value)
			nextIsNone(t, rulesAlone(values, 2), value, 0)
			nextIsNone(t, rulesAlone(2, values), 0, value)
		}
	}
}

func TestNextOfManyRules(t *testing.T) {
	for _, count := range []int{impl.MaxRules, impl.MaxRules + 1, 2 * impl.MaxRules, 2*impl.MaxRules + 1, 64, 65, 300} {
		p := rulesAlone(slices.Repeat([]int{3}, count)...)
		for raised := range count {
			v, want := slices.Repeat([]int{2}, count), make([]int, count)
			v[raised] = 1
			copy(want, v[:raised])
			want[raised] = 2
			nextIs(t, p, v, want...)
		}
		nextIsNone(t, p, slices.Repeat([]int{2}, count)...)
		nextIsNone(t, p, make([]int, count-1)...)
		nextIsNone(t, p, make([]int, count+1)...)
	}
	goesOn := rulesAlone(slices.Repeat([]int{2}, 12)...)
	v, count := make([]int, 12), 0
	for ok := true; ok && count <= 1<<12; count++ {
		v, ok = impl.NextOf(goesOn, v)
	}
	if count != 1<<12 {
		t.Errorf("twelve rules of 2 have %d lists", count)
	}
}

func TestBestByHand(t *testing.T) {
	p := pieceByHand()
	for _, row := range []struct {
		width int
		cost  impl.Cost
		want  []int
	}{
		{22, impl.Cost{}, []int{0, 0, 0, 0}},
		{21, impl.Cost{Sum: 3}, []int{1, 0, 0, 0}}, {18, impl.Cost{Sum: 3}, []int{1, 0, 0, 0}},
		{17, impl.Cost{Sum: 14}, []int{1, 2, 0, 0}}, {16, impl.Cost{Sum: 14}, []int{1, 2, 0, 0}},
		{15, impl.Cost{Over: 1, Sum: 14}, []int{1, 2, 0, 0}}, {13, impl.Cost{Over: 3, Sum: 14}, []int{1, 2, 0, 0}},
		{12, impl.Cost{Over: 4, Sum: 14}, []int{1, 2, 0, 0}}, {10, impl.Cost{Over: 7, Sum: 14}, []int{1, 2, 0, 0}},
		{9, impl.Cost{Over: 9, Sum: 3}, []int{1, 0, 0, 0}}, {8, impl.Cost{Over: 11, Sum: 3}, []int{1, 0, 0, 0}}, {6, impl.Cost{Over: 15, Sum: 3}, []int{1, 0, 0, 0}},
		{5, impl.Cost{Over: 17}, []int{0, 0, 0, 0}}, {0, impl.Cost{Over: 22}, []int{0, 0, 0, 0}},
	} {
		bestIs(t, p, row.width, row.cost, row.want...)
	}
	// Without the ties the second rule need not drag the first one along.
	p.Ties = nil
	bestIs(t, p, 18, impl.Cost{Sum: 3}, 1, 0, 0, 0)
	bestIs(t, p, 17, impl.Cost{Sum: 12}, 0, 2, 0, 0)
	bestIs(t, p, 12, impl.Cost{Over: 4, Sum: 12}, 0, 2, 0, 0)
}

func TestBestOfThePieceByHandByWord(t *testing.T) {
	p := pieceByHand()
	for _, width := range oddWidths {
		bestIsByWord(t, p, width)
	}
	for width := range 30 {
		bestIsByWord(t, p, width)
		isCheapest(t, p, width)
	}
}

func TestTheBestIsCheapest(t *testing.T) {
	for seed := range int64(2500) {
		p := smallPiece(seed)
		chance := rand.New(rand.NewSource(seed))
		for _, width := range []int{0, chance.Intn(10), chance.Intn(20), chance.Intn(40), oddWidths[chance.Intn(len(oddWidths))]} {
			bestIsByWord(t, p, width)
			isCheapest(t, p, width)
		}
	}
}

func TestTheBestOfAnyPieceIsCheapest(t *testing.T) {
	for seed := range int64(150) {
		p := anyPiece(seed)
		chance := rand.New(rand.NewSource(seed))
		isCheapest(t, p, chance.Intn(200))
	}
}

// Of lists that cost the same the first one by NextOf is taken.
func TestValuesThatAreAlike(t *testing.T) {
	p := chunksOf(impl.Split{}, "aaaa", "b", "cccc")
	bestIs(t, p, 9, impl.Cost{}, 0, 0)
	bestIs(t, p, 8, impl.Cost{Sum: 1}, 0, 1)
	bestIs(t, p, 5, impl.Cost{Sum: 1}, 0, 1)
	bestIs(t, p, 4, impl.Cost{Sum: 2}, 1, 1)
	p.Rules[1].Cost = 2
	bestIs(t, p, 8, impl.Cost{Sum: 1}, 1, 0)
	// Both ways are too long by the same, and cost the same.
	long := chunksOf(impl.Split{Nest: 1}, "aaaa", "", "cccc")
	bestIs(t, long, 3, impl.Cost{Over: 3, Sum: 1}, 0, 1)
	// Values 1 and 2 look alike, and cost the same, or not.
	three := chunksOf(impl.Split{}, "aaaa", "bbbb")
	three.Rules[0] = impl.Rule{Values: 3}
	bestIs(t, three, 7, impl.Cost{}, 1)
	three.Rules[0].Cost = 5
	bestIs(t, three, 7, impl.Cost{Sum: 5}, 1)
	three.Chunks[0].Split.From = 2
	bestIs(t, three, 7, impl.Cost{Sum: 10}, 2)
}

// Where nothing costs anything, all lists of lines that fit are alike.
func TestRulesOfCostZero(t *testing.T) {
	p := chunksOf(impl.Split{}, "a", "b", "c", "d", "e")
	for i := range p.Rules {
		p.Rules[i] = impl.Rule{Values: 2 + i%2}
	}
	bestIs(t, p, 5, impl.Cost{}, 0, 0, 0, 0)
	bestIs(t, p, 4, impl.Cost{}, 0, 0, 0, 1)
	bestIs(t, p, 3, impl.Cost{}, 0, 0, 1, 0)
	bestIs(t, p, 2, impl.Cost{}, 0, 1, 0, 1)
	bestIs(t, p, 1, impl.Cost{}, 1, 1, 1, 1)
	bestIs(t, p, 0, impl.Cost{Over: 5}, 0, 0, 0, 0)
	p.Spans = []impl.Span{{From: 3, To: 3, Cost: 1}, {From: 0, To: 3, Cost: 0}}
	bestIs(t, p, 4, impl.Cost{}, 0, 0, 1, 0)
	bestIs(t, p, 2, impl.Cost{}, 0, 1, 1, 0)
	bestIs(t, p, 1, impl.Cost{Sum: 1}, 1, 1, 1, 1)
}

func TestBestWithoutRules(t *testing.T) {
	p := impl.Piece{Indent: 3, Chunks: []impl.Chunk{{Text: "a + b;"}}}
	bestIs(t, p, 9, impl.Cost{})
	bestIs(t, p, 8, impl.Cost{Over: 1})
	bestIs(t, p, 0, impl.Cost{Over: 9})
	bestIs(t, impl.Piece{Chunks: []impl.Chunk{{}}}, 0, impl.Cost{})
	bestIs(t, impl.Piece{Indent: 60, Rules: []impl.Rule{}, Chunks: []impl.Chunk{{}}}, 59, impl.Cost{Over: 1})
}

// Rules without splits are 0: no other value makes a line shorter, and of those that cost nothing 0 is the first.
func TestBestOfRulesWithoutSplits(t *testing.T) {
	for _, cost := range []int{0, 1, 9} {
		p := rulesAlone(2, 3, 2)
		for i := range p.Rules {
			p.Rules[i].Cost = cost
		}
		bestIs(t, p, 1, impl.Cost{}, 0, 0, 0)
		bestIs(t, p, 0, impl.Cost{Over: 1}, 0, 0, 0)
	}
	mixed := chunksOf(impl.Split{}, "aa", "bb")
	mixed.Rules = append(mixed.Rules, impl.Rule{Values: 3}, impl.Rule{Values: 2})
	bestIs(t, mixed, 2, impl.Cost{Sum: 1}, 1, 0, 0)
	// A tie makes a rule without splits be above 0: the least value that will do.
	mixed.Ties = []impl.Tie{{Kid: 0, Up: 1}}
	bestIs(t, mixed, 2, impl.Cost{Sum: 1}, 1, 1, 0)
	mixed.Rules[1].Cost = 4
	bestIs(t, mixed, 2, impl.Cost{Sum: 5}, 1, 1, 0)
}

func TestTiesThatLeaveFewLists(t *testing.T) {
	texts := []string{"aaa", "bbb", "ccc", "ddd"}
	p := chunksOf(impl.Split{}, texts...)
	bestIs(t, p, 9, impl.Cost{Sum: 1}, 0, 0, 1)
	p.Ties = []impl.Tie{{Kid: 2, Up: 1}, {Kid: 1, Up: 0}}
	bestIs(t, p, 9, impl.Cost{Sum: 1}, 1, 0, 0)
	bestIs(t, p, 8, impl.Cost{Sum: 2}, 1, 1, 0)
	p.Ties = []impl.Tie{{Kid: 0, Up: 1}, {Kid: 2, Up: 1}}
	bestIs(t, p, 9, impl.Cost{Sum: 1}, 0, 1, 0)
	p.Ties = []impl.Tie{{Kid: 0, Up: 1}, {Kid: 1, Up: 2}, {Kid: 2, Up: 0}}
	bestIs(t, p, 12, impl.Cost{}, 0, 0, 0)
	bestIs(t, p, 11, impl.Cost{Sum: 3}, 1, 1, 1)
	bestIs(t, p, 2, impl.Cost{Over: 4, Sum: 3}, 1, 1, 1)
	// Ties of a ring ask for values above 0, not for the same values.
	for i := range p.Rules {
		p.Rules[i] = impl.Rule{Values: 3, Cost: i}
		p.Chunks[i].Split.From = 1 + i%2
	}
	bestIs(t, p, 11, impl.Cost{Sum: 3}, 1, 1, 1)
	bestIs(t, p, 5, impl.Cost{Sum: 4}, 1, 2, 1)
	all := slices.Repeat([]impl.Tie{{Kid: 2, Up: 1}}, mostTies)
	all[mostTies-1] = impl.Tie{Kid: 1, Up: 2}
	p.Ties = all
	bestIs(t, p, 9, impl.Cost{}, 1, 0, 0)
}

// When a cheaper list breaks a tie, it is not looked at, be it ahead of the best one or behind it.
func TestCheaperListsThatBreakATie(t *testing.T) {
	p := chunksOf(impl.Split{}, "aaaaaaaa", "bb", "cc")
	p.Rules = []impl.Rule{{Values: 2, Cost: 1}, {Values: 2, Cost: 7}}
	bestIs(t, p, 8, impl.Cost{Sum: 1}, 1, 0)
	p.Ties = []impl.Tie{{Kid: 0, Up: 1}}
	bestIs(t, p, 8, impl.Cost{Sum: 8}, 1, 1)
	bestIs(t, p, 10, impl.Cost{Sum: 7}, 0, 1)
	p.Ties = []impl.Tie{{Kid: 0, Up: 1}, {Kid: 1, Up: 0}}
	bestIs(t, p, 10, impl.Cost{Sum: 8}, 1, 1)
}

// What is too long counts ahead of all that it costs; of those that are too long by the same the cheaper one is taken.
func TestListsThatAreAllTooLong(t *testing.T) {
	p := chunksOf(impl.Split{}, "aaaaa", "bbbbb")
	p.Rules[0] = impl.Rule{Values: 3, Cost: 9}
	p.Spans = slices.Repeat([]impl.Span{{Cost: 9}}, mostSpans)
	bestIs(t, p, 10, impl.Cost{}, 0)
	bestIs(t, p, 9, impl.Cost{Sum: 369}, 1)
	bestIs(t, p, 4, impl.Cost{Over: 2, Sum: 369}, 1)
	bestIs(t, p, 1, impl.Cost{Over: 8, Sum: 369}, 1)
	bestIs(t, p, 0, impl.Cost{Over: 10}, 0)
	// A split makes it longer when the next line is far in.
	p.Chunks[0].Split.Nest = 40
	bestIs(t, p, 9, impl.Cost{Over: 1}, 0)
	p.Chunks[0].Split.Space = true
	p.Chunks[0].Split.Nest = 1
	bestIs(t, p, 5, impl.Cost{Over: 1, Sum: 369}, 1)
	bestIs(t, p, 0, impl.Cost{Over: 11}, 0)
}

func TestTheFirstListFits(t *testing.T) {
	for seed := range int64(500) {
		p := smallPiece(seed)
		none := make([]int, len(p.Rules))
		long := len(linesByWord(p, none)[0])
		bestIs(t, p, long, impl.Cost{}, none...)
		bestIs(t, p, long+1, impl.Cost{}, none...)
	}
}

func TestBestAtTheLimits(t *testing.T) {
	p := fullPiece(5)
	if !impl.PieceOk(p) {
		t.Fatal("PieceOk is false")
	}
	for _, width := range append([]int{100, 105, 130, 300, 538, 539}, oddWidths...) {
		isCheapest(t, p, width)
	}
	bestIs(t, p, 60+80*5+79, impl.Cost{}, make([]int, impl.MaxRules)...)
	p.Ties = nil
	isCheapest(t, p, 120)
	isCheapest(t, p, 105)
}

// The last list of all may be the best one, and so may the one just ahead of it.
func TestTheLastListIsBest(t *testing.T) {
	p := fullPiece(5)
	best, cost, ok := impl.BestOf(p, 105)
	if all := impl.AllSplit(p); !ok || !slices.Equal(best, all) || cost.Over != 0 {
		t.Errorf("BestOf is %v, %+v, %v", best, cost, ok)
	}
	for i := range p.Chunks[:impl.MaxChunks-1] {
		if p.Chunks[i].Split.Rule == impl.MaxRules-1 {
			p.Chunks[i].Split.From = 1
		}
	}
	bestIs(t, p, 105, impl.CostOf(p, []int{2, 2, 2, 2, 2, 2, 2, 1}, 105), 2, 2, 2, 2, 2, 2, 2, 1)
}

// Over of a right piece may be above that of one that is not right; there is a best list all the same.
func TestBestOfVeryLongTexts(t *testing.T) {
	p := chunksOf(impl.Split{}, strings.Repeat("x", 20*mostWidth), strings.Repeat("y", mostWidth), strings.Repeat("z", mostWidth))
	for _, width := range []int{mostWidth, mostWidth + 1, math.MaxInt} {
		bestIs(t, p, width, impl.Cost{Over: 19 * mostWidth, Sum: 2}, 1, 1)
	}
	for _, width := range []int{math.MinInt, -1, 0} {
		bestIs(t, p, width, impl.Cost{Over: 22 * mostWidth}, 0, 0)
	}
	bestIs(t, p, mostWidth-1, impl.Cost{Over: 19*mostWidth + 3, Sum: 2}, 1, 1)
	alone := impl.Piece{Chunks: []impl.Chunk{{Text: strings.Repeat("x", 12*mostWidth)}}}
	bestIs(t, alone, 0, impl.Cost{Over: 12 * mostWidth})
}

func TestBestAtOddWidths(t *testing.T) {
	p := chunksOf(impl.Split{}, strings.Repeat("x", mostWidth-1), "yy")
	for _, row := range []struct {
		width int
		cost  impl.Cost
		want  int
	}{
		{math.MinInt, impl.Cost{Over: mostWidth + 1}, 0}, {-1, impl.Cost{Over: mostWidth + 1}, 0}, {0, impl.Cost{Over: mostWidth + 1}, 0},
		{mostWidth - 1, impl.Cost{Sum: 1}, 1}, {mostWidth, impl.Cost{Sum: 1}, 1}, {mostWidth + 1, impl.Cost{Sum: 1}, 1}, {math.MaxInt, impl.Cost{Sum: 1}, 1},
	} {
		bestIs(t, p, row.width, row.cost, row.want)
	}
	p.Chunks[1].Text = "y"
	for _, width := range []int{mostWidth, mostWidth + 1, math.MaxInt} {
		bestIs(t, p, width, impl.Cost{}, 0)
	}
}

func TestBestOfPiecesThatAreNotRight(t *testing.T) {
	for why, p := range notRight() {
		for _, width := range append([]int{3, 80}, oddWidths...) {
			bestIsNone(t, why, p, width)
		}
	}
	many := rulesAlone(slices.Repeat([]int{2}, 300)...)
	bestIsNone(t, "many rules", many, 80)
	bestIsNone(t, "no rules and two chunks", impl.Piece{Chunks: []impl.Chunk{{Text: "a"}, {Text: "b"}}}, 80)
	bestIsNone(t, "one chunk and a span", impl.Piece{Chunks: []impl.Chunk{{Text: "a"}}, Spans: []impl.Span{{}}}, 80)
	bestIsNone(t, "no rules and a tie", impl.Piece{Chunks: []impl.Chunk{{Text: "a"}}, Ties: []impl.Tie{{}}}, 80)
	bestIsNone(t, "a rule of the greatest Values", rulesAlone(math.MaxInt), 80)
	bestIsNone(t, "a rule of the least Values", rulesAlone(math.MinInt), 80)
}

func TestTurnedPiecesAreBestByWord(t *testing.T) {
	for seed := range int64(25) {
		p := smallPiece(seed)
		none, all := make([]int, len(p.Rules)), impl.AllSplit(p)
		for _, place := range numbersIn(&p) {
			held := *place
			for _, odd := range oddNumbers {
				*place = odd
				nextIsByWord(t, p, none)
				nextIsByWord(t, p, all)
				if pieceByWord(p) {
					bestIsByWord(t, p, 12)
				} else {
					bestIsNone(t, "a number turned", p, 12)
				}
			}
			*place = held
		}
	}
}

func TestBestLeavesAllAsItIs(t *testing.T) {
	p, v := roomyPiece(), withRoom([]int{1, 1, 1, 2})
	isLeft := heldWithRoom(t, p, v)
	for _, list := range [][]int{v, v[:3], nil, impl.AllSplit(p)} {
		for _, width := range []int{0, 9, 16, 80} {
			next, _ := impl.NextOf(p, list)
			best, _, _ := impl.BestOf(p, width)
			for _, answer := range [][]int{next[:cap(next)], best[:cap(best)]} {
				for i := range answer {
					answer[i] = 77
				}
			}
		}
	}
	isLeft()
}

// A list that carries nowhere, one that carries, and one that is refused: none is changed, with or without spare room.
func TestNextLeavesTheListAsItIs(t *testing.T) {
	p := pieceByHand()
	for _, list := range [][]int{{0, 0, 0, 0}, {0, 2, 1, 2}, {1, 2, 1, 2}, {0, 0, 0, 3}, {0, 0, 0}, {1, 2, 1, 2, 0}} {
		for _, v := range [][]int{slices.Clip(slices.Clone(list)), withRoom(list)} {
			before := slices.Clone(v[:cap(v)])
			next, _ := impl.NextOf(p, v)
			told := slices.Clone(next)
			if !slices.Equal(v[:cap(v)], before) {
				t.Errorf("NextOf makes %v of %v", v[:cap(v)], before)
			}
			for i := range v[:cap(v)] {
				v[:cap(v)][i] = 55
			}
			if !slices.Equal(next, told) {
				t.Errorf("NextOf of %v is %v, and %v when the list is changed", list, told, next)
			}
		}
	}
}

func TestBestIsNewMemory(t *testing.T) {
	p := pieceByHand()
	for _, width := range []int{0, 16, 80} {
		first, cost, _ := impl.BestOf(p, width)
		second, _, _ := impl.BestOf(p, width)
		want := slices.Clone(second)
		for i := range first {
			first[i] = -1
		}
		third, again, ok := impl.BestOf(p, width)
		if !slices.Equal(second, want) || !slices.Equal(third, want) || again != cost || !ok {
			t.Errorf("BestOf is %v, then %v, %+v, %v", second, third, again, ok)
		}
	}
	next, _ := impl.NextOf(p, []int{0, 0, 0, 0})
	next[0] = 9
	nextIs(t, p, []int{0, 0, 0, 0}, 0, 0, 0, 1)
}
