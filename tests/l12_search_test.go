package tests

import (
	"math"
	"math/rand"
	"slices"
	"strings"
	"testing"

	"loop.example/g00459/impl"
)

// enough is a budget that all states of MaxRules rules of 3 Values are within.
const enough = 9841

var oddBudgets = []int{math.MinInt, math.MinInt + 1, -2, -1, 0, 1, 2, 3, enough - 1, enough, enough + 1, math.MaxInt - 1, math.MaxInt}

// boundByWord goes through the spans chunk by chunk, and looks for a rule that has a value and splits there.
func boundByWord(p impl.Piece, vals []int) int {
	if !pieceByWord(p) || len(vals) > len(p.Rules) {
		return 0
	}
	sum := 0
	for i, value := range vals {
		if !amongst(value, 0, p.Rules[i].Values-1) {
			return 0
		}
		sum += value * p.Rules[i].Cost
	}
	for _, span := range p.Spans {
		certain := 0
		for place := span.From; place <= span.To; place++ {
			for rule, value := range vals {
				if split := p.Chunks[place].Split; split.Rule == rule && split.From <= value {
					certain = span.Cost
				}
			}
		}
		sum += certain
	}
	return sum
}

// mayByWord holds each two of the values against all ties, and not the other way round.
func mayByWord(p impl.Piece, vals []int) bool {
	for kid, value := range vals {
		for up, above := range vals {
			if value > 0 && above <= 0 && slices.Contains(p.Ties, impl.Tie{Kid: kid, Up: up}) {
				return false
			}
		}
	}
	return true
}

// searchByWord keeps the states in a list without order, of which it takes the least each time: the Vals of those that are popped, and the best values ahead of the first of them and behind each.
func searchByWord(p impl.Piece, width int) ([][]int, [][]int) {
	best := []int{}
	for _, rule := range p.Rules {
		best = append(best, rule.Values-1)
	}
	over, sum := overByWord(linesByWord(p, best), width), sumByWord(p, best)
	popped, bests := [][]int{}, [][]int{best}
	for open := []impl.State{{}}; len(open) > 0; {
		least := slices.MinFunc(open, compareByWord)
		open = slices.DeleteFunc(open, func(state impl.State) bool { return sameState(state, least) })
		if vals := least.Vals; len(vals) == len(p.Rules) {
			thisOver, thisSum := overByWord(linesByWord(p, vals), width), sumByWord(p, vals)
			alike := thisOver == over && thisSum == sum && slices.Compare(vals, best) < 0
			if alike || thisOver < over || thisOver == over && thisSum < sum {
				best, over, sum = vals, thisOver, thisSum
			}
		} else {
			for value := 0; value < p.Rules[len(vals)].Values; value++ {
				next := slices.Concat(vals, []int{value})
				if bound := boundByWord(p, next); mayByWord(p, next) && (over > 0 || bound <= sum) {
					open = append(open, stateOf(bound, next...))
				}
			}
		}
		popped, bests = append(popped, least.Vals), append(bests, best)
	}
	return popped, bests
}

func boundIs(t *testing.T, p impl.Piece, want int, vals ...int) {
	t.Helper()
	if got := impl.Bound(p, vals); got != want || boundByWord(p, vals) != want {
		t.Errorf("Bound with %v is %d, by word %d; want %d", vals, got, boundByWord(p, vals), want)
	}
}

func mayIs(t *testing.T, p impl.Piece, want bool, vals ...int) {
	t.Helper()
	if got := impl.TiesMay(p, vals); got != want || mayByWord(p, vals) != want {
		t.Errorf("TiesMay with the ties %v and %v is %v, by word %v", p.Ties, vals, got, mayByWord(p, vals))
	}
}

func isBegunByWord(t *testing.T, p impl.Piece, vals []int) {
	t.Helper()
	if got, want := impl.Bound(p, vals), boundByWord(p, vals); got != want {
		t.Fatalf("Bound(%+v, %v) is %d; want %d", p, vals, got, want)
	}
	if got := impl.TiesMay(p, vals); got != mayByWord(p, vals) {
		t.Fatalf("TiesMay(%+v, %v) is %v", p, vals, got)
	}
}

func searchIs(t *testing.T, p impl.Piece, width int, budget int, state int, want ...int) {
	t.Helper()
	if got, ended := impl.Search(p, width, budget); ended != state || !slices.Equal(got, want) {
		t.Errorf("Search(%+v, %d, %d) is %v, %d; want %v, %d", p, width, budget, got, ended, want, state)
	}
}

func nothingIsFound(t *testing.T, why string, p impl.Piece, width int, budget int) {
	t.Helper()
	if got, ended := impl.Search(p, width, budget); len(got) != 0 || ended != 0 {
		t.Errorf("Search with %s, the width %d and the budget %d is %v, %d", why, width, budget, got, ended)
	}
}

// isFound holds promise 12 for a right piece: what is found by trying is the cheapest, or no dearer than all split.
func isFound(t *testing.T, p impl.Piece, width int, budget int) {
	t.Helper()
	found, ended := impl.Search(p, width, budget)
	if !impl.ValuesOk(p, found) || !impl.TiesHold(p, found) {
		t.Fatalf("Search(%+v, %d, %d) is %v, %d", p, width, budget, found, ended)
	}
	best, least, _ := impl.BestOf(p, width)
	cost, all := impl.CostOf(p, found, width), impl.CostOf(p, impl.AllSplit(p), width)
	switch {
	case ended == impl.StBest && slices.Equal(found, best) && cost == least && budget > 0:
	case ended == impl.StSoFar && !impl.CostLess(all, cost) && budget < enough:
	default:
		t.Fatalf("Search(%+v, %d, %d) is %v, %d, which costs %+v; the best is %v, which costs %+v; all split costs %+v", p, width, budget, found, ended, cost, best, least, all)
	}
}

// isSearchedByWord holds Search at each budget from below 0 to above as many as are popped.
func isSearchedByWord(t *testing.T, p impl.Piece, width int) {
	t.Helper()
	popped, bests := searchByWord(p, width)
	for budget := -1; budget <= len(popped)+1; budget++ {
		want, state := bests[min(max(budget, 0), len(popped))], impl.StBest
		if budget < len(popped) {
			state = impl.StSoFar
		}
		if got, ended := impl.Search(p, width, budget); ended != state || !slices.Equal(got, want) {
			t.Fatalf("Search(%+v, %d, %d) is %v, %d; want %v, %d; popped are %v", p, width, budget, got, ended, want, state, popped)
		}
	}
}

// step is a state that is popped, and the best one behind that, both with their values as figures.
type step struct{ popped, best string }

func figuresOf(v []int) string {
	text := ""
	for _, value := range v {
		text += impl.Decimal(value)
	}
	return text
}

// stepsAre holds a search that was reckoned by hand: each budget up to all its steps leaves it behind another one of them.
func stepsAre(t *testing.T, p impl.Piece, width int, steps ...step) {
	t.Helper()
	popped, _ := searchByWord(p, width)
	if len(popped) != len(steps) {
		t.Errorf("%v are popped; want %d steps", popped, len(steps))
		return
	}
	for i, vals := range popped {
		if figuresOf(vals) != steps[i].popped {
			t.Errorf("popped at %d is %v; want %s", i, vals, steps[i].popped)
		}
	}
	isSearchedByWord(t, p, width)
	searchIs(t, p, width, 0, impl.StSoFar, impl.AllSplit(p)...)
	for i, one := range steps {
		state := impl.StSoFar
		if i == len(steps)-1 {
			state = impl.StBest
		}
		if got, ended := impl.Search(p, width, i+1); figuresOf(got) != one.best || ended != state {
			t.Errorf("Search with the width %d and the budget %d is %v, %d; want %s, %d", width, i+1, got, ended, one.best, state)
		}
	}
}

// tiedByHand has a rule of 2 Values and one of 3 that is tied to it.
func tiedByHand() impl.Piece {
	return impl.Piece{
		Indent: 2,
		Rules:  []impl.Rule{{Values: 2, Cost: 1}, {Values: 3, Cost: 1}},
		Chunks: []impl.Chunk{
			{Text: "a =", Split: impl.Split{Rule: 0, From: 1, Space: true, Nest: 4}},
			{Text: "f(", Split: impl.Split{Rule: 1, From: 1, Nest: 4}},
			{Text: "x,", Split: impl.Split{Rule: 1, From: 2, Space: true, Nest: 4}},
			{Text: "y)"},
		},
		Ties: []impl.Tie{{Kid: 1, Up: 0}},
	}
}

// shorterByRule is a piece of width 0 in which each split of a rule takes one byte away, as many times as told, but that of the last rule, which adds 40: all split is the worst, and each other list is too long by its own number of bytes.
func shorterByRule(costs []int, bytes ...int) impl.Piece {
	p := impl.Piece{}
	for rule, count := range bytes {
		p.Rules = append(p.Rules, impl.Rule{Values: 2, Cost: costs[rule]})
		for range count {
			p.Chunks = append(p.Chunks, impl.Chunk{Text: "x", Split: impl.Split{Rule: rule, From: 1, Space: true}})
		}
	}
	last := len(bytes)
	p.Rules = append(p.Rules, impl.Rule{Values: 2, Cost: costs[last]})
	p.Chunks = append(p.Chunks, impl.Chunk{Text: "x", Split: impl.Split{Rule: last, From: 1, Nest: 40}}, impl.Chunk{Text: "x"})
	return p
}

func TestNumbersOfTheSearch(t *testing.T) {
	if impl.StBest != 1 || impl.StSoFar != 2 {
		t.Error("a number is not the document's")
	}
}

func TestBoundByHand(t *testing.T) {
	p := pieceByHand()
	boundIs(t, p, 0)
	boundIs(t, p, 0, 0)
	boundIs(t, p, 3, 1)
	boundIs(t, p, 0, 0, 0)
	boundIs(t, p, 11, 0, 1)
	boundIs(t, p, 12, 0, 2)
	boundIs(t, p, 3, 1, 0)
	boundIs(t, p, 13, 1, 1)
	boundIs(t, p, 14, 1, 2)
	boundIs(t, p, 0, 0, 0, 0)
	boundIs(t, p, 10, 0, 0, 1)
	boundIs(t, p, 12, 1, 0, 1)
	boundIs(t, p, 14, 1, 2, 1)
	boundIs(t, p, 0, 0, 0, 0, 0)
	boundIs(t, p, 9, 0, 0, 0, 1)
	boundIs(t, p, 18, 0, 0, 0, 2)
	boundIs(t, p, 32, 1, 2, 1, 2)
	tied := tiedByHand()
	boundIs(t, tied, 1, 1)
	boundIs(t, tied, 3, 1, 2)
	// A tie that is broken changes nothing of what the values cost.
	boundIs(t, tied, 2, 0, 2)
}

func TestBoundWithoutRules(t *testing.T) {
	for _, p := range []impl.Piece{rulesAlone(), {Chunks: []impl.Chunk{{}}}, {Indent: 60, Rules: []impl.Rule{}, Chunks: []impl.Chunk{{Text: "a"}}}} {
		boundIs(t, p, 0)
		boundIs(t, p, 0, []int{}...)
		boundIs(t, p, 0, 0)
		boundIs(t, p, 0, 1)
		mayIs(t, p, true)
		mayIs(t, p, true, 1, 0)
	}
}

// A Span costs for certain when a rule among the first splits in it, not when a later one may.
func TestSpansOfABound(t *testing.T) {
	p := chunksOf(impl.Split{}, "a", "b", "c", "d")
	for i, cost := range []int{1, 0, 0} {
		p.Rules[i].Cost = cost
	}
	p.Spans = []impl.Span{{From: 0, To: 0, Cost: 2}, {From: 0, To: 1, Cost: 3}, {From: 1, To: 2, Cost: 4}, {From: 2, To: 2, Cost: 7}, {From: 0, To: 2, Cost: 0}}
	boundIs(t, p, 0)
	boundIs(t, p, 0, 0)
	boundIs(t, p, 6, 1)
	boundIs(t, p, 7, 0, 1)
	boundIs(t, p, 10, 1, 1)
	boundIs(t, p, 6, 1, 0)
	boundIs(t, p, 0, 0, 0)
	boundIs(t, p, 11, 0, 0, 1)
	boundIs(t, p, 14, 0, 1, 1)
	boundIs(t, p, 17, 1, 1, 1)
	boundIs(t, p, 17, 1, 0, 1)
	// Spans that are the same cost each for itself; a span with two splits costs once.
	p.Spans = []impl.Span{{From: 0, To: 2, Cost: 5}, {From: 0, To: 2, Cost: 5}}
	boundIs(t, p, 11, 1)
	boundIs(t, p, 11, 1, 1)
	boundIs(t, p, 11, 1, 1, 1)
	boundIs(t, p, 10, 0, 1)
}

// The tie says that the second rule will split, too; it is not among the first ones.
func TestATieAddsNothingToABound(t *testing.T) {
	p := chunksOf(impl.Split{}, "a", "b", "c")
	p.Spans = []impl.Span{{From: 1, To: 1, Cost: 9}}
	p.Ties = []impl.Tie{{Kid: 0, Up: 1}}
	boundIs(t, p, 1, 1)
	boundIs(t, p, 11, 1, 1)
	boundIs(t, p, 1, 1, 0)
}

// A value below From of a split does not split there.
func TestBoundOfEachValue(t *testing.T) {
	for _, from := range []int{1, 2} {
		p := chunksOf(impl.Split{}, "a", "b")
		p.Rules = []impl.Rule{{Values: 3, Cost: 2}}
		p.Chunks[0].Split.From = from
		p.Spans = []impl.Span{{Cost: 5}}
		boundIs(t, p, 0, 0)
		boundIs(t, p, 2+5*(2-from), 1)
		boundIs(t, p, 9, 2)
		p.Rules[0].Cost = 0
		boundIs(t, p, 5, 2)
		p.Spans[0].Cost = 0
		boundIs(t, p, 0, 2)
	}
}

func TestBoundOfRulesWithoutSplits(t *testing.T) {
	p := rulesAlone(2, 3, 3)
	boundIs(t, p, 0, 1, 2, 2)
	for i, cost := range []int{4, 9, 1} {
		p.Rules[i].Cost = cost
	}
	boundIs(t, p, 4, 1)
	boundIs(t, p, 22, 1, 2)
	boundIs(t, p, 24, 1, 2, 2)
	boundIs(t, p, 9, 0, 1, 0)
}

func TestBoundAtTheLimits(t *testing.T) {
	p := fullPiece(1)
	for i := range p.Spans {
		p.Spans[i] = impl.Span{From: i, To: impl.MaxChunks - 2, Cost: 9}
	}
	boundIs(t, p, 0)
	boundIs(t, p, 0, make([]int, impl.MaxRules)...)
	boundIs(t, p, 8*18+40*9, impl.AllSplit(p)...)
	boundIs(t, p, 18+40*9, 2)
	boundIs(t, p, 0, make([]int, impl.MaxRules+1)...)
	for count := range impl.MaxRules + 1 {
		isBegunByWord(t, p, slices.Repeat([]int{1}, count))
		isBegunByWord(t, p, slices.Repeat([]int{2}, count))
		isBegunByWord(t, p, append(make([]int, impl.MaxRules-count), impl.AllSplit(p)[:count]...))
	}
}

// boundsAll holds what a beginning promises of all lists that begin with it: they cost no less, and one of them costs just that; where TiesMay is false, no ties hold.
func boundsAll(t *testing.T, p impl.Piece) {
	t.Helper()
	lists := rightLists(p)
	for count := range len(p.Rules) + 1 {
		least := map[string]int{}
		for _, v := range lists {
			vals := v[:count]
			bound, may, sum := impl.Bound(p, vals), impl.TiesMay(p, vals), impl.CostOf(p, v, 20).Sum
			if bound > sum || count > 0 && bound < impl.Bound(p, vals[:count-1]) || bound != boundByWord(p, vals) {
				t.Fatalf("Bound(%+v, %v) is %d; with %v the Sum is %d", p, vals, bound, v, sum)
			}
			if !may && impl.TiesHold(p, v) || may != mayByWord(p, vals) {
				t.Fatalf("TiesMay(%+v, %v) is %v; with %v TiesHold is %v", p, vals, may, v, impl.TiesHold(p, v))
			}
			if count == len(p.Rules) && (bound != sum || may != impl.TiesHold(p, v)) {
				t.Fatalf("Bound of all values of %+v, %v, is %d, TiesMay %v", p, v, bound, may)
			}
			if over, ok := least[figuresOf(vals)]; !ok || sum-bound < over {
				least[figuresOf(vals)] = sum - bound
			}
		}
		for vals, over := range least {
			if over != 0 {
				t.Fatalf("Bound of %+v and %s is %d too low", p, vals, over)
			}
		}
	}
}

func TestBeginningsOfAllLists(t *testing.T) {
	boundsAll(t, pieceByHand())
	boundsAll(t, tiedByHand())
	boundsAll(t, rulesAlone())
	for seed := range int64(700) {
		boundsAll(t, smallPiece(seed))
	}
}

func TestBeginningsOfAnyPiece(t *testing.T) {
	for seed := range int64(1500) {
		p := anyPiece(seed)
		chance := rand.New(rand.NewSource(seed))
		for count := range len(p.Rules) + 1 {
			vals := []int{}
			for _, rule := range p.Rules[:count] {
				vals = append(vals, chance.Intn(rule.Values))
			}
			isBegunByWord(t, p, vals)
			isBegunByWord(t, p, impl.AllSplit(p)[:count])
		}
	}
}

func TestBoundOfValuesThatAreNotRight(t *testing.T) {
	p := pieceByHand()
	for _, vals := range [][]int{
		{-1}, {2}, {1, -1}, {1, 3}, {1, 2, 2}, {1, 2, -1}, {1, 2, 1, 3}, {1, 2, 1, -1}, {-1, 2, 1, 2}, {2, 2, 1, 2}, {1, 2, 1, 2, 0}, {1, 2, 1, 2, 1},
		{math.MinInt}, {math.MaxInt}, {1, math.MinInt}, {1, math.MaxInt}, {1, 2, 1, math.MaxInt}, {1, 2, 1, math.MinInt}, {math.MaxInt, 2, 1, 2},
		slices.Repeat([]int{1}, impl.MaxRules), slices.Repeat([]int{1}, impl.MaxRules+1), slices.Repeat([]int{1}, 1000),
	} {
		boundIs(t, p, 0, vals...)
	}
	for count := range 6 {
		eachList(count, -1, 3, func(vals []int) { isBegunByWord(t, p, vals) })
	}
}

func TestBoundOfPiecesThatAreNotRight(t *testing.T) {
	for why, p := range notRight() {
		for _, vals := range [][]int{nil, {0}, {1}, {1, 1}, {1, 2}, {1, 1, 1}, {1, 1, 1, 1}, {1, 2, 1, 2}, impl.AllSplit(p), {-1}, {9, 9}, make([]int, 40)} {
			if got := impl.Bound(p, vals); got != 0 {
				t.Errorf("Bound with %s and %v is %d", why, vals, got)
			}
			isBegunByWord(t, p, vals)
		}
	}
}

func TestTiesMayByHand(t *testing.T) {
	p := pieceByHand()
	mayIs(t, p, true)
	mayIs(t, p, true, 0)
	mayIs(t, p, true, 1)
	mayIs(t, p, true, 0, 0)
	mayIs(t, p, false, 0, 1)
	mayIs(t, p, false, 0, 2)
	mayIs(t, p, true, 1, 1)
	mayIs(t, p, true, 1, 2)
	mayIs(t, p, false, 1, 0, 1)
	mayIs(t, p, true, 1, 0, 0)
	mayIs(t, p, true, 1, 1, 1)
	mayIs(t, p, false, 1, 0, 0, 2)
	mayIs(t, p, true, 1, 2, 0, 2)
	mayIs(t, p, false, 0, 1, 1, 1)
	mayIs(t, p, true, 1, 2, 1, 2)
	mayIs(t, tiedByHand(), false, 0, 1)
	mayIs(t, tiedByHand(), true, 1, 0)
}

// A tie is broken when both of its rules are among the first ones, not when one of them is, whichever that is.
func TestTiesOfRulesThatHaveNoValueYet(t *testing.T) {
	down, up := tiedRules([]int{3, 3, 3, 3}, impl.Tie{Kid: 1, Up: 2}), tiedRules([]int{3, 3, 3, 3}, impl.Tie{Kid: 2, Up: 1})
	for _, p := range []impl.Piece{down, up} {
		mayIs(t, p, true)
		for value := range 3 {
			mayIs(t, p, true, value)
			mayIs(t, p, true, 0, value)
			mayIs(t, p, true, 2, value)
		}
	}
	eachList(2, 0, 2, func(v []int) {
		mayIs(t, down, v[0] == 0 || v[1] > 0, 0, v[0], v[1])
		mayIs(t, up, v[1] == 0 || v[0] > 0, 0, v[0], v[1])
		mayIs(t, down, v[0] == 0 || v[1] > 0, 1, v[0], v[1], 2)
		mayIs(t, up, v[1] == 0 || v[0] > 0, 1, v[0], v[1], 0)
	})
}

func TestSeveralTiesMay(t *testing.T) {
	p := tiedRules([]int{2, 2, 2}, impl.Tie{Kid: 0, Up: 1}, impl.Tie{Kid: 1, Up: 2}, impl.Tie{Kid: 2, Up: 0})
	mayIs(t, p, true, 1)
	mayIs(t, p, true, 1, 1)
	mayIs(t, p, true, 0, 1)
	mayIs(t, p, false, 1, 0)
	mayIs(t, p, true, 1, 1, 1)
	mayIs(t, p, true, 0, 0, 0)
	mayIs(t, p, false, 0, 1, 1)
	mayIs(t, p, false, 1, 1, 0)
	mayIs(t, p, false, 0, 0, 1)
	// The last one of as many as may be is looked at, too.
	p.Ties = append(slices.Repeat([]impl.Tie{{Kid: 2, Up: 1}}, mostTies-1), impl.Tie{Kid: 1, Up: 0})
	mayIs(t, p, false, 0, 1)
	mayIs(t, p, true, 1, 1)
	p.Ties = nil
	eachList(3, 0, 1, func(v []int) { mayIs(t, p, true, v...) })
}

// TiesMay asks for nothing to be right: it holds the values, as they are, against the ties, as they are.
func TestTiesMayOfWhatIsNotRight(t *testing.T) {
	p := pieceByHand()
	mayIs(t, p, true, 7, 9)
	mayIs(t, p, false, 0, math.MaxInt)
	mayIs(t, p, false, -1, 1)
	mayIs(t, p, false, math.MinInt, 1)
	mayIs(t, p, true, -1, -1)
	mayIs(t, p, true, -5, math.MinInt)
	mayIs(t, p, true, 1, 2, 1, 2, 0, 1)
	mayIs(t, p, false, 1, 0, 1, 2, 0, 1)
	mayIs(t, p, true, slices.Repeat([]int{1}, 500)...)
	mayIs(t, tiedRules([]int{2, 2}, impl.Tie{Kid: 1, Up: 1}), true, 0, 1)
	for _, wrong := range []int{math.MinInt, -1, 2, 3, impl.MaxRules, 64, math.MaxInt} {
		for _, tie := range []impl.Tie{{Kid: wrong, Up: 0}, {Kid: 0, Up: wrong}, {Kid: wrong, Up: wrong}} {
			odd := tiedRules([]int{2, 2}, tie)
			eachList(2, -1, 2, func(v []int) { mayIs(t, odd, true, v...) })
			odd.Ties = append(odd.Ties, impl.Tie{Kid: 1, Up: 0})
			eachList(2, -1, 2, func(v []int) { mayIs(t, odd, v[1] <= 0 || v[0] > 0, v...) })
		}
	}
	// There is a value of such a rule all the same, and it is looked at.
	mayIs(t, impl.Piece{Ties: []impl.Tie{{Kid: 9, Up: 8}}}, true)
	mayIs(t, impl.Piece{Ties: []impl.Tie{{Kid: 9, Up: 8}}}, false, 0, 0, 0, 0, 0, 0, 0, 0, 0, 1)
	for _, odd := range notRight() {
		for count := range 5 {
			eachList(count, -1, 2, func(v []int) { isBegunByWord(t, odd, v) })
		}
	}
}

func TestASearchWithATieStepByStep(t *testing.T) {
	stepsAre(t, tiedByHand(), 12, []step{{"", "12"}, {"0", "12"}, {"00", "12"}, {"1", "12"}, {"10", "12"}, {"11", "11"}, {"12", "11"}}...)
	// In one line it fits: what was pushed ahead is still popped, and what costs more is pushed no more.
	stepsAre(t, tiedByHand(), 13, []step{{"", "12"}, {"0", "12"}, {"00", "00"}, {"1", "00"}}...)
	// All are too long, and all split is so by the least.
	stepsAre(t, tiedByHand(), 7, []step{{"", "12"}, {"0", "12"}, {"00", "12"}, {"1", "12"}, {"10", "12"}, {"11", "12"}, {"12", "12"}}...)
}

func TestASearchWithoutTiesStepByStep(t *testing.T) {
	p := chunksOf(impl.Split{}, "aaaa", "b", "cccc")
	// A Bound that is just the best one's Sum is not left out (1, 0), one above it is (1, 1).
	stepsAre(t, p, 8, []step{{"", "11"}, {"0", "11"}, {"00", "11"}, {"01", "01"}, {"1", "01"}, {"10", "01"}}...)
	stepsAre(t, p, 9, []step{{"", "11"}, {"0", "11"}, {"00", "00"}, {"01", "00"}, {"1", "00"}}...)
	stepsAre(t, p, 4, []step{{"", "11"}, {"0", "11"}, {"00", "11"}, {"01", "11"}, {"1", "11"}, {"10", "11"}, {"11", "11"}}...)
	// Where all are too long by the same, no Bound leaves anything out.
	stepsAre(t, p, 0, []step{{"", "11"}, {"0", "11"}, {"00", "00"}, {"01", "00"}, {"1", "00"}, {"10", "00"}, {"11", "00"}}...)
}

// Each list with all values is shorter than those popped ahead of it, so that the order is seen from one budget to the next.
func TestTheOrderOfASearchStepByStep(t *testing.T) {
	stepsAre(t, shorterByRule([]int{1, 2, 5}, 1, 2), 0, []step{
		{"", "111"}, {"0", "111"}, {"00", "111"}, {"000", "000"}, {"1", "000"}, {"10", "000"}, {"100", "100"}, {"01", "100"}, {"010", "010"},
		{"11", "010"}, {"110", "110"}, {"001", "110"}, {"101", "110"}, {"011", "110"}, {"111", "110"},
	}...)
	// Of two of the same Sum the one that Compare has ahead is popped first.
	stepsAre(t, shorterByRule([]int{1, 1, 5}, 2, 1), 0, []step{
		{"", "111"}, {"0", "111"}, {"00", "111"}, {"000", "000"}, {"01", "000"}, {"010", "010"}, {"1", "010"}, {"10", "010"}, {"100", "100"},
		{"11", "100"}, {"110", "110"}, {"001", "110"}, {"011", "110"}, {"101", "110"}, {"111", "110"},
	}...)
	// With a span on the first split its rule comes behind the second one.
	p := shorterByRule([]int{1, 2, 5}, 1, 2)
	p.Spans = []impl.Span{{From: 0, To: 0, Cost: 2}}
	stepsAre(t, p, 0, []step{
		{"", "111"}, {"0", "111"}, {"00", "111"}, {"000", "000"}, {"01", "000"}, {"010", "010"}, {"1", "010"}, {"10", "010"}, {"100", "010"},
		{"001", "010"}, {"11", "010"}, {"110", "110"}, {"011", "110"}, {"101", "110"}, {"111", "110"},
	}...)
}

// All split is the best one at first: another one that costs just the same is the best one when Compare has it ahead.
func TestListsThatCostAsMuchAsAllSplit(t *testing.T) {
	p := chunksOf(impl.Split{}, "aa", "bb")
	p.Rules[0].Cost = 0
	stepsAre(t, p, 4, []step{{"", "1"}, {"0", "0"}, {"1", "0"}}...)
	stepsAre(t, p, 3, []step{{"", "1"}, {"0", "1"}, {"1", "1"}}...)
	p.Rules[0].Values = 3
	stepsAre(t, p, 3, []step{{"", "2"}, {"0", "2"}, {"1", "1"}, {"2", "1"}}...)
	stepsAre(t, p, 0, []step{{"", "2"}, {"0", "0"}, {"1", "0"}, {"2", "0"}}...)
	p.Rules[0].Cost = 1
	stepsAre(t, p, 0, []step{{"", "2"}, {"0", "0"}, {"1", "0"}, {"2", "0"}}...)
	stepsAre(t, p, 3, []step{{"", "2"}, {"0", "2"}, {"1", "1"}, {"2", "1"}}...)
	stepsAre(t, p, 4, []step{{"", "2"}, {"0", "0"}, {"1", "0"}, {"2", "0"}}...)
}

func TestASearchWithoutRules(t *testing.T) {
	for _, p := range []impl.Piece{{Indent: 3, Chunks: []impl.Chunk{{Text: "a + b;"}}}, {Chunks: []impl.Chunk{{}}}, rulesAlone()} {
		for _, width := range append([]int{8, 9}, oddWidths...) {
			stepsAre(t, p, width, step{"", ""})
			for _, budget := range oddBudgets {
				isFound(t, p, width, budget)
			}
		}
	}
}

func TestASearchOfRulesWithoutSplits(t *testing.T) {
	p := rulesAlone(2, 3)
	stepsAre(t, p, 1, []step{{"", "12"}, {"0", "12"}, {"00", "00"}, {"01", "00"}, {"02", "00"}, {"1", "00"}, {"10", "00"}, {"11", "00"}, {"12", "00"}}...)
	p.Rules[0].Cost, p.Rules[1].Cost = 3, 1
	stepsAre(t, p, 1, []step{{"", "12"}, {"0", "12"}, {"00", "00"}, {"01", "00"}, {"02", "00"}, {"1", "00"}}...)
	stepsAre(t, p, 0, []step{{"", "12"}, {"0", "12"}, {"00", "00"}, {"01", "00"}, {"02", "00"}, {"1", "00"}, {"10", "00"}, {"11", "00"}, {"12", "00"}}...)
}

// Room for no try at all: all split is told, whatever it costs, and that there might be a better one.
func TestRoomForNoTry(t *testing.T) {
	for seed := range int64(300) {
		p := anyPiece(seed)
		for _, budget := range []int{0, -1, -2, -enough, math.MinInt + 1, math.MinInt} {
			for _, width := range []int{0, 80, math.MaxInt} {
				searchIs(t, p, width, budget, impl.StSoFar, impl.AllSplit(p)...)
			}
		}
	}
	searchIs(t, rulesAlone(2), 80, 1, impl.StSoFar, 1)
	searchIs(t, rulesAlone(), 80, 1, impl.StBest)
	searchIs(t, rulesAlone(), 80, 0, impl.StSoFar)
}

func TestAllBudgetsOfThePieceByHand(t *testing.T) {
	p := pieceByHand()
	for width := range 26 {
		isSearchedByWord(t, p, width)
		for _, budget := range oddBudgets {
			isFound(t, p, width, budget)
		}
	}
	p.Ties = nil
	for _, width := range append([]int{8, 12, 16, 17, 18, 21, 22}, oddWidths...) {
		isSearchedByWord(t, p, width)
	}
}

func TestWithEnoughTheBestIsFound(t *testing.T) {
	p := pieceByHand()
	for _, row := range []struct {
		width int
		want  []int
	}{
		{22, []int{0, 0, 0, 0}}, {21, []int{1, 0, 0, 0}}, {18, []int{1, 0, 0, 0}}, {17, []int{1, 2, 0, 0}}, {12, []int{1, 2, 0, 0}}, {9, []int{1, 0, 0, 0}}, {5, []int{0, 0, 0, 0}},
	} {
		searchIs(t, p, row.width, enough, impl.StBest, row.want...)
	}
	for seed := range int64(2500) {
		p := smallPiece(seed)
		chance := rand.New(rand.NewSource(seed))
		for _, width := range []int{0, chance.Intn(10), chance.Intn(20), chance.Intn(40), oddWidths[chance.Intn(len(oddWidths))]} {
			want, _ := bestByWord(p, width)
			searchIs(t, p, width, enough, impl.StBest, want...)
		}
	}
}

func TestAllBudgetsOfSmallPieces(t *testing.T) {
	for seed := range int64(400) {
		p := smallPiece(seed)
		chance := rand.New(rand.NewSource(seed))
		for _, width := range []int{0, chance.Intn(12), chance.Intn(30)} {
			isSearchedByWord(t, p, width)
		}
	}
}

// With more room what is told is never dearer, and once the best one is told it stays.
func TestMoreRoomIsNeverDearer(t *testing.T) {
	for seed := range int64(200) {
		p := smallPiece(seed)
		width := rand.New(rand.NewSource(seed)).Intn(25)
		before, last := impl.CostOf(p, impl.AllSplit(p), width), impl.StSoFar
		for budget := range 125 {
			isFound(t, p, width, budget)
			found, ended := impl.Search(p, width, budget)
			cost := impl.CostOf(p, found, width)
			if impl.CostLess(before, cost) || last == impl.StBest && ended != impl.StBest {
				t.Fatalf("Search(%+v, %d, %d) is %v, %d, which costs %+v; with less room it was %+v", p, width, budget, found, ended, cost, before)
			}
			before, last = cost, ended
		}
		if last != impl.StBest {
			t.Fatalf("the best one of %+v is not found", p)
		}
	}
}

func TestAnyPieceIsSearched(t *testing.T) {
	for seed := range int64(120) {
		p := anyPiece(seed)
		chance := rand.New(rand.NewSource(seed))
		width := chance.Intn(200)
		for _, budget := range []int{enough, chance.Intn(30), chance.Intn(3000), oddBudgets[chance.Intn(len(oddBudgets))]} {
			isFound(t, p, width, budget)
		}
	}
}

// endsAt holds that just so many states are popped: with one fewer the search ends so far.
func endsAt(t *testing.T, p impl.Piece, width int, count int) {
	t.Helper()
	best, _, _ := impl.BestOf(p, width)
	searchIs(t, p, width, count, impl.StBest, best...)
	searchIs(t, p, width, count+1, impl.StBest, best...)
	searchIs(t, p, width, math.MaxInt, impl.StBest, best...)
	if _, ended := impl.Search(p, width, count-1); ended != impl.StSoFar {
		t.Errorf("Search(%+v, %d, %d) tells %d", p, width, count-1, ended)
	}
}

// Where every list is too long, and no tie is broken, all beginnings of all lists are popped.
func TestHowManyArePopped(t *testing.T) {
	endsAt(t, rulesAlone(), 0, 1)
	endsAt(t, rulesAlone(2), 0, 3)
	endsAt(t, rulesAlone(3), 0, 4)
	endsAt(t, rulesAlone(2, 3), 0, 1+2+6)
	endsAt(t, rulesAlone(3, 2), 0, 1+3+6)
	endsAt(t, rulesAlone(2, 2, 2, 2, 2, 2, 2, 2), 0, 511)
	endsAt(t, rulesAlone(3, 3, 3, 3, 3, 3, 3, 3), 0, enough)
	// Where a row of ties is not broken, values above 0 stand ahead of all 0, or behind.
	row := rulesAlone(2, 2, 2, 2, 2, 2, 2, 2)
	for i := range impl.MaxRules - 1 {
		row.Ties = append(row.Ties, impl.Tie{Kid: i + 1, Up: i})
	}
	endsAt(t, row, 0, 45)
	for i, tie := range row.Ties {
		row.Ties[i] = impl.Tie{Kid: tie.Up, Up: tie.Kid}
	}
	endsAt(t, row, 0, 45)
	// It fits, and 0 alone costs nothing: the state of no values, the eight beginnings of all 0, and the one beside each that was pushed ahead of that being known.
	dear := rulesAlone(2, 2, 2, 2, 2, 2, 2, 2)
	for i := range dear.Rules {
		dear.Rules[i].Cost = 1
	}
	endsAt(t, dear, 1, 17)
	endsAt(t, dear, 0, 511)
}

func TestASearchAtTheLimits(t *testing.T) {
	p := fullPiece(5)
	for _, width := range append([]int{100, 105, 130, 300, 538, 539}, oddWidths...) {
		for _, budget := range []int{enough, 1, 300} {
			isFound(t, p, width, budget)
		}
	}
	searchIs(t, p, 60+80*5+79, enough, impl.StBest, make([]int, impl.MaxRules)...)
	searchIs(t, p, 105, enough, impl.StBest, impl.AllSplit(p)...)
	p.Ties = nil
	for _, budget := range oddBudgets {
		isFound(t, p, 120, budget)
	}
	endsAt(t, p, 0, enough)
	endsAt(t, p, 104, enough)
}

func TestASearchAtOddWidths(t *testing.T) {
	p := chunksOf(impl.Split{}, strings.Repeat("x", mostWidth-1), "yy")
	for _, row := range []struct{ width, want int }{
		{math.MinInt, 0}, {-1, 0}, {0, 0}, {mostWidth - 1, 1}, {mostWidth, 1}, {mostWidth + 1, 1}, {math.MaxInt, 1},
	} {
		searchIs(t, p, row.width, 3, impl.StBest, row.want)
	}
	p.Chunks[1].Text = "y"
	for _, width := range []int{mostWidth, mostWidth + 1, math.MaxInt} {
		searchIs(t, p, width, 3, impl.StBest, 0)
	}
	for seed := range int64(60) {
		p := smallPiece(seed)
		for _, width := range oddWidths {
			isSearchedByWord(t, p, width)
		}
	}
}

func TestSearchesOfPiecesThatAreNotRight(t *testing.T) {
	for why, p := range notRight() {
		for _, width := range append([]int{3, 80}, oddWidths...) {
			for _, budget := range oddBudgets {
				nothingIsFound(t, why, p, width, budget)
			}
		}
	}
	nothingIsFound(t, "many rules", rulesAlone(slices.Repeat([]int{2}, 300)...), 80, enough)
	nothingIsFound(t, "one rule too many", rulesAlone(slices.Repeat([]int{2}, impl.MaxRules+1)...), 80, enough)
	nothingIsFound(t, "a rule of the greatest Values", rulesAlone(math.MaxInt), 80, enough)
	nothingIsFound(t, "a rule of the least Values", rulesAlone(math.MinInt), 80, enough)
	nothingIsFound(t, "one chunk and a span", impl.Piece{Chunks: []impl.Chunk{{Text: "a"}}, Spans: []impl.Span{{}}}, 80, enough)
	nothingIsFound(t, "no rules and a tie", impl.Piece{Chunks: []impl.Chunk{{Text: "a"}}, Ties: []impl.Tie{{}}}, 80, enough)
}

func TestTurnedPiecesAreSearchedByWord(t *testing.T) {
	for seed := range int64(20) {
		p := smallPiece(seed)
		if seed == 0 {
			p = pieceByHand()
		}
		all := impl.AllSplit(p)
		for _, place := range numbersIn(&p) {
			held := *place
			for _, odd := range oddNumbers {
				*place = odd
				for count := range len(all) + 1 {
					isBegunByWord(t, p, all[:count])
				}
				if pieceByWord(p) {
					want, _ := bestByWord(p, 12)
					searchIs(t, p, 12, enough, impl.StBest, want...)
					isFound(t, p, 12, 9)
				} else {
					nothingIsFound(t, "a number turned", p, 12, enough)
				}
			}
			*place = held
		}
	}
}

func TestASearchLeavesAllAsItIs(t *testing.T) {
	p, v := roomyPiece(), withRoom([]int{1, 1, 1, 2})
	isLeft := heldWithRoom(t, p, v)
	for _, list := range [][]int{v, v[:3], v[:1], v[:0], nil} {
		for _, width := range []int{0, 9, 16, 80} {
			for _, budget := range []int{0, 1, 7, enough} {
				impl.Bound(p, list)
				impl.TiesMay(p, list)
				found, _ := impl.Search(p, width, budget)
				for i := range found[:cap(found)] {
					found[:cap(found)][i] = 77
				}
			}
		}
	}
	isLeft()
}

func TestWhatIsFoundIsNewMemory(t *testing.T) {
	for _, width := range []int{0, 16, 80} {
		for _, budget := range []int{0, 3, enough} {
			p := pieceByHand()
			first, state := impl.Search(p, width, budget)
			second, _ := impl.Search(p, width, budget)
			want := slices.Clone(second)
			for i := range first {
				first[i] = -1
			}
			searchIs(t, p, width, budget, state, want...)
			for i := range p.Rules {
				p.Rules[i] = impl.Rule{Values: 77, Cost: 77}
			}
			if !slices.Equal(second, want) {
				t.Errorf("Search is %v, and %v when all else is changed", want, second)
			}
		}
	}
}
