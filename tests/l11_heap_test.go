package tests

import (
	"math"
	"math/rand"
	"slices"
	"testing"

	"loop.example/g00459/impl"
)

func stateOf(sum int, vals ...int) impl.State {
	return impl.State{Vals: vals, Sum: sum}
}

// sumsOnly has a state without Vals for each Sum.
func sumsOnly(sums ...int) []impl.State {
	list := []impl.State{}
	for _, sum := range sums {
		list = append(list, stateOf(sum))
	}
	return list
}

func sameState(a impl.State, b impl.State) bool {
	return a.Sum == b.Sum && slices.Equal(a.Vals, b.Vals)
}

func sameStates(a []impl.State, b []impl.State) bool {
	return slices.EqualFunc(a, b, sameState)
}

func cloneStates(list []impl.State) []impl.State {
	clone := []impl.State{}
	for _, state := range list {
		clone = append(clone, stateOf(state.Sum, slices.Clone(state.Vals)...))
	}
	return clone
}

// stateLessByWord looks for the first place in which the Vals are unlike.
func stateLessByWord(a impl.State, b impl.State) bool {
	if a.Sum != b.Sum {
		return a.Sum < b.Sum
	}
	for i, val := range a.Vals {
		if i >= len(b.Vals) {
			return false
		}
		if val != b.Vals[i] {
			return val < b.Vals[i]
		}
	}
	return len(a.Vals) < len(b.Vals)
}

func compareByWord(a impl.State, b impl.State) int {
	switch {
	case stateLessByWord(a, b):
		return -1
	case stateLessByWord(b, a):
		return 1
	}
	return 0
}

func heapByWord(list []impl.State) bool {
	for i, state := range list {
		above := (i + 1) / 2
		if above > 0 && stateLessByWord(state, list[above-1]) {
			return false
		}
	}
	return true
}

// pushedByWord goes by numbers from 1 on, of which the one above is the half.
func pushedByWord(list []impl.State, x impl.State) []impl.State {
	row := append(append([]impl.State{{}}, list...), x)
	for n := len(row) - 1; n/2 > 0 && stateLessByWord(row[n], row[n/2]); n /= 2 {
		row[n], row[n/2] = row[n/2], row[n]
	}
	return cloneStates(row[1:])
}

// poppedByWord goes by numbers from 1 on, of which those below are the double and one more.
func poppedByWord(list []impl.State) ([]impl.State, impl.State, bool) {
	if len(list) == 0 {
		return nil, impl.State{}, false
	}
	row := append([]impl.State{{}}, list...)
	row[1], row = row[len(row)-1], row[:len(row)-1]
	for n := 1; 2*n < len(row); {
		below := 2 * n
		if below+1 < len(row) && stateLessByWord(row[below+1], row[below]) {
			below++
		}
		if !stateLessByWord(row[below], row[n]) {
			break
		}
		row[n], row[below] = row[below], row[n]
		n = below
	}
	return cloneStates(row[1:]), list[0], true
}

func lessIs(t *testing.T, a impl.State, b impl.State, want bool) {
	t.Helper()
	if got := impl.StateLess(a, b); got != want {
		t.Errorf("StateLess(%v, %v) is %v", a, b, got)
	}
}

// isAhead holds that a is less than b, and not the other way round.
func isAhead(t *testing.T, a impl.State, b impl.State) {
	t.Helper()
	lessIs(t, a, b, true)
	lessIs(t, b, a, false)
}

func areAlike(t *testing.T, a impl.State, b impl.State) {
	t.Helper()
	lessIs(t, a, b, false)
	lessIs(t, b, a, false)
}

func heapIs(t *testing.T, want bool, list ...impl.State) {
	t.Helper()
	if got := impl.HeapOk(list); got != want {
		t.Errorf("HeapOk(%v) is %v", list, got)
	}
}

func pushedIs(t *testing.T, list []impl.State, x impl.State, want []impl.State) {
	t.Helper()
	if got := impl.Pushed(list, x); !sameStates(got, want) {
		t.Errorf("Pushed(%v, %v) is %v; want %v", list, x, got, want)
	}
}

// poppedIs takes the first one of the list as the one that is told.
func poppedIs(t *testing.T, list []impl.State, want []impl.State) {
	t.Helper()
	if rest, x, ok := impl.Popped(list); !ok || !sameState(x, list[0]) || !sameStates(rest, want) {
		t.Errorf("Popped(%v) is %v, %v, %v; want %v", list, rest, x, ok, want)
	}
}

func nothingIsPopped(t *testing.T, list []impl.State) {
	t.Helper()
	if rest, x, ok := impl.Popped(list); ok || len(rest) != 0 || x.Sum != 0 || len(x.Vals) != 0 {
		t.Errorf("Popped(%v) is %v, %v, %v", list, rest, x, ok)
	}
}

// isHeapByWord holds all functions of a list, heap or not, with each of these pushed.
func isHeapByWord(t *testing.T, list []impl.State, pushed ...impl.State) {
	t.Helper()
	if got := impl.HeapOk(list); got != heapByWord(list) {
		t.Fatalf("HeapOk(%v) is %v", list, got)
	}
	for _, x := range pushed {
		if got, want := impl.Pushed(list, x), pushedByWord(list, x); !sameStates(got, want) {
			t.Fatalf("Pushed(%v, %v) is %v; want %v", list, x, got, want)
		}
	}
	rest, x, ok := impl.Popped(list)
	wantRest, wantX, wantOk := poppedByWord(list)
	if ok != wantOk || !sameState(x, wantX) || !sameStates(rest, wantRest) {
		t.Fatalf("Popped(%v) is %v, %v, %v; want %v, %v, %v", list, rest, x, ok, wantRest, wantX, wantOk)
	}
}

// tellsLeastFirst holds promise 11: states go in in this order, and come out with the least first.
func tellsLeastFirst(t *testing.T, states []impl.State) {
	t.Helper()
	list := []impl.State(nil)
	for i, x := range states {
		list = impl.Pushed(list, x)
		if len(list) != i+1 || !impl.HeapOk(list) {
			t.Fatalf("the list is %v behind Pushed of %v", list, states[:i+1])
		}
	}
	out := []impl.State{}
	for range states {
		rest, x, ok := impl.Popped(list)
		if !ok || len(rest) != len(list)-1 || !impl.HeapOk(rest) {
			t.Fatalf("Popped(%v) is %v, %v, %v", list, rest, x, ok)
		}
		if less := slices.IndexFunc(rest, func(left impl.State) bool { return impl.StateLess(left, x) }); less >= 0 {
			t.Fatalf("Popped(%v) is %v, and %v is left", list, x, rest[less])
		}
		out, list = append(out, x), rest
	}
	nothingIsPopped(t, list)
	want := cloneStates(states)
	slices.SortStableFunc(want, compareByWord)
	if !sameStates(out, want) {
		t.Fatalf("of %v come out %v", states, out)
	}
}

// mixedStates are from the least to the greatest; those at 1 and 2 are alike, and so are those at 6 and 7.
func mixedStates() []impl.State {
	return []impl.State{
		stateOf(-3, 9), stateOf(2), {Vals: []int{}, Sum: 2}, stateOf(2, -1), stateOf(2, 0), stateOf(2, 0, 0),
		stateOf(2, 0, 1), stateOf(2, 0, 1), stateOf(2, 1), stateOf(2, 1, 0), stateOf(3), stateOf(4, 0, 0, 0, 0),
	}
}

// anyStates has few Sums and Vals, so that many are alike.
func anyStates(seed int64, count int) []impl.State {
	chance := rand.New(rand.NewSource(seed))
	list := []impl.State{}
	for range count {
		state := stateOf(chance.Intn(5) - 1)
		for range chance.Intn(4) {
			state.Vals = append(state.Vals, chance.Intn(3))
		}
		list = append(list, state)
	}
	return list
}

// oddStates have the numbers at which a reckoning would wrap round.
func oddStates() []impl.State {
	numbers := []int{math.MinInt, math.MinInt + 1, -1, 0, 1, math.MaxInt - 1, math.MaxInt}
	list := []impl.State{}
	for _, sum := range numbers {
		list = append(list, stateOf(sum))
		for _, val := range numbers {
			list = append(list, stateOf(sum, val), stateOf(sum, 0, val), stateOf(sum, val, 0))
		}
	}
	return list
}

// eachOrder hands out the states in every order.
func eachOrder(states []impl.State, hand func(order []impl.State)) {
	order := slices.Clone(states)
	var swap func(from int)
	swap = func(from int) {
		if from == len(order) {
			hand(order)
			return
		}
		for i := from; i < len(order); i++ {
			order[from], order[i] = order[i], order[from]
			swap(from + 1)
			order[from], order[i] = order[i], order[from]
		}
	}
	swap(0)
}

func TestStatesByHand(t *testing.T) {
	isAhead(t, stateOf(1), stateOf(2))
	isAhead(t, stateOf(-1), stateOf(0))
	isAhead(t, stateOf(1, 2, 2, 2), stateOf(2, 0, 0))
	isAhead(t, stateOf(1, 1), stateOf(2))
	isAhead(t, stateOf(4, 0, 1), stateOf(4, 1, 0))
	isAhead(t, stateOf(4, 1, 0, 2), stateOf(4, 1, 1, 0))
	isAhead(t, stateOf(4, 1, 1, 0), stateOf(4, 1, 1, 1))
	isAhead(t, stateOf(4, -1), stateOf(4, 0))
	isAhead(t, stateOf(4, 9), stateOf(4, 10))
}

func TestStatesOfWhichOneIsABeginning(t *testing.T) {
	isAhead(t, stateOf(4), stateOf(4, 0))
	isAhead(t, stateOf(4), stateOf(4, -1))
	isAhead(t, stateOf(4), stateOf(4, math.MinInt))
	isAhead(t, stateOf(4, 1), stateOf(4, 1, 0))
	isAhead(t, stateOf(4, 1), stateOf(4, 1, -7))
	isAhead(t, stateOf(4, 1, 0), stateOf(4, 1, 0, 0))
	// A longer one that is no beginning is ahead by its first place.
	isAhead(t, stateOf(4, 0, 2, 2), stateOf(4, 1))
	isAhead(t, stateOf(4, 0, 0, 0), stateOf(4, 0, 1))
}

func TestStatesThatAreAlike(t *testing.T) {
	areAlike(t, impl.State{}, impl.State{})
	areAlike(t, impl.State{Vals: []int{}}, impl.State{})
	areAlike(t, impl.State{Vals: make([]int, 0, 5), Sum: 3}, stateOf(3))
	areAlike(t, stateOf(3, 0), stateOf(3, 0))
	areAlike(t, stateOf(3, 1, 2, 0), stateOf(3, 1, 2, 0))
	areAlike(t, stateOf(math.MinInt, math.MaxInt), stateOf(math.MinInt, math.MaxInt))
	one := stateOf(3, 1, 2)
	areAlike(t, one, one)
	areAlike(t, one, impl.State{Vals: slices.Grow([]int{1, 2}, 8), Sum: 3})
	// What stands in the spare room is no part of the Vals.
	room := []int{1, 2, 5}
	areAlike(t, one, impl.State{Vals: room[:2], Sum: 3})
}

func TestStatesOfTheGreatestNumbers(t *testing.T) {
	isAhead(t, stateOf(math.MinInt), stateOf(math.MaxInt))
	isAhead(t, stateOf(math.MinInt), stateOf(0))
	isAhead(t, stateOf(-1), stateOf(math.MaxInt))
	isAhead(t, stateOf(math.MinInt), stateOf(math.MinInt+1))
	isAhead(t, stateOf(math.MaxInt-1), stateOf(math.MaxInt))
	isAhead(t, stateOf(math.MinInt, math.MaxInt), stateOf(math.MaxInt, math.MinInt))
	isAhead(t, stateOf(0, math.MinInt), stateOf(0, math.MaxInt))
	isAhead(t, stateOf(0, math.MinInt), stateOf(0, 1))
	isAhead(t, stateOf(0, -2), stateOf(0, math.MaxInt))
	isAhead(t, stateOf(0, math.MaxInt, math.MinInt), stateOf(0, math.MaxInt, math.MaxInt))
}

func TestStatesOfManyVals(t *testing.T) {
	vals := make([]int, 5000)
	for i := range vals {
		vals[i] = i % 3
	}
	other := slices.Clone(vals)
	areAlike(t, stateOf(1, vals...), stateOf(1, other...))
	isAhead(t, stateOf(1, vals[:4999]...), stateOf(1, other...))
	other[4999]++
	isAhead(t, stateOf(1, vals...), stateOf(1, other...))
	other[0]--
	isAhead(t, stateOf(1, other...), stateOf(1, vals...))
	isAhead(t, stateOf(0, vals...), stateOf(1, other...))
}

// Each two states are alike, or one of them is less: by the chapter's words, and as Compare tells.
func TestStatesAreInOneOrder(t *testing.T) {
	for _, states := range [][]impl.State{mixedStates(), oddStates(), anyStates(1, 120)} {
		for _, a := range states {
			for _, b := range states {
				lessIs(t, a, b, stateLessByWord(a, b))
				if a.Sum == b.Sum {
					lessIs(t, a, b, impl.Compare(a.Vals, b.Vals) == -1)
				}
				if both := impl.StateLess(a, b) && impl.StateLess(b, a); both {
					t.Errorf("%v and %v are each less than the other", a, b)
				}
			}
		}
	}
	for i, a := range mixedStates() {
		for k, b := range mixedStates() {
			alike := min(i, k) == 1 && max(i, k) == 2 || min(i, k) == 6 && max(i, k) == 7
			lessIs(t, a, b, i < k && !alike)
		}
	}
}

func TestHeapsByHand(t *testing.T) {
	heapIs(t, true)
	heapIs(t, true, impl.State{})
	heapIs(t, true, stateOf(math.MinInt, 1))
	heapIs(t, true, sumsOnly(1, 2)...)
	heapIs(t, true, sumsOnly(2, 2)...)
	heapIs(t, false, sumsOnly(2, 1)...)
	heapIs(t, true, sumsOnly(1, 3, 2)...)
	heapIs(t, true, sumsOnly(1, 2, 3)...)
	heapIs(t, false, sumsOnly(1, 2, 0)...)
	heapIs(t, false, sumsOnly(1, 0, 2)...)
	// A state is held against the one above it alone: not against its neighbour, nor those of the row above.
	heapIs(t, true, sumsOnly(0, 5, 1, 6, 7, 2, 3)...)
	heapIs(t, true, sumsOnly(0, 1, 5, 2, 3, 6, 7)...)
	heapIs(t, false, sumsOnly(0, 5, 1, 4, 7, 2, 3)...)
	heapIs(t, false, sumsOnly(0, 5, 1, 6, 4, 2, 3)...)
	heapIs(t, false, sumsOnly(0, 5, 1, 6, 7, 0, 3)...)
	heapIs(t, false, sumsOnly(0, 5, 1, 6, 7, 2, 0)...)
	heapIs(t, true, sumsOnly(0, 1, 5, 1, 1, 5, 5, 2, 3)...)
	heapIs(t, false, sumsOnly(0, 1, 5, 2, 1, 5, 5, 2, 1)...)
}

func TestHeapsOfTheSameSum(t *testing.T) {
	heapIs(t, true, stateOf(4, 1), stateOf(4, 1, 0), stateOf(4, 1, 1))
	heapIs(t, false, stateOf(4, 1, 0), stateOf(4, 1), stateOf(4, 1, 1))
	heapIs(t, false, stateOf(4, 1, 0), stateOf(4, 1, 1), stateOf(4, 1))
	heapIs(t, true, stateOf(4), stateOf(4), stateOf(4, 0))
	heapIs(t, false, stateOf(4, 0), stateOf(4, 0), stateOf(4))
	heapIs(t, true, slices.Repeat([]impl.State{stateOf(4, 2, 0)}, 40)...)
	heapIs(t, true, mixedStates()...)
}

func TestHeapsThatAreWrongAtOnePlace(t *testing.T) {
	const count = 40
	for i := 1; i < count; i++ {
		list := []impl.State{}
		for k := range count {
			list = append(list, stateOf(k, 1))
		}
		above := list[(i+1)/2-1]
		list[i] = above
		heapIs(t, true, list...)
		list[i].Sum = above.Sum - 1
		heapIs(t, false, list...)
		list[i] = stateOf(above.Sum, 0)
		heapIs(t, false, list...)
		list[i] = stateOf(above.Sum)
		heapIs(t, false, list...)
		list[i] = stateOf(above.Sum, 1, 0)
		heapIs(t, true, list...)
	}
}

func TestPushedByHand(t *testing.T) {
	pushedIs(t, nil, stateOf(7, 1), []impl.State{stateOf(7, 1)})
	pushedIs(t, []impl.State{}, impl.State{}, sumsOnly(0))
	pushedIs(t, sumsOnly(1), stateOf(2), sumsOnly(1, 2))
	pushedIs(t, sumsOnly(2), stateOf(1), sumsOnly(1, 2))
	pushedIs(t, sumsOnly(1, 3), stateOf(0), sumsOnly(0, 3, 1))
	pushedIs(t, sumsOnly(1, 3), stateOf(2), sumsOnly(1, 3, 2))
	// All the way up, one step, and none.
	pushedIs(t, sumsOnly(1, 3, 2), stateOf(0), sumsOnly(0, 1, 2, 3))
	pushedIs(t, sumsOnly(1, 3, 2), stateOf(2), sumsOnly(1, 2, 2, 3))
	pushedIs(t, sumsOnly(1, 3, 2), stateOf(4), sumsOnly(1, 3, 2, 4))
	pushedIs(t, sumsOnly(1, 3, 2, 4), stateOf(2), sumsOnly(1, 2, 2, 4, 3))
	pushedIs(t, sumsOnly(1, 3, 2, 4, 5), stateOf(0), sumsOnly(0, 3, 1, 4, 5, 2))
	pushedIs(t, sumsOnly(1, 3, 2, 4, 5, 6), stateOf(1), sumsOnly(1, 3, 1, 4, 5, 6, 2))
	pushedIs(t, sumsOnly(1, 3, 2, 5, 4, 6, 7), stateOf(0), sumsOnly(0, 1, 2, 3, 4, 6, 7, 5))
	pushedIs(t, sumsOnly(1, 3, 2, 5, 4, 6, 7, 8), stateOf(4), sumsOnly(1, 3, 2, 4, 4, 6, 7, 8, 5))
}

// One that is alike is not less: it stays below.
func TestPushedThatIsAlike(t *testing.T) {
	pushedIs(t, sumsOnly(2), stateOf(2), sumsOnly(2, 2))
	pushedIs(t, sumsOnly(2, 3, 3), stateOf(3), sumsOnly(2, 3, 3, 3))
	pushedIs(t, sumsOnly(2, 3, 3), stateOf(2), sumsOnly(2, 2, 3, 3))
	pushedIs(t, []impl.State{stateOf(2, 1)}, stateOf(2, 1), []impl.State{stateOf(2, 1), stateOf(2, 1)})
	pushedIs(t, []impl.State{stateOf(2, 1)}, stateOf(2, 0), []impl.State{stateOf(2, 0), stateOf(2, 1)})
	pushedIs(t, []impl.State{stateOf(2, 1)}, stateOf(2, 1, 0), []impl.State{stateOf(2, 1), stateOf(2, 1, 0)})
	pushedIs(t, []impl.State{stateOf(2, 1)}, stateOf(2), []impl.State{stateOf(2), stateOf(2, 1)})
	pushedIs(t, []impl.State{stateOf(2)}, stateOf(2, 1), []impl.State{stateOf(2), stateOf(2, 1)})
	pushedIs(t, []impl.State{stateOf(2, 0, 1), stateOf(2, 1), stateOf(2, 2)}, stateOf(2, 0, 2), []impl.State{stateOf(2, 0, 1), stateOf(2, 0, 2), stateOf(2, 2), stateOf(2, 1)})
}

func TestPoppedByHand(t *testing.T) {
	poppedIs(t, sumsOnly(7), nil)
	poppedIs(t, []impl.State{stateOf(7, 1, 2)}, nil)
	poppedIs(t, sumsOnly(1, 2), sumsOnly(2))
	poppedIs(t, sumsOnly(1, 2, 3), sumsOnly(2, 3))
	poppedIs(t, sumsOnly(1, 3, 2), sumsOnly(2, 3))
	// Down on the first side, on the second one, and by turns.
	poppedIs(t, sumsOnly(1, 2, 3, 4, 5, 6), sumsOnly(2, 4, 3, 6, 5))
	poppedIs(t, sumsOnly(1, 3, 2, 4, 5, 6), sumsOnly(2, 3, 6, 4, 5))
	poppedIs(t, sumsOnly(1, 2, 3, 5, 4, 6, 7), sumsOnly(2, 4, 3, 5, 7, 6))
	poppedIs(t, sumsOnly(1, 3, 2, 6, 7, 4, 5, 9), sumsOnly(2, 3, 4, 6, 7, 9, 5))
	poppedIs(t, sumsOnly(1, 3, 2, 6, 7, 5, 4, 9), sumsOnly(2, 3, 4, 6, 7, 5, 9))
	poppedIs(t, sumsOnly(1, 3, 2, 6, 7, 5, 4, 9, 8, 10, 9), sumsOnly(2, 3, 4, 6, 7, 5, 9, 9, 8, 10))
	// It stops where neither below is less.
	poppedIs(t, sumsOnly(1, 2, 3, 2), sumsOnly(2, 2, 3))
	poppedIs(t, sumsOnly(1, 2, 5, 6, 7, 9, 8, 9, 9, 8, 9, 10, 10, 10, 6), sumsOnly(2, 6, 5, 6, 7, 9, 8, 9, 9, 8, 9, 10, 10, 10))
}

// Where the last place is the first of two below, it is looked at alone.
func TestPoppedWithOneBelowAlone(t *testing.T) {
	poppedIs(t, sumsOnly(1, 2, 3), sumsOnly(2, 3))
	poppedIs(t, sumsOnly(1, 2, 2, 3, 4), sumsOnly(2, 3, 2, 4))
	poppedIs(t, sumsOnly(1, 2, 3, 4, 5), sumsOnly(2, 4, 3, 5))
	poppedIs(t, sumsOnly(1, 2, 3, 5, 5), sumsOnly(2, 5, 3, 5))
	poppedIs(t, sumsOnly(1, 2, 3, 5, 4), sumsOnly(2, 4, 3, 5))
	poppedIs(t, sumsOnly(1, 4, 2, 5, 6, 3, 7), sumsOnly(2, 4, 3, 5, 6, 7))
	// The one that was the second below is gone from there.
	poppedIs(t, sumsOnly(1, 4, 2, 5, 6, 7, 3), sumsOnly(2, 4, 3, 5, 6, 7))
}

// Of two below that are alike the first one is taken.
func TestPoppedOfTwoAlike(t *testing.T) {
	poppedIs(t, sumsOnly(1, 2, 2, 9), sumsOnly(2, 9, 2))
	poppedIs(t, sumsOnly(1, 2, 2, 3, 3, 3, 3, 9), sumsOnly(2, 3, 2, 9, 3, 3, 3))
	poppedIs(t, sumsOnly(1, 2, 2, 8, 4, 3, 5, 9), sumsOnly(2, 4, 2, 8, 9, 3, 5))
	alike, last := stateOf(2, 1, 0), stateOf(2, 1, 1)
	poppedIs(t, []impl.State{stateOf(2), alike, alike, last}, []impl.State{alike, last, alike})
	poppedIs(t, []impl.State{stateOf(2), {Sum: 2, Vals: []int{}}, stateOf(2), last}, []impl.State{stateOf(2), last, stateOf(2)})
	// The Vals tell them apart: the second is less.
	poppedIs(t, []impl.State{stateOf(2), alike, stateOf(2, 1), last}, []impl.State{stateOf(2, 1), alike, last})
	poppedIs(t, []impl.State{stateOf(2), alike, stateOf(2, 0, 5), last}, []impl.State{stateOf(2, 0, 5), alike, last})
	// One that is alike with those below stays above them.
	poppedIs(t, sumsOnly(2, 2, 2, 2), sumsOnly(2, 2, 2))
	poppedIs(t, []impl.State{stateOf(2), alike, alike, alike, stateOf(2, 3), alike}, []impl.State{alike, alike, alike, alike, stateOf(2, 3)})
	poppedIs(t, []impl.State{stateOf(2), alike, alike, stateOf(2, 4), stateOf(2, 3), alike}, []impl.State{alike, alike, alike, stateOf(2, 4), stateOf(2, 3)})
}

func TestPoppedWithoutAState(t *testing.T) {
	nothingIsPopped(t, nil)
	nothingIsPopped(t, []impl.State{})
	nothingIsPopped(t, sumsOnly(3, 4)[:0])
	room := []impl.State{stateOf(3, 1), stateOf(4, 1)}
	rest, _, _ := impl.Popped(room[:0])
	_ = append(rest, stateOf(9, 9), stateOf(9, 9))
	if !sameStates(room, []impl.State{stateOf(3, 1), stateOf(4, 1)}) {
		t.Errorf("the spare room is %v", room)
	}
}

// Lists that are no heap are gone through by the same steps: nothing is put right beside them.
func TestListsThatAreNoHeap(t *testing.T) {
	pushedIs(t, sumsOnly(5, 1), stateOf(2), sumsOnly(2, 1, 5))
	pushedIs(t, sumsOnly(5, 1, 3), stateOf(4), sumsOnly(5, 1, 3, 4))
	pushedIs(t, sumsOnly(9, 1, 2), stateOf(0), sumsOnly(0, 9, 2, 1))
	pushedIs(t, sumsOnly(9, 1, 2), stateOf(1), sumsOnly(9, 1, 2, 1))
	pushedIs(t, sumsOnly(9, 8, 7, 6), stateOf(5), sumsOnly(5, 9, 7, 6, 8))
	pushedIs(t, sumsOnly(5, 4, 3, 2), stateOf(6), sumsOnly(5, 4, 3, 2, 6))
	poppedIs(t, sumsOnly(2, 1), sumsOnly(1))
	poppedIs(t, sumsOnly(5, 1, 3), sumsOnly(1, 3))
	poppedIs(t, sumsOnly(5, 3, 1), sumsOnly(1, 3))
	poppedIs(t, sumsOnly(0, 9, 8, 1, 2), sumsOnly(2, 9, 8, 1))
	poppedIs(t, sumsOnly(9, 8, 7, 6, 5), sumsOnly(5, 8, 7, 6))
	poppedIs(t, sumsOnly(1, 2, 9, 8, 0, 7), sumsOnly(2, 0, 9, 8, 7))
	poppedIs(t, sumsOnly(1, 5, 4, 0, 0, 3, 3, 9), sumsOnly(4, 5, 3, 0, 0, 9, 3))
	// It stays above one that is alike, although a lesser one stands below that.
	poppedIs(t, sumsOnly(0, 2, 9, 1, 1, 9, 9, 2), sumsOnly(2, 2, 9, 1, 1, 9, 9))
}

func TestTheLeastIsFirstInEveryOrder(t *testing.T) {
	eachOrder(sumsOnly(1, 2, 3, 4, 5, 6, 7), func(order []impl.State) { tellsLeastFirst(t, order) })
	eachOrder(sumsOnly(1, 1, 2, 2, 2, 3), func(order []impl.State) { tellsLeastFirst(t, order) })
	eachOrder(mixedStates()[1:7], func(order []impl.State) { tellsLeastFirst(t, order) })
	eachOrder(mixedStates()[6:], func(order []impl.State) { tellsLeastFirst(t, order) })
}

func TestTheLeastIsFirstOfAnyStates(t *testing.T) {
	for seed := range int64(400) {
		tellsLeastFirst(t, anyStates(seed, int(seed)%50))
	}
	tellsLeastFirst(t, mixedStates())
	back := mixedStates()
	slices.Reverse(back)
	tellsLeastFirst(t, back)
	tellsLeastFirst(t, slices.Repeat(sumsOnly(4), 60))
}

func TestTheLeastIsFirstOfTheGreatestNumbers(t *testing.T) {
	states := oddStates()
	tellsLeastFirst(t, states)
	slices.Reverse(states)
	tellsLeastFirst(t, states)
	for seed := range int64(10) {
		chance := rand.New(rand.NewSource(seed))
		chance.Shuffle(len(states), func(i int, k int) { states[i], states[k] = states[k], states[i] })
		tellsLeastFirst(t, states)
	}
}

// Pushes and pops by turns: each list is that of the chapter's words, from the one that was told before.
func TestPushedAndPoppedByTurns(t *testing.T) {
	for seed := range int64(150) {
		chance := rand.New(rand.NewSource(seed))
		list, in := []impl.State(nil), 0
		for _, x := range anyStates(seed, 80) {
			isHeapByWord(t, list, x)
			if chance.Intn(3) > 0 {
				list = impl.Pushed(list, x)
				in++
			} else if rest, _, ok := impl.Popped(list); ok {
				list = rest
				in--
			}
			if len(list) != in || !impl.HeapOk(list) {
				t.Fatalf("the list is %v; want %d states", list, in)
			}
		}
	}
}

func TestAllShortListsAreByWord(t *testing.T) {
	pushed := sumsOnly(0, 1, 2, 3)
	for count := range 8 {
		eachList(count, 0, 2, func(v []int) { isHeapByWord(t, sumsOnly(v...), pushed...) })
	}
	mixed := mixedStates()[1:6]
	for count := range 6 {
		eachList(count, 0, len(mixed)-1, func(v []int) {
			list := []impl.State{}
			for _, i := range v {
				list = append(list, mixed[i])
			}
			isHeapByWord(t, list, mixed...)
		})
	}
}

func TestAnyListsAreByWord(t *testing.T) {
	for seed := range int64(1500) {
		list := anyStates(seed, int(seed)%40)
		pushed := anyStates(seed+5000, 4)
		isHeapByWord(t, list, pushed...)
		slices.SortFunc(list, compareByWord)
		isHeapByWord(t, list, pushed...)
	}
	odd := oddStates()
	isHeapByWord(t, odd, odd...)
	slices.Reverse(odd)
	isHeapByWord(t, odd, odd...)
}

func TestLongLists(t *testing.T) {
	const count = 1<<16 - 1
	list := []impl.State{}
	for i := range count {
		list = append(list, stateOf(i, i%3))
	}
	isHeapByWord(t, list, stateOf(-1), stateOf(0), stateOf(0, 0), stateOf(count/4, 5), stateOf(count), stateOf(math.MaxInt))
	if !impl.HeapOk(list) {
		t.Error("HeapOk is false")
	}
	// The one above the last place has the Sum that is its place.
	list[count-1] = stateOf(count/2-2, 9)
	if impl.HeapOk(list) {
		t.Error("HeapOk is true with a lesser state at the last place")
	}
	isHeapByWord(t, list, stateOf(0))
	slices.Reverse(list)
	isHeapByWord(t, list, stateOf(-1))
	isHeapByWord(t, slices.Repeat([]impl.State{stateOf(1, 2)}, count), stateOf(1, 2), stateOf(1, 1))
	tellsLeastFirst(t, anyStates(7, 900))
}

// overwrite turns all that a list of states holds, its spare room too.
func overwrite(list []impl.State) {
	whole := list[:cap(list)]
	for i := range whole {
		vals := whole[i].Vals[:cap(whole[i].Vals)]
		for k := range vals {
			vals[k] = 1000 + i
		}
		whole[i].Sum = 2000 + i
	}
}

// wholeStates are the states of a list and of its spare room, with the spare room of their Vals.
func wholeStates(list []impl.State) []impl.State {
	whole := []impl.State{}
	for _, state := range list[:cap(list)] {
		whole = append(whole, stateOf(state.Sum, state.Vals[:cap(state.Vals)]...))
	}
	return whole
}

// sharingStates has spare room everywhere; all its states have the same Vals, some of them fewer.
func sharingStates() []impl.State {
	vals := withRoom([]int{1, 0, 2})
	list := []impl.State{{Vals: vals[:1], Sum: 3}, {Vals: vals, Sum: 3}, {Vals: vals, Sum: 4}, {Vals: vals[:2], Sum: 5}, {Vals: vals, Sum: 5}}
	return withRoom(list)
}

func TestStatesAreLeftAsTheyAre(t *testing.T) {
	list := sharingStates()
	x := impl.State{Vals: list[1].Vals, Sum: 3}
	for size := range len(list) + 1 {
		for _, sum := range []int{2, 3, 4, 9} {
			x.Sum = sum
			before := cloneStates(wholeStates(list))
			impl.StateLess(list[0], x)
			impl.HeapOk(list[:size])
			pushed := impl.Pushed(list[:size], x)
			rest, first, _ := impl.Popped(list[:size])
			for _, answer := range [][]impl.State{pushed, rest, {first}} {
				overwrite(answer)
				_ = append(answer, stateOf(77, 77))
			}
			if !sameStates(wholeStates(list), before) || x.Sum != sum {
				t.Fatalf("of %v it makes %v", before, wholeStates(list))
			}
		}
	}
}

func TestAnswersStayWhenStatesAreChanged(t *testing.T) {
	for size := range len(sharingStates()) + 1 {
		for _, sum := range []int{2, 3, 4, 9} {
			list := sharingStates()[:size]
			x := impl.State{Vals: withRoom([]int{1, 0}), Sum: sum}
			pushed := impl.Pushed(list, x)
			rest, first, _ := impl.Popped(list)
			told := [][]impl.State{cloneStates(pushed), cloneStates(rest), cloneStates([]impl.State{first})}
			overwrite(list)
			overwrite([]impl.State{x})
			for i, answer := range [][]impl.State{pushed, rest, {first}} {
				if !sameStates(answer, told[i]) {
					t.Fatalf("the answer is %v, and %v when the states are changed", told[i], answer)
				}
			}
		}
	}
}

// sharesNone writes a number of its own into the Vals of each state, and looks whether it is still there behind all of them.
func sharesNone(t *testing.T, states []impl.State) {
	t.Helper()
	for i, state := range states {
		vals := state.Vals[:cap(state.Vals)]
		for k := range vals {
			vals[k] = 1000 + i
		}
	}
	for i, state := range states {
		for _, val := range state.Vals[:cap(state.Vals)] {
			if val != 1000+i {
				t.Fatalf("two states of %v share their Vals", states)
			}
		}
	}
}

// States that shared their Vals do not in an answer: not with each other, nor with the one that is popped, nor with what is in the spare room.
func TestNoTwoStatesOfAnAnswerShare(t *testing.T) {
	list := sharingStates()
	for size := range len(list) + 1 {
		for _, sum := range []int{2, 4, 9} {
			pushed := impl.Pushed(list[:size], impl.State{Vals: list[1].Vals, Sum: sum})
			sharesNone(t, pushed[:cap(pushed)])
		}
		rest, first, _ := impl.Popped(list[:size])
		sharesNone(t, append(slices.Clone(rest[:cap(rest)]), first))
	}
}

func TestHeapsAreToldAlikeAgain(t *testing.T) {
	list := mixedStates()
	rest, first, _ := impl.Popped(list)
	pushed := impl.Pushed(list, stateOf(2, 0))
	wantRest, wantPushed := cloneStates(rest), cloneStates(pushed)
	overwrite(rest)
	overwrite(pushed)
	overwrite([]impl.State{first})
	again, x, ok := impl.Popped(list)
	if !ok || !sameState(x, stateOf(-3, 9)) || !sameStates(again, wantRest) {
		t.Errorf("Popped is %v, %v, %v; before it was %v", again, x, ok, wantRest)
	}
	pushedIs(t, list, stateOf(2, 0), wantPushed)
}
