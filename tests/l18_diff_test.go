package tests

import (
	"fmt"
	"math"
	"math/rand"
	"slices"
	"strings"
	"testing"

	"loop.example/g00459/impl"
)

const mostLines = 200

// editsOf reads edits by hand: "=a" keeps the line "a", "-a" drops it, and "+a" adds it.
func editsOf(texts ...string) []impl.Edit {
	list := []impl.Edit{}
	for _, text := range texts {
		list = append(list, impl.Edit{Kind: strings.IndexByte("=-+", text[0]) + 1, Line: text[1:]})
	}
	return list
}

// letters is a list of lines of one byte each.
func letters(text string) []string {
	lines := []string{}
	for i := range len(text) {
		lines = append(lines, text[i:i+1])
	}
	return lines
}

// eachLetters hands all lists of at most so many lines out of these letters.
func eachLetters(of string, most int, hand func(lines []string)) {
	for count := range most + 1 {
		eachList(count, 0, len(of)-1, func(v []int) {
			lines := []string{}
			for _, i := range v {
				lines = append(lines, of[i:i+1])
			}
			hand(lines)
		})
	}
}

func mayBeCompared(a []string, b []string) bool { return len(a) <= mostLines && len(b) <= mostLines }

// isLeftOf tells whether some lines are what is left of a list when lines are taken out.
func isLeftOf(some []string, list []string) bool {
	for _, line := range list {
		if len(some) > 0 && some[0] == line {
			some = some[1:]
		}
	}
	return len(some) == 0
}

// commonByWord takes lines out of a in all ways.
func commonByWord(a []string, b []string) int {
	most := 0
	for ways := range 1 << len(a) {
		left := []string{}
		for i, line := range a {
			if ways>>i&1 == 1 {
				left = append(left, line)
			}
		}
		if len(left) > most && isLeftOf(left, b) {
			most = len(left)
		}
	}
	return most
}

// commonForward goes from the first lines on, with one row of what is in common so far.
func commonForward(a []string, b []string) int {
	row := make([]int, len(b)+1)
	for _, line := range a {
		ahead := 0
		for j := range b {
			above := row[j+1]
			if b[j] == line {
				row[j+1] = ahead + 1
			} else {
				row[j+1] = max(above, row[j])
			}
			ahead = above
		}
	}
	return row[len(b)]
}

// diffByWord is by the chapter's words.
func diffByWord(a []string, b []string, common func(a []string, b []string) int) []impl.Edit {
	list := []impl.Edit{}
	if !mayBeCompared(a, b) {
		return list
	}
	for len(a) > 0 || len(b) > 0 {
		switch {
		case len(a) > 0 && len(b) > 0 && a[0] == b[0]:
			list = append(list, impl.Edit{Kind: 1, Line: a[0]})
			a, b = a[1:], b[1:]
		case len(b) == 0 || len(a) > 0 && common(a[1:], b) >= common(a, b[1:]):
			list = append(list, impl.Edit{Kind: 2, Line: a[0]})
			a = a[1:]
		default:
			list = append(list, impl.Edit{Kind: 3, Line: b[0]})
			b = b[1:]
		}
	}
	return list
}

// ofKinds has the lines of the edits of two kinds.
func ofKinds(list []impl.Edit, one int, other int) []string {
	lines := []string{}
	for _, e := range list {
		if e.Kind == one || e.Kind == other {
			lines = append(lines, e.Line)
		}
	}
	return lines
}

// appliedByWord holds the whole list against what is kept and dropped, and takes what is kept and added.
func appliedByWord(a []string, list []impl.Edit) ([]string, bool) {
	for _, e := range list {
		if e.Kind < 1 || e.Kind > 3 {
			return nil, false
		}
	}
	if !slices.Equal(ofKinds(list, 1, 2), a) {
		return nil, false
	}
	return ofKinds(list, 1, 3), true
}

func backByWord(list []impl.Edit) []impl.Edit {
	back := slices.Clone(list)
	for i, e := range list {
		if e.Kind == 2 || e.Kind == 3 {
			back[i].Kind = 5 - e.Kind
		}
	}
	return back
}

func editsAre(t *testing.T, what string, got []impl.Edit, want ...impl.Edit) {
	t.Helper()
	if !slices.Equal(got, want) {
		t.Fatalf("%.300s is %.400q; want %.400q", what, fmt.Sprint(got), fmt.Sprint(want))
	}
}

func commonIs(t *testing.T, a []string, b []string, want int) {
	t.Helper()
	if got := impl.CommonOf(a, b); got != want {
		t.Fatalf("CommonOf %.300q and %.300q is %d; want %d", a, b, got, want)
	}
	if got := impl.CommonOf(b, a); got != want {
		t.Fatalf("CommonOf %.300q and %.300q is %d; want %d", b, a, got, want)
	}
}

func appliedIs(t *testing.T, a []string, list []impl.Edit, want ...string) {
	t.Helper()
	got, ok := impl.ApplyEdits(a, list)
	if !ok || !slices.Equal(got, want) {
		t.Fatalf("%.300q with %.300q is %.300q, %v; want %.300q, true", a, fmt.Sprint(list), got, ok, want)
	}
}

func isNotApplied(t *testing.T, a []string, list []impl.Edit) {
	t.Helper()
	if got, ok := impl.ApplyEdits(a, list); ok || len(got) > 0 {
		t.Fatalf("%.300q with %.300q is %.300q, %v; want nothing, false", a, fmt.Sprint(list), got, ok)
	}
}

// isChanged holds promise 18 for two lists of which so many lines are in common.
func isChanged(t *testing.T, a []string, b []string, common int) []impl.Edit {
	t.Helper()
	commonIs(t, a, b, common)
	list := impl.DiffOf(a, b)
	appliedIs(t, a, list, b...)
	appliedIs(t, b, impl.BackOf(list), a...)
	editsAre(t, "BackOf BackOf", impl.BackOf(impl.BackOf(list)), list...)
	if got := impl.KeptIn(list); got != common {
		t.Fatalf("of %.300q and %.300q are %d lines kept; want %d", a, b, got, common)
	}
	if got, want := len(list), len(a)+len(b)-common; got != want {
		t.Fatalf("%.300q becomes %.300q by %d edits; want %d", a, b, got, want)
	}
	return list
}

// diffIs holds the edits between two lists of letters against those by hand.
func diffIs(t *testing.T, a string, b string, want ...string) {
	t.Helper()
	edits := editsOf(want...)
	list := isChanged(t, letters(a), letters(b), len(ofKinds(edits, 1, 1)))
	editsAre(t, fmt.Sprintf("DiffOf %q and %q", a, b), list, edits...)
}

// isChangedByWord holds the edits of short lists against all ways to take lines out.
func isChangedByWord(t *testing.T, a []string, b []string) {
	t.Helper()
	list := isChanged(t, a, b, commonByWord(a, b))
	editsAre(t, fmt.Sprintf("DiffOf %q and %q", a, b), list, diffByWord(a, b, commonForward)...)
}

func nothingIsCompared(t *testing.T, a []string, b []string) {
	t.Helper()
	commonIs(t, a, b, 0)
	editsAre(t, "DiffOf too many lines", impl.DiffOf(a, b))
	editsAre(t, "DiffOf too many lines", impl.DiffOf(b, a))
}

func manyLines(count int, lines ...string) []string {
	many := []string{}
	for i := range count {
		many = append(many, lines[i%len(lines)])
	}
	return many
}

func anyLines(chance *rand.Rand, count int, kinds int) []string {
	lines := []string{}
	for range count {
		lines = append(lines, fmt.Sprint("line ", chance.Intn(kinds)))
	}
	return lines
}

// changedLines has lines of a list taken out, put in and written over.
func changedLines(chance *rand.Rand, list []string, changes int) []string {
	lines := slices.Clone(list)
	for range changes {
		at := chance.Intn(len(lines) + 1)
		switch put := fmt.Sprint("line ", chance.Intn(9)); {
		case at == len(lines) || chance.Intn(3) == 0:
			lines = slices.Insert(lines, at, put)
		case chance.Intn(2) == 0:
			lines = slices.Delete(lines, at, at+1)
		default:
			lines[at] = put
		}
	}
	return lines[:min(len(lines), mostLines)]
}

func TestConstantsOfEdits(t *testing.T) {
	if impl.EdKeep != 1 || impl.EdDrop != 2 || impl.EdAdd != 3 || impl.MaxLines != mostLines {
		t.Error("a Kind of an edit, or the limit of lines, is not what the chapter says")
	}
}

func TestDiffOfTheSameLines(t *testing.T) {
	diffIs(t, "a", "a", "=a")
	diffIs(t, "abc", "abc", "=a", "=b", "=c")
	diffIs(t, "aba", "aba", "=a", "=b", "=a")
}

func TestDiffOfOtherLines(t *testing.T) {
	diffIs(t, "a", "b", "-a", "+b")
	diffIs(t, "ab", "cd", "-a", "-b", "+c", "+d")
	diffIs(t, "abc", "d", "-a", "-b", "-c", "+d")
	diffIs(t, "a", "bcd", "-a", "+b", "+c", "+d")
}

func TestDiffOfSomeLinesInCommon(t *testing.T) {
	diffIs(t, "abxy", "abz", "=a", "=b", "-x", "-y", "+z")
	diffIs(t, "xyab", "zab", "-x", "-y", "+z", "=a", "=b")
	diffIs(t, "xaby", "zabw", "-x", "+z", "=a", "=b", "-y", "+w")
	diffIs(t, "axb", "ayb", "=a", "-x", "+y", "=b")
	diffIs(t, "abc", "bdc", "-a", "=b", "+d", "=c")
	diffIs(t, "axbyc", "zaubwcv", "+z", "=a", "-x", "+u", "=b", "-y", "+w", "=c", "+v")
}

func TestDiffOfEmptyLists(t *testing.T) {
	diffIs(t, "", "")
	diffIs(t, "a", "", "-a")
	diffIs(t, "", "a", "+a")
	diffIs(t, "aab", "", "-a", "-a", "-b")
	diffIs(t, "", "aab", "+a", "+a", "+b")
	commonIs(t, nil, nil, 0)
	editsAre(t, "DiffOf nothing", impl.DiffOf(nil, nil))
	editsAre(t, "DiffOf a line and nil", impl.DiffOf([]string{"a"}, nil), editsOf("-a")...)
	editsAre(t, "DiffOf nil and a line", impl.DiffOf(nil, []string{"a"}), editsOf("+a")...)
}

func TestDiffOfOneLineMore(t *testing.T) {
	diffIs(t, "bc", "abc", "+a", "=b", "=c")
	diffIs(t, "ac", "abc", "=a", "+b", "=c")
	diffIs(t, "ab", "abc", "=a", "=b", "+c")
	diffIs(t, "abc", "bc", "-a", "=b", "=c")
	diffIs(t, "abc", "ac", "=a", "-b", "=c")
	diffIs(t, "abc", "ab", "=a", "=b", "-c")
}

// TestOneLineMoreAnywhere puts a line into a list, one that is its own or one like another, and takes it out again.
func TestOneLineMoreAnywhere(t *testing.T) {
	for _, of := range []string{"a", "abcd", "aabb", "abab", "aaaa"} {
		for at := range len(of) + 1 {
			for _, more := range []string{"a", "b", "x"} {
				list := isChanged(t, letters(of), letters(of[:at]+more+of[at:]), len(of))
				if got := ofKinds(list, impl.EdAdd, impl.EdAdd); !slices.Equal(got, []string{more}) {
					t.Errorf("%q with %q at %d adds %q", of, more, at, got)
				}
				list = isChanged(t, letters(of[:at]+more+of[at:]), letters(of), len(of))
				if got := ofKinds(list, impl.EdDrop, impl.EdDrop); !slices.Equal(got, []string{more}) {
					t.Errorf("%q without %q at %d drops %q", of, more, at, got)
				}
			}
		}
	}
}

func TestDiffOfLinesThatAreAlike(t *testing.T) {
	diffIs(t, "a", "aa", "=a", "+a")
	diffIs(t, "aa", "a", "=a", "-a")
	diffIs(t, "aaa", "aa", "=a", "=a", "-a")
	diffIs(t, "aab", "ab", "=a", "-a", "=b")
	diffIs(t, "ab", "aab", "=a", "+a", "=b")
	diffIs(t, "baa", "aab", "-b", "=a", "=a", "+b")
	diffIs(t, "aba", "bab", "-a", "=b", "=a", "+b")
	diffIs(t, "xaa", "aya", "-x", "=a", "+y", "=a")
	diffIs(t, "abcabba", "cbabac", "-a", "-b", "=c", "-a", "=b", "+a", "=b", "=a", "+c")
}

// TestSameLinesAreKeptAtOnce: the first ones are kept, also where a later one would leave as much in common.
func TestSameLinesAreKeptAtOnce(t *testing.T) {
	diffIs(t, "abac", "ac", "=a", "-b", "-a", "=c")
	diffIs(t, "ac", "abac", "=a", "+b", "+a", "=c")
}

// TestDroppedLinesComeFirst: where dropping and adding leave as much in common, the line is dropped.
func TestDroppedLinesComeFirst(t *testing.T) {
	diffIs(t, "ab", "ba", "-a", "=b", "+a")
	diffIs(t, "abc", "cab", "+c", "=a", "=b", "-c")
	diffIs(t, "abc", "cba", "-a", "-b", "=c", "+b", "+a")
	diffIs(t, "abxcd", "cdxab", "-a", "-b", "-x", "=c", "=d", "+x", "+a", "+b")
	diffIs(t, "xa", "ya", "-x", "+y", "=a")
}

func TestAddedLinesComeFirstWhereMoreIsLeft(t *testing.T) {
	diffIs(t, "abc", "xabc", "+x", "=a", "=b", "=c")
	diffIs(t, "abc", "bcabc", "+b", "+c", "=a", "=b", "=c")
	diffIs(t, "abcx", "xabc", "+x", "=a", "=b", "=c", "-x")
}

func TestDiffOfAllShortLists(t *testing.T) {
	eachLetters("abc", 4, func(a []string) {
		eachLetters("abc", 4, func(b []string) { isChangedByWord(t, a, b) })
	})
}

func TestDiffOfAllListsOfTwoLetters(t *testing.T) {
	eachLetters("ab", 6, func(a []string) {
		eachLetters("ab", 6, func(b []string) { isChangedByWord(t, a, b) })
	})
}

func TestShortListsByChance(t *testing.T) {
	chance := rand.New(rand.NewSource(18))
	for range 3000 {
		a := anyLines(chance, chance.Intn(10), 1+chance.Intn(6))
		isChangedByWord(t, a, anyLines(chance, chance.Intn(10), 1+chance.Intn(6)))
		isChangedByWord(t, a, changedLines(chance, a, chance.Intn(4)))
	}
}

func TestLongListsByChance(t *testing.T) {
	chance := rand.New(rand.NewSource(180))
	for _, count := range []int{15, 40, 100, 199, mostLines} {
		for _, kinds := range []int{1, 2, 5, 30, 1000} {
			a := anyLines(chance, count, kinds)
			for _, b := range [][]string{anyLines(chance, chance.Intn(count+1), kinds), changedLines(chance, a, 9)} {
				list := isChanged(t, a, b, commonForward(a, b))
				editsAre(t, "DiffOf long lists", list, diffByWord(a, b, commonForward)...)
			}
		}
	}
}

func TestMostLines(t *testing.T) {
	full, over := manyLines(mostLines, "a", "b", "c"), manyLines(mostLines+1, "a", "b", "c")
	isChanged(t, full, full, mostLines)
	isChanged(t, full, nil, 0)
	isChanged(t, nil, full, 0)
	isChanged(t, full, full[1:], mostLines-1)
	isChanged(t, full, manyLines(mostLines, "x"), 0)
	isChanged(t, full, []string{"c"}, 1)
	for _, other := range [][]string{nil, {"a"}, full, over, manyLines(1000, "a")} {
		nothingIsCompared(t, over, other)
	}
}

func TestEditsHaveNoLimit(t *testing.T) {
	for _, count := range []int{mostLines + 1, 1000, 30000} {
		lines := manyLines(count, "a", "b", "")
		kept, dropped, added := []impl.Edit{}, []impl.Edit{}, []impl.Edit{}
		for _, line := range lines {
			kept = append(kept, impl.Edit{Kind: impl.EdKeep, Line: line})
			dropped = append(dropped, impl.Edit{Kind: impl.EdDrop, Line: line})
			added = append(added, impl.Edit{Kind: impl.EdAdd, Line: line})
		}
		appliedIs(t, lines, kept, lines...)
		appliedIs(t, lines, dropped)
		appliedIs(t, nil, added, lines...)
		appliedIs(t, lines, slices.Concat(added, dropped), lines...)
		isNotApplied(t, lines, kept[1:])
		isNotApplied(t, lines[:count-1], kept)
		editsAre(t, "BackOf many edits", impl.BackOf(dropped), added...)
		editsAre(t, "BackOf many edits", impl.BackOf(kept), kept...)
		if got := impl.KeptIn(slices.Concat(kept, dropped, kept, added)); got != 2*count {
			t.Errorf("%d are kept; want %d", got, 2*count)
		}
	}
}

func TestLinesOfEveryKind(t *testing.T) {
	long := strings.Repeat("long ", 20000)
	a := []string{"", allBytes(), "a\nb", "\xff", long, "", "\x00", "a"}
	b := []string{allBytes(), "", "a\nb", "\xfe", long + "x", long, "", "\x00\x00", "A"}
	isChangedByWord(t, a, b)
	isChangedByWord(t, b, a)
	isChangedByWord(t, []string{""}, []string{"", ""})
	isChangedByWord(t, []string{""}, nil)
	for i := range 256 {
		for _, other := range []byte{0, 10, 32, 127, 128, 255} {
			one, two := string([]byte{byte(i)}), string([]byte{other})
			isChangedByWord(t, []string{one, two}, []string{two + one, two})
			isChangedByWord(t, []string{one, two}, []string{two, one})
		}
	}
}

// TestLinesThatAreNearlyTheSame differ in their last byte, or in one byte more, and are not the same.
func TestLinesThatAreNearlyTheSame(t *testing.T) {
	long := strings.Repeat("x", 5000)
	isChanged(t, []string{long + "a"}, []string{long + "b"}, 0)
	isChanged(t, []string{long}, []string{long + " "}, 0)
	isChanged(t, []string{"a "}, []string{"a"}, 0)
	isChanged(t, []string{" a"}, []string{"a"}, 0)
	isChanged(t, []string{"a", "b"}, []string{"ab"}, 0)
	isChanged(t, []string{"a\nb"}, []string{"a", "b"}, 0)
}

func TestEditsByHand(t *testing.T) {
	appliedIs(t, letters("abc"), editsOf("=a", "-b", "+x", "=c", "+y"), "a", "x", "c", "y")
	appliedIs(t, letters("ab"), editsOf("+x", "=a", "=b"), "x", "a", "b")
	appliedIs(t, letters("ab"), editsOf("-a", "-b"))
	appliedIs(t, letters("ab"), editsOf("-a", "+a", "-b", "+b"), "a", "b")
	appliedIs(t, nil, editsOf("+a", "+a"), "a", "a")
	appliedIs(t, letters("aa"), editsOf("-a", "=a"), "a")
}

func TestNoEdits(t *testing.T) {
	appliedIs(t, nil, nil)
	appliedIs(t, []string{}, []impl.Edit{})
	isNotApplied(t, letters("a"), nil)
	isNotApplied(t, []string{""}, nil)
	editsAre(t, "BackOf nothing", impl.BackOf(nil))
	if impl.KeptIn(nil) != 0 {
		t.Error("nothing is kept of no edits")
	}
}

func TestEditsThatDoNotFit(t *testing.T) {
	for _, edits := range [][]string{
		{"=b"}, {"-b"}, {"=a", "=a"}, {"=a", "-a"}, {"-b", "-a"}, // a line that is not theirs
		{"=a", "=b", "=b"}, {"=a", "=b", "-b"}, {"=a", "=b", "=c"}, {"=a", "=b", "="}, {"-a", "-b", "-"}, // no line is left
		{"=a"}, {"-a"}, {"+a"}, {"+a", "+b"}, {"=a", "+b"}, // a line is left
		{"=A", "=b"}, {"=a ", "=b"}, {"=ab"}, {"=", "=a", "=b"},
	} {
		isNotApplied(t, letters("ab"), editsOf(edits...))
	}
	isNotApplied(t, nil, editsOf("=a"))
	isNotApplied(t, nil, editsOf("-a"))
	isNotApplied(t, nil, editsOf("="))
	isNotApplied(t, nil, editsOf("-"))
	isNotApplied(t, nil, editsOf("+a", "-a"))
}

func oddKinds() []int {
	return []int{0, 4, 5, -1, -2, -3, 257, 258, 259, math.MinInt, math.MinInt + 1, math.MaxInt, 1 << 32, 1<<32 + 1}
}

func TestKindsThatAreNone(t *testing.T) {
	for _, kind := range oddKinds() {
		odd := impl.Edit{Kind: kind, Line: "a"}
		isNotApplied(t, letters("a"), []impl.Edit{odd})
		isNotApplied(t, nil, []impl.Edit{odd})
		isNotApplied(t, letters("ab"), append(editsOf("=a", "=b"), odd))
		isNotApplied(t, letters("ab"), append([]impl.Edit{{Kind: kind}}, editsOf("=a", "=b")...))
		isNotApplied(t, letters("ab"), slices.Concat(editsOf("=a", "+x"), []impl.Edit{odd}, editsOf("-b")))
		list := slices.Concat([]impl.Edit{odd}, editsOf("=a", "-b"), []impl.Edit{odd, {Kind: kind}}, editsOf("+c"))
		editsAre(t, "BackOf with a Kind that is none", impl.BackOf(list), slices.Concat([]impl.Edit{odd}, editsOf("=a", "+b"), []impl.Edit{odd, {Kind: kind}}, editsOf("-c"))...)
		if got := impl.KeptIn(list); got != 1 {
			t.Errorf("with the Kind %d %d are kept; want 1", kind, got)
		}
	}
}

func TestBackByHand(t *testing.T) {
	editsAre(t, "BackOf", impl.BackOf(editsOf("=a", "-b", "+c", "-", "+", "=")), editsOf("=a", "+b", "-c", "+", "-", "=")...)
}

func TestKeptByHand(t *testing.T) {
	for want, edits := range [][]string{{"-a", "+a"}, {"-a", "=b", "+c"}, {"=a", "=a"}, {"=", "+x", "=a", "-y", "="}} {
		if got := impl.KeptIn(editsOf(edits...)); got != want {
			t.Errorf("of %q are %d kept; want %d", edits, got, want)
		}
	}
}

func isAppliedByWord(t *testing.T, a []string, list []impl.Edit) {
	t.Helper()
	if want, ok := appliedByWord(a, list); ok {
		appliedIs(t, a, list, want...)
	} else {
		isNotApplied(t, a, list)
	}
	editsAre(t, "BackOf any edits", impl.BackOf(list), backByWord(list)...)
	if got, want := impl.KeptIn(list), len(ofKinds(list, 1, 1)); got != want {
		t.Fatalf("of %q are %d kept; want %d", fmt.Sprint(list), got, want)
	}
}

// TestAllShortEdits has all lists of up to three edits of every Kind and of one above and below, done to all short lists.
func TestAllShortEdits(t *testing.T) {
	for count := range 4 {
		eachList(count, 0, 9, func(v []int) {
			list := []impl.Edit{}
			for _, n := range v {
				list = append(list, impl.Edit{Kind: n / 2, Line: letters("ab")[n%2]})
			}
			eachLetters("ab", 3, func(a []string) { isAppliedByWord(t, a, list) })
		})
	}
}

// TestAnyEdits has edits that fit, with one thing turned in some of them, and edits by chance.
func TestAnyEdits(t *testing.T) {
	chance := rand.New(rand.NewSource(181))
	for range 5000 {
		a := anyLines(chance, chance.Intn(12), 3)
		list := impl.DiffOf(a, anyLines(chance, chance.Intn(12), 3))
		isAppliedByWord(t, a, list)
		chance.Shuffle(len(list), func(i, j int) {
			if chance.Intn(9) == 0 {
				list[i], list[j] = list[j], list[i]
			}
		})
		isAppliedByWord(t, a, list)
		if len(list) > 0 {
			list[chance.Intn(len(list))].Kind = chance.Intn(5)
			isAppliedByWord(t, a, list)
			list[chance.Intn(len(list))].Line = fmt.Sprint("line ", chance.Intn(3))
			isAppliedByWord(t, a, list)
			isAppliedByWord(t, a, list[1:])
		}
	}
}

func editLines(list []impl.Edit) []string {
	lines := []string{}
	for _, e := range list {
		lines = append(lines, e.Line)
	}
	return lines
}

func isNewMemory(t *testing.T, what string, lines []string, handed []string) {
	t.Helper()
	for _, line := range lines {
		for _, text := range handed {
			if sharesMemory(line, text) {
				t.Errorf("%q of %s is not new memory", line, what)
			}
		}
	}
}

func TestEditsAreNewMemory(t *testing.T) {
	a, b := []string{"one", "two", "three"}, []string{"zero", "two", "four", "three"}
	list := impl.DiffOf(a, b)
	isNewMemory(t, "DiffOf", editLines(list), slices.Concat(a, b))
	lines, ok := impl.ApplyEdits(a, list)
	if !ok {
		t.Fatal("the edits don't fit")
	}
	isNewMemory(t, "ApplyEdits", lines, append(editLines(list), a...))
	list = append(list, impl.Edit{Kind: 9, Line: "odd"})
	isNewMemory(t, "BackOf", editLines(impl.BackOf(list)), editLines(list))
}

func TestEditsLeaveTheLists(t *testing.T) {
	a, b := withRoom(letters("abcab")), withRoom(letters("bcxab"))
	list := withRoom(impl.DiffOf(a, b))
	wasA, wasB, was := slices.Clone(a[:cap(a)]), slices.Clone(b[:cap(b)]), slices.Clone(list[:cap(list)])
	impl.CommonOf(a, b)
	impl.DiffOf(a, b)
	lines, _ := impl.ApplyEdits(a, list)
	back := impl.BackOf(list)
	impl.KeptIn(list)
	impl.ApplyEdits(b, list)
	for i := range lines {
		lines[i] = "spoilt"
	}
	for i := range back {
		back[i] = impl.Edit{Kind: 7, Line: "spoilt"}
	}
	linesAre(t, "a", a[:cap(a)], wasA...)
	linesAre(t, "b", b[:cap(b)], wasB...)
	editsAre(t, "the list of edits", list[:cap(list)], was...)
}

func TestEditsKeepNothing(t *testing.T) {
	chance := rand.New(rand.NewSource(182))
	asks := []func() string{}
	for _, count := range []int{0, 1, 5, 60, mostLines, mostLines + 1} {
		a := anyLines(chance, count, 9)
		b := anyLines(chance, 30, 9)
		list := impl.DiffOf(a, b)
		asks = append(asks,
			func() string { return fmt.Sprint(impl.CommonOf(a, b), impl.DiffOf(a, b), impl.DiffOf(b, a)) },
			func() string { return fmt.Sprint(impl.ApplyEdits(a, list)) },
			func() string { return fmt.Sprint(impl.ApplyEdits(b, list)) },
			func() string { return fmt.Sprint(impl.BackOf(list), impl.KeptIn(list)) })
	}
	keepNothing(t, asks)
}
