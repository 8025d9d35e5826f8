package tests

import (
	"math"
	"math/rand"
	"regexp"
	"slices"
	"strings"
	"testing"

	"loop.example/g00459/impl"
)

const (
	longRag    = 10000000
	mostRags   = 200
	mostShort  = 200
	mostNoteIn = 60
)

// noteForm is a note as it stands among signs: without a blank at its end.
var noteForm = regexp.MustCompile(`\A//([ -~]*[!-~])?\z`)

// wrapWidths are widths in which nothing has room, or all has; a difference with one of them may wrap round.
func wrapWidths() []int {
	return []int{math.MinInt, math.MinInt + 1, math.MinInt + 63, math.MinInt + 64, -1000, -64, -63, -2, -1, 0, 100000, math.MaxInt - 64, math.MaxInt - 1, math.MaxInt}
}

// manyWidths has the narrow ones, too.
func manyWidths() []int {
	widths := wrapWidths()
	for width := range 40 {
		widths = append(widths, width+1)
	}
	return append(widths, 60, 199, 200, 201, 260)
}

// wordsByBytes cuts a text byte by byte.
func wordsByBytes(text string) []string {
	words, word := []string{}, []byte{}
	for i := 0; i <= len(text); i++ {
		switch {
		case i < len(text) && text[i] != 32:
			word = append(word, text[i])
		case len(word) > 0:
			words, word = append(words, string(word)), nil
		}
	}
	return words
}

func mayBeWrapped(words []string) bool {
	return len(words) <= 60 && !slices.ContainsFunc(words, func(word string) bool { return word == "" || strings.IndexByte(word, 32) >= 0 })
}

// filledByWord writes each line out, with what stands ahead of it, and looks whether one more word makes it too long.
func filledByWord(words []string, ahead string, width int) []string {
	lines := []string{}
	for i, word := range words {
		if i > 0 {
			if longer := lines[len(lines)-1] + " " + word; len(longer) <= width {
				lines[len(lines)-1] = longer
				continue
			}
		}
		lines = append(lines, ahead+word)
	}
	return lines
}

func greedyByWord(words []string, width int) []string {
	if !mayBeWrapped(words) {
		return nil
	}
	return filledByWord(words, "", width)
}

// ragByWord is by the chapter's words.
func ragByWord(lines []string, width int) int {
	rag := 0
	for i, line := range lines {
		if i < mostRags {
			rag += lineRagByWord(line, width, i == len(lines)-1)
		}
	}
	return rag
}

// lineRagByWord makes the line longer until it is as long as the width: no difference is reckoned that might wrap round.
func lineRagByWord(line string, width int, last bool) int {
	if len(line) > width {
		return longRag
	}
	short := 0
	for !last && short < mostShort && len(line)+short < width {
		short++
	}
	return short * short
}

// eachWay hands out all ways to put words into lines, with how many words each line has.
func eachWay(words []string, hand func(lines []string, counts []int)) {
	if len(words) == 0 {
		hand(nil, nil)
		return
	}
	for cuts := range 1 << (len(words) - 1) {
		lines, counts := []string{words[0]}, []int{1}
		for i, word := range words[1:] {
			last := len(lines) - 1
			if cuts>>i&1 == 1 {
				lines, counts = append(lines, word), append(counts, 1)
			} else {
				lines[last] += " " + word
				counts[last]++
			}
		}
		hand(lines, counts)
	}
}

// wrapByWord tries all ways: the least rag, and of those that have it the one with the fewest words in each line, from the first one on.
func wrapByWord(words []string, width int) ([]string, int) {
	best, bestCounts, least := []string{}, []int{}, math.MaxInt
	eachWay(words, func(lines []string, counts []int) {
		rag := ragByWord(lines, width)
		if rag < least || rag == least && slices.Compare(counts, bestCounts) < 0 {
			best, bestCounts, least = lines, counts, rag
		}
	})
	return best, least
}

// fewestByWord is in how few lines words may be, when none but a word alone is too long.
func fewestByWord(words []string, width int) int {
	fewest := math.MaxInt
	eachWay(words, func(lines []string, counts []int) {
		for i, line := range lines {
			if counts[i] > 1 && len(line) > width {
				return
			}
		}
		fewest = min(fewest, len(lines))
	})
	return fewest
}

// ragForward is the least rag of many words: the first of them are put into lines that are not the last one, then one more of them, up to all.
func ragForward(words []string, width int) int {
	costs := []int{0}
	for end := 1; end <= len(words); end++ {
		least := math.MaxInt
		for from, cost := range costs {
			line := strings.Join(words[from:end], " ")
			least = min(least, cost+lineRagByWord(line, width, end == len(words)))
		}
		costs = append(costs, least)
	}
	return costs[len(words)]
}

func linesAre(t *testing.T, what string, got []string, want ...string) {
	t.Helper()
	if !slices.Equal(got, want) {
		t.Fatalf("%.200s is %.300q; want %.300q", what, got, want)
	}
}

func hasWords(t *testing.T, text string, want ...string) {
	t.Helper()
	linesAre(t, "WordsOf("+text+")", impl.WordsOf(text), want...)
	linesAre(t, "by bytes WordsOf("+text+")", wordsByBytes(text), want...)
}

// greedyIs has the words in one text, with a blank between.
func greedyIs(t *testing.T, text string, width int, want ...string) {
	t.Helper()
	words := strings.Split(text, " ")
	linesAre(t, "Greedy of "+text, impl.Greedy(words, width), want...)
	isFilled(t, words, width)
}

func ragIs(t *testing.T, want int, width int, lines ...string) {
	t.Helper()
	if got := impl.RagOf(lines, width); got != want {
		t.Fatalf("RagOf(%.200q, %d) is %d; want %d", lines, width, got, want)
	}
	if got := ragByWord(lines, width); got != want {
		t.Fatalf("by the words RagOf(%.200q, %d) is %d; want %d", lines, width, got, want)
	}
}

// wrapIs has the words in one text, with a blank between.
func wrapIs(t *testing.T, text string, width int, rag int, want ...string) {
	t.Helper()
	words := strings.Split(text, " ")
	linesAre(t, "BestWrap of "+text, impl.BestWrap(words, width), want...)
	if got := impl.LeastRag(words, width); got != rag {
		t.Fatalf("LeastRag(%q, %d) is %d; want %d", words, width, got, rag)
	}
	isWrapped(t, words, width)
}

// isFilled is promise 17 of Greedy: the words, in order, in lines that are no longer than width but for a word alone.
func isFilled(t *testing.T, words []string, width int) {
	t.Helper()
	lines := impl.Greedy(words, width)
	if want := greedyByWord(words, width); !slices.Equal(lines, want) {
		t.Fatalf("Greedy(%.200q, %d) is %.200q; want %.200q", words, width, lines, want)
	}
	if joined := strings.Join(lines, " "); joined != strings.Join(words, " ") {
		t.Fatalf("Greedy(%.200q, %d) has the words %.200q", words, width, joined)
	}
	for _, line := range lines {
		if len(line) > width && strings.Contains(line, " ") {
			t.Fatalf("Greedy(%.200q, %d) has the line %q", words, width, line)
		}
	}
}

// hasLeastRag is promise 17 of BestWrap, as far as it can be told of many words.
func hasLeastRag(t *testing.T, words []string, width int) {
	t.Helper()
	lines, least := impl.BestWrap(words, width), impl.LeastRag(words, width)
	if joined := strings.Join(lines, " "); joined != strings.Join(words, " ") || len(lines) > len(words) {
		t.Fatalf("BestWrap(%.200q, %d) has the words %.200q", words, width, joined)
	}
	if rag := impl.RagOf(lines, width); rag != least || rag != ragByWord(lines, width) {
		t.Fatalf("RagOf(%.200q, %d) is %d, LeastRag %d", lines, width, rag, least)
	}
	filled := impl.Greedy(words, width)
	if rag := impl.RagOf(filled, width); rag < least {
		t.Fatalf("LeastRag(%.200q, %d) is %d; that of Greedy %d", words, width, least, rag)
	}
	isLong := func(word string) bool { return len(word) > width }
	if !slices.ContainsFunc(words, isLong) && len(filled) > len(lines) {
		t.Fatalf("Greedy(%.200q, %d) has %d lines, BestWrap %d", words, width, len(filled), len(lines))
	}
}

// isWrapped holds few words against all ways to put them into lines.
func isWrapped(t *testing.T, words []string, width int) {
	t.Helper()
	isFilled(t, words, width)
	if fewest := fewestByWord(words, width); len(words) > 0 && len(impl.Greedy(words, width)) != fewest {
		t.Fatalf("Greedy(%q, %d) is %q; %d lines are enough", words, width, impl.Greedy(words, width), fewest)
	}
	hasLeastRag(t, words, width)
	want, least := wrapByWord(words, width)
	if got := impl.LeastRag(words, width); got != least {
		t.Fatalf("LeastRag(%q, %d) is %d; want %d", words, width, got, least)
	}
	if got := impl.BestWrap(words, width); !slices.Equal(got, want) {
		t.Fatalf("BestWrap(%q, %d) is %q; want %q", words, width, got, want)
	}
}

// eachHasTheFewest asks of each line of BestWrap whether fewer words would do; the words behind are told by LeastRag.
func eachHasTheFewest(t *testing.T, words []string, width int) {
	t.Helper()
	lines := impl.BestWrap(words, width)
	for i, from := 0, 0; i < len(lines); i++ {
		count := strings.Count(lines[i], " ") + 1
		for fewer := 1; fewer < count; fewer++ {
			first := strings.Join(words[from:from+fewer], " ")
			rest := impl.BestWrap(words[from+fewer:], width)
			if impl.RagOf(append([]string{first}, rest...), width) <= impl.LeastRag(words[from:], width) {
				t.Fatalf("BestWrap(%.300q, %d) has the line %q; %q would do", words, width, lines[i], first)
			}
		}
		from += count
	}
}

func nothingIsWrapped(t *testing.T, words []string, width int) {
	t.Helper()
	if lines := impl.Greedy(words, width); len(lines) != 0 {
		t.Fatalf("Greedy(%.200q, %d) is %.200q", words, width, lines)
	}
	if lines := impl.BestWrap(words, width); len(lines) != 0 {
		t.Fatalf("BestWrap(%.200q, %d) is %.200q", words, width, lines)
	}
	if rag := impl.LeastRag(words, width); rag != 0 {
		t.Fatalf("LeastRag(%.200q, %d) is %d", words, width, rag)
	}
}

func noteByWord(text string, in int, width int) []string {
	if !noteForm.MatchString(text) || len(text) > impl.MaxSource || !amongst(in, 0, mostNoteIn) {
		return nil
	}
	words := wordsByBytes(text[2:])
	switch {
	case len(words) == 0:
		return []string{blanks(in) + "//"}
	case len(words) > 60:
		return nil
	}
	return filledByWord(words, blanks(in)+"// ", width)
}

func noteIs(t *testing.T, text string, in int, width int, want ...string) {
	t.Helper()
	linesAre(t, "WrapNote of "+text, impl.WrapNote(text, in, width), want...)
	noteIsByWord(t, text, in, width)
}

// noteIsByWord also is promise 17 of a note: its words, in order, in lines that are notes.
func noteIsByWord(t *testing.T, text string, in int, width int) {
	t.Helper()
	lines := impl.WrapNote(text, in, width)
	if want := noteByWord(text, in, width); !slices.Equal(lines, want) {
		t.Fatalf("WrapNote(%.200q, %d, %d) is %.200q; want %.200q", text, in, width, lines, want)
	}
	if len(lines) == 0 {
		return
	}
	words := []string{}
	for _, line := range lines {
		note, ok := strings.CutPrefix(line, blanks(in))
		if !ok || !noteForm.MatchString(note) {
			t.Fatalf("WrapNote(%.200q, %d, %d) has the line %.200q", text, in, width, line)
		}
		own := wordsByBytes(note[2:])
		if len(line) > width && len(own) > 1 {
			t.Fatalf("WrapNote(%.200q, %d, %d) has the line %.200q", text, in, width, line)
		}
		words = append(words, own...)
	}
	if want := wordsByBytes(text[2:]); !slices.Equal(words, want) {
		t.Fatalf("WrapNote(%.200q, %d, %d) has the words %.200q", text, in, width, words)
	}
}

func isNoNote(t *testing.T, texts ...string) {
	t.Helper()
	for _, text := range texts {
		for _, in := range []int{0, 4, 60} {
			for _, width := range []int{0, 10, 80, math.MaxInt} {
				noteIs(t, text, in, width)
			}
		}
	}
}

// wordsLong has words of these lengths.
func wordsLong(lengths ...int) []string {
	words := []string{}
	for i, length := range lengths {
		words = append(words, strings.Repeat(string(rune('a'+i%26)), length))
	}
	return words
}

// anyWords has words of at most this length.
func anyWords(chance *rand.Rand, count int, longest int) []string {
	words := []string{}
	for range count {
		word := make([]byte, 1+chance.Intn(longest))
		for i := range word {
			word[i] = byte('a' + chance.Intn(26))
		}
		words = append(words, string(word))
	}
	return words
}

func TestLimitOfWraps(t *testing.T) {
	if impl.MaxWordsIn != 60 {
		t.Error("MaxWordsIn is not the document's")
	}
}

func TestWordsByHand(t *testing.T) {
	hasWords(t, "a", "a")
	hasWords(t, "a b", "a", "b")
	hasWords(t, "aaa bb cc ddddd", "aaa", "bb", "cc", "ddddd")
	hasWords(t, "a  b   c    d", "a", "b", "c", "d")
	hasWords(t, "a, b. (c) // d", "a,", "b.", "(c)", "//", "d")
	hasWords(t, "same same same", "same", "same", "same")
}

func TestBlanksAtEndsAreNoWords(t *testing.T) {
	hasWords(t, "")
	hasWords(t, " ")
	hasWords(t, "     ")
	hasWords(t, blanks(5000))
	hasWords(t, " a", "a")
	hasWords(t, "a ", "a")
	hasWords(t, "   a  b   ", "a", "b")
	hasWords(t, " aaa bb cc  ddddd ", "aaa", "bb", "cc", "ddddd")
}

// Of all bytes the byte 32 alone is a blank.
func TestWordsAreCutAtBlanksAlone(t *testing.T) {
	for i := range 256 {
		text := "a" + string([]byte{byte(i)}) + "b"
		if i == 32 {
			hasWords(t, text, "a", "b")
			continue
		}
		hasWords(t, text, text)
		hasWords(t, " "+text[1:]+" "+text[:2]+" ", text[1:], text[:2])
	}
	hasWords(t, "a\tb\nc\rd\ve\ff", "a\tb\nc\rd\ve\ff")
	hasWords(t, "a\u00a0b\u2003c\u3000d\u0085e", "a\u00a0b\u2003c\u3000d\u0085e")
	hasWords(t, "\xc2 \xa0 \xe3\x80 \x80", "\xc2", "\xa0", "\xe3\x80", "\x80")
	hasWords(t, "\n \t \r", "\n", "\t", "\r")
	hasWords(t, allBytes(), allBytes()[:32], allBytes()[33:])
}

func TestWordsOfSmallTexts(t *testing.T) {
	eachSmallText(func(text string) {
		linesAre(t, "WordsOf("+text+")", impl.WordsOf(text), wordsByBytes(text)...)
	})
}

func TestWordsHaveNoLimit(t *testing.T) {
	words := wordsLong(slices.Repeat([]int{1, 7}, 3000)...)
	hasWords(t, strings.Join(words, " "), words...)
	long := strings.Repeat("x", 30000)
	hasWords(t, "  "+long+"  y", long, "y")
}

func TestGreedyByHand(t *testing.T) {
	greedyIs(t, "aaa bb cc ddddd", 6, "aaa bb", "cc", "ddddd")
	greedyIs(t, "aaa bb cc ddddd", 5, "aaa", "bb cc", "ddddd")
	greedyIs(t, "aaa bb cc ddddd", 8, "aaa bb", "cc ddddd")
	greedyIs(t, "aaa bb cc ddddd", 9, "aaa bb cc", "ddddd")
	greedyIs(t, "aaa bb cc ddddd", 14, "aaa bb cc", "ddddd")
	greedyIs(t, "aaa bb cc ddddd", 15, "aaa bb cc ddddd")
	greedyIs(t, "aaa bb cc ddddd", 100, "aaa bb cc ddddd")
	greedyIs(t, "aaa bb cc ddddd", 4, "aaa", "bb", "cc", "ddddd")
	greedyIs(t, "a b c d e f", 3, "a b", "c d", "e f")
	greedyIs(t, "a b c d e f", 4, "a b", "c d", "e f")
	greedyIs(t, "a b c d e f", 5, "a b c", "d e f")
	greedyIs(t, "a a a a", 3, "a a", "a a")
	greedyIs(t, "a", 1, "a")
}

func TestGreedyOfLongWords(t *testing.T) {
	greedyIs(t, "aaaa", 5, "aaaa")
	greedyIs(t, "aaaa", 4, "aaaa")
	greedyIs(t, "aaaa", 3, "aaaa")
	// First, in the midst and last; one that is as long as the line, and one longer.
	greedyIs(t, "aaaa b c", 4, "aaaa", "b c")
	greedyIs(t, "aaaaa b c", 4, "aaaaa", "b c")
	greedyIs(t, "b aaaa c", 4, "b", "aaaa", "c")
	greedyIs(t, "b aaaaa c", 4, "b", "aaaaa", "c")
	greedyIs(t, "b c aaaa", 4, "b c", "aaaa")
	greedyIs(t, "b c aaaaa", 4, "b c", "aaaaa")
	greedyIs(t, "b aaa c", 4, "b", "aaa", "c")
	greedyIs(t, "bb aa c", 4, "bb", "aa c")
	greedyIs(t, "aaaaa bbbbb ccccc", 4, "aaaaa", "bbbbb", "ccccc")
	greedyIs(t, "aaaaa b bbbbb c d ccccc", 4, "aaaaa", "b", "bbbbb", "c d", "ccccc")
}

func TestGreedyOfOddWidths(t *testing.T) {
	for _, width := range wrapWidths() {
		if width <= 0 {
			greedyIs(t, "a b cc", width, "a", "b", "cc")
		} else {
			greedyIs(t, "a b cc", width, "a b cc")
		}
		linesAre(t, "Greedy of nothing", impl.Greedy(nil, width))
	}
	greedyIs(t, "a b cc", 1, "a", "b", "cc")
	greedyIs(t, "a b cc", 2, "a", "b", "cc")
	greedyIs(t, "a b cc", 3, "a b", "cc")
}

func TestWordsThatMayNotBeWrapped(t *testing.T) {
	good := []string{"a", "bb", "ccc"}
	for _, wrong := range []string{"", " ", "  ", " a", "a ", "a b", "a  b", " a b ", "\t \n", "\xff ", " \xff"} {
		for _, width := range append(wrapWidths(), 1, 5, 80) {
			nothingIsWrapped(t, []string{wrong}, width)
			for i := range len(good) + 1 {
				nothingIsWrapped(t, slices.Insert(slices.Clone(good), i, wrong), width)
			}
		}
	}
	full := wordsLong(slices.Repeat([]int{3}, impl.MaxWordsIn)...)
	for _, i := range []int{0, 1, 30, 58, 59} {
		for _, wrong := range []string{"", " ", "x y"} {
			words := slices.Clone(full)
			words[i] = wrong
			nothingIsWrapped(t, words, 20)
		}
	}
	for _, width := range append(wrapWidths(), 1, 5, 80) {
		nothingIsWrapped(t, nil, width)
		nothingIsWrapped(t, []string{}, width)
	}
}

// Other bytes that look like a blank are bytes of a word.
func TestWordsOfEveryByteAreWrapped(t *testing.T) {
	for i := range 256 {
		word := string([]byte{byte(i)})
		if i == 32 {
			nothingIsWrapped(t, []string{"a", word, "b"}, 3)
			continue
		}
		linesAre(t, "Greedy", impl.Greedy([]string{"a", word, word + "b"}, 3), "a "+word, word+"b")
		isWrapped(t, []string{"a", word, word + "b", "\n" + word}, 5)
	}
	isWrapped(t, []string{"\u00a0", "\xc2", "\t\t", "\n"}, 4)
}

func TestMostWords(t *testing.T) {
	for _, length := range []int{1, 2, 9, 300} {
		words := wordsLong(slices.Repeat([]int{length}, impl.MaxWordsIn+2)...)
		for _, width := range manyWidths() {
			nothingIsWrapped(t, words, width)
			nothingIsWrapped(t, words[:impl.MaxWordsIn+1], width)
			for _, count := range []int{impl.MaxWordsIn, impl.MaxWordsIn - 1} {
				isFilled(t, words[:count], width)
				hasLeastRag(t, words[:count], width)
				if len(impl.Greedy(words[:count], width)) == 0 || len(impl.BestWrap(words[:count], width)) == 0 {
					t.Fatalf("%d words in the width %d are not wrapped", count, width)
				}
			}
		}
	}
}

func TestRagByHand(t *testing.T) {
	ragIs(t, 16, 6, "aaa bb", "cc", "ddddd")
	ragIs(t, 10, 6, "aaa", "bb cc", "ddddd")
	ragIs(t, 1, 6, "aaa bb", "cc cc", "")
	ragIs(t, 1+4+9, 5, "aaaa", "bbb", "cc", "d")
	ragIs(t, 25+25, 5, "", "", "")
	ragIs(t, 0, 3, "aaa", "bbb", "ccc")
	ragIs(t, 1, 3, "a\xff", "\xc3\xa9x")
}

func TestRagOfTheLastLine(t *testing.T) {
	ragIs(t, 0, 5)
	for _, width := range []int{3, 4, 5, 80, 300, math.MaxInt} {
		ragIs(t, 0, width, "aaa")
		ragIs(t, 0, width, "")
	}
	ragIs(t, longRag, 2, "aaa")
	ragIs(t, longRag, 0, "a")
	ragIs(t, 0, 0, "")
	// Shorter, as long, longer.
	ragIs(t, 4, 5, "aaa", "bbbb")
	ragIs(t, 4, 5, "aaa", "bbbbb")
	ragIs(t, 4+longRag, 5, "aaa", "bbbbbb")
	// The last one alone is not ragged, though the same line is ahead.
	ragIs(t, 4, 5, "aaa", "aaa")
	ragIs(t, 8, 5, "aaa", "aaa", "aaa")
}

func TestRagOfLongLines(t *testing.T) {
	ragIs(t, longRag, 4, "aaaaa", "b")
	ragIs(t, longRag, 4, strings.Repeat("a", 100000), "b")
	ragIs(t, longRag+9, 4, "a", "bbbbb", "c")
	ragIs(t, 3*longRag, 4, "aaaaa", "bbbbb", "ccccc")
	ragIs(t, 0, 5, "aaaaa", "bbbbb", "ccccc")
	ragIs(t, 2, 6, "aaaaa", "bbbbb", "ccccc")
}

func TestRagOfLinesMuchShorter(t *testing.T) {
	line := strings.Repeat("a", 50)
	for _, c := range []struct{ width, rag int }{
		{50, 0}, {51, 1}, {249, 199 * 199}, {250, 200 * 200}, {251, 200 * 200}, {252, 200 * 200}, {1000, 200 * 200}, {1 << 32, 200 * 200}, {math.MaxInt, 200 * 200},
	} {
		ragIs(t, c.rag, c.width, line, "b")
		ragIs(t, c.rag*2, c.width, line, line, "b")
		ragIs(t, 0, c.width, line)
	}
	ragIs(t, 199*199, 199, "", "")
	ragIs(t, 40000, 200, "", "")
	ragIs(t, 40000, 201, "", "")
	ragIs(t, 40000+40000+199*199, 201, "", "a", "aa", "b")
}

func TestRagOfTheFirstLines(t *testing.T) {
	lines := func(count int, text string) []string { return slices.Repeat([]string{text}, count) }
	ragIs(t, 198*4, 5, lines(199, "aaa")...)
	ragIs(t, 199*4, 5, lines(200, "aaa")...)
	// The 200th of more lines is not the last one; the one behind it does not count.
	ragIs(t, 200*4, 5, lines(201, "aaa")...)
	ragIs(t, 200*4, 5, lines(202, "aaa")...)
	ragIs(t, 200*4, 5, lines(5000, "aaa")...)
	ragIs(t, 199*longRag, 2, lines(199, "aaa")...)
	ragIs(t, 200*longRag, 2, lines(200, "aaa")...)
	ragIs(t, 200*longRag, 2, lines(201, "aaa")...)
	ragIs(t, 200*longRag, 2, lines(5000, "aaa")...)
	ragIs(t, 199*4+longRag, 5, append(lines(199, "aaa"), "bbbbbb")...)
	ragIs(t, 200*4, 5, append(lines(200, "aaa"), "bbbbbb")...)
	ragIs(t, 200*4, 5, append(lines(200, "aaa"), "", "bbbbbb")...)
	ragIs(t, 199*4+9, 5, append(lines(199, "aaa"), "bb", "c")...)
}

func TestRagOfOddWidths(t *testing.T) {
	for _, width := range wrapWidths() {
		switch {
		case width < 0:
			ragIs(t, longRag*2, width, "", "")
			ragIs(t, longRag*3, width, "a", "bbb", "")
		case width == 0:
			ragIs(t, 0, width, "", "")
			ragIs(t, longRag*2, width, "a", "", "c")
		default:
			ragIs(t, 40000, width, "", "")
			ragIs(t, 80000, width, "a", "bbb", "")
		}
		ragIs(t, 0, width)
	}
}

func TestBestWrapByHand(t *testing.T) {
	wrapIs(t, "aaa bb cc ddddd", 6, 10, "aaa", "bb cc", "ddddd")
	wrapIs(t, "aaa bb cc ddddd", 15, 0, "aaa bb cc ddddd")
	wrapIs(t, "aaa bb cc ddddd", 5, 4, "aaa", "bb cc", "ddddd")
	wrapIs(t, "aaa bb cc ddddd", 8, 4, "aaa bb", "cc ddddd")
	wrapIs(t, "aaa bb cc ddddd", 9, 0, "aaa bb cc", "ddddd")
	wrapIs(t, "a b c d", 1, 0, "a", "b", "c", "d")
	wrapIs(t, "a", 1, 0, "a")
	wrapIs(t, "a", 80, 0, "a")
	wrapIs(t, "a b c d eee ff gggg", 8, 1+4, "a b c d", "eee ff", "gggg")
}

// Of ways that are equally ragged the one is taken with the fewest words in each line, from the first one on.
func TestBestWrapOfEquallyRaggedWays(t *testing.T) {
	// 4 and 0 in this way, 0 and 4 in another one.
	wrapIs(t, "aa b cc dddd eeee", 4, 4, "aa", "b cc", "dddd", "eeee")
	wrapIs(t, "a b c dd", 3, 4, "a", "b c", "dd")
	wrapIs(t, "a b c d e fff", 3, 4, "a", "b c", "d e", "fff")
	wrapIs(t, "xxx a b c d e fff", 3, 4, "xxx", "a", "b c", "d e", "fff")
	wrapIs(t, "a b xxx c d e fff", 3, 4, "a b", "xxx", "c", "d e", "fff")
	wrapIs(t, "aa b cc xxxx aa b cc xxxx", 4, 8, "aa", "b cc", "xxxx", "aa", "b cc", "xxxx")
	// Without a choice it is not the fewest words of all lines.
	wrapIs(t, "a b c d e f ggg", 3, 0, "a b", "c d", "e f", "ggg")
	wrapIs(t, "a b c d", 5, 0, "a b c", "d")
}

// A word that is too long makes its line cost the same, however long the line is: others go with it.
func TestBestWrapOfLongWords(t *testing.T) {
	wrapIs(t, "aaaaa", 4, longRag, "aaaaa")
	wrapIs(t, "aaaa", 4, 0, "aaaa")
	wrapIs(t, "aaaaa b", 4, longRag, "aaaaa", "b")
	wrapIs(t, "aaaaa b c", 4, longRag, "aaaaa", "b c")
	wrapIs(t, "a bbbbb", 4, longRag, "a bbbbb")
	wrapIs(t, "aaaa bbbbb", 4, longRag, "aaaa", "bbbbb")
	wrapIs(t, "aaaa bbbbb cccc", 4, longRag, "aaaa", "bbbbb", "cccc")
	wrapIs(t, "aaa bbbbb cc", 4, longRag, "aaa bbbbb", "cc")
	wrapIs(t, "aaaaa bbbbb", 4, longRag, "aaaaa bbbbb")
	wrapIs(t, "aaaaa b ccccc", 4, longRag, "aaaaa b ccccc")
	wrapIs(t, "aaaa bbbbb cccc ddddd eeee", 4, longRag, "aaaa", "bbbbb cccc ddddd", "eeee")
	wrapIs(t, "aaaa b cccc ddddd", 4, longRag, "aaaa", "b cccc ddddd")
}

func TestBestWrapOfOddWidths(t *testing.T) {
	for _, width := range wrapWidths() {
		if width <= 0 {
			// One line that is too long costs less than three.
			wrapIs(t, "a b cc", width, longRag, "a b cc")
			wrapIs(t, "a", width, longRag, "a")
			continue
		}
		wrapIs(t, "a b cc", width, 0, "a b cc")
		wrapIs(t, "a", width, 0, "a")
	}
}

// No line counts as more than 200 too short: as far as that goes, the fewest words are taken.
func TestBestWrapOfWideLines(t *testing.T) {
	long := strings.Repeat("x", 296)
	wrapIs(t, "a b c "+long, 300, 40000, "a", "b c "+long)
	wrapIs(t, "a b c "+long, 299, 40000, "a b", "c "+long)
	wrapIs(t, "a b c "+long[96:], 204, 199*199, "a b c", long[96:])
	wrapIs(t, "a b c "+long[95:], 205, 40000, "a", "b c "+long[95:])
}

func TestFewWordsInAllWays(t *testing.T) {
	for count := range 6 {
		eachList(count, 1, 4, func(lengths []int) {
			for width := range 12 {
				isWrapped(t, wordsLong(lengths...), width)
			}
		})
	}
	for _, width := range manyWidths() {
		isWrapped(t, wordsLong(3, 1, 4, 1, 5, 9, 2, 6), width)
		isWrapped(t, wordsLong(1, 199, 1, 200, 201, 1), width)
		isWrapped(t, wordsLong(1, 1, 1, 1, 1, 1, 1, 1), width)
	}
}

func TestAnyWordsInAllWays(t *testing.T) {
	for seed := range int64(3000) {
		chance := rand.New(rand.NewSource(seed))
		longest := 1 + chance.Intn(12)
		words := anyWords(chance, chance.Intn(11), longest)
		isWrapped(t, words, chance.Intn(2*longest+4)-1)
	}
	for seed := range int64(300) {
		chance := rand.New(rand.NewSource(seed))
		isWrapped(t, anyWords(chance, chance.Intn(9), 240), chance.Intn(500))
	}
}

func TestManyWordsAreLeastRagged(t *testing.T) {
	long, alike := 0, 0
	for seed := range int64(400) {
		chance := rand.New(rand.NewSource(seed))
		longest := 1 + chance.Intn(14)
		words := anyWords(chance, impl.MaxWordsIn-chance.Intn(45), longest)
		width := 1 + chance.Intn(4*longest)
		isFilled(t, words, width)
		hasLeastRag(t, words, width)
		eachHasTheFewest(t, words, width)
		least := impl.LeastRag(words, width)
		if want := ragForward(words, width); least != want {
			t.Fatalf("LeastRag(%.300q, %d) is %d; want %d", words, width, least, want)
		}
		if least >= longRag {
			long++
		}
		if slices.Equal(impl.Greedy(words, width), impl.BestWrap(words, width)) {
			alike++
		}
	}
	if long < 40 || long > 360 || alike > 200 {
		t.Errorf("%d have a long line, %d are as by Greedy", long, alike)
	}
}

func TestNoteByHand(t *testing.T) {
	noteIs(t, "// a b", 0, 4, "// a", "// b")
	noteIs(t, "// a b", 0, 5, "// a", "// b")
	noteIs(t, "// a b", 0, 6, "// a b")
	noteIs(t, "// a b", 2, 6, "  // a", "  // b")
	noteIs(t, "// a b", 2, 7, "  // a", "  // b")
	noteIs(t, "// a b", 2, 8, "  // a b")
	noteIs(t, "// one", 0, 80, "// one")
	noteIs(t, "// one", 4, 80, "    // one")
	noteIs(t, "// a note of several words, in lines", 4, 20, "    // a note of", "    // several", "    // words, in", "    // lines")
	noteIs(t, "//   a    b   c", 1, 80, " // a b c")
}

func TestNoteWithoutWords(t *testing.T) {
	for _, width := range manyWidths() {
		noteIs(t, "//", 0, width, "//")
		noteIs(t, "//", 3, width, "   //")
		noteIs(t, "//", 60, width, blanks(60)+"//")
	}
}

func TestNoteWithWordsRightBehind(t *testing.T) {
	noteIs(t, "//a b", 0, 80, "// a b")
	noteIs(t, "//a b", 0, 5, "// a", "// b")
	noteIs(t, "///", 0, 80, "// /")
	noteIs(t, "////", 2, 80, "  // //")
	noteIs(t, "/// a", 0, 80, "// / a")
	noteIs(t, "// // a", 0, 5, "// //", "// a")
	noteIs(t, "//'a b'", 0, 7, "// 'a", "// b'")
}

func TestNoteInNarrowLines(t *testing.T) {
	for _, width := range wrapWidths() {
		want := []string{"// a", "// bb", "// c"}
		if width > 0 {
			want = []string{"// a bb c"}
		}
		noteIs(t, "// a bb c", 0, width, want...)
	}
	for _, width := range []int{math.MinInt, -1, 0, 1, 4, 64, 65} {
		noteIs(t, "// a bb c", 60, width, blanks(60)+"// a", blanks(60)+"// bb", blanks(60)+"// c")
	}
	noteIs(t, "// a bb c", 60, 67, blanks(60)+"// a bb", blanks(60)+"// c")
	noteIs(t, "// long words", 0, 7, "// long", "// words")
	noteIs(t, "// long words", 0, 6, "// long", "// words")
	noteIs(t, "// a long b", 0, 6, "// a", "// long", "// b")
}

func TestHowFarInANoteMayBe(t *testing.T) {
	for in := range mostNoteIn + 1 {
		noteIs(t, "// a b", in, in+6, blanks(in)+"// a b")
		noteIs(t, "// a b", in, in+5, blanks(in)+"// a", blanks(in)+"// b")
	}
	for _, in := range []int{math.MinInt, math.MinInt + 1, -1000, -3, -2, -1, 61, 62, 100, math.MaxInt - 3, math.MaxInt} {
		for _, width := range manyWidths() {
			noteIs(t, "// a b", in, width)
			noteIs(t, "//", in, width)
		}
	}
}

func TestTextsThatAreNoNotes(t *testing.T) {
	isNoNote(t, "", " ", "/", "a", "/ /", "a b", "/* a", "a // b", " // a", "\n// a", "'// a'", "#", "\\\\ a")
	// A note has no blank at its end, and no end of a line.
	isNoNote(t, "// ", "//   ", "//"+blanks(20), "// a ", "// a  ", "//a ", "// a\n", "//\n", "// a\n// b", "// a\nb")
	isNoNote(t, "// \t", "//\t", "// a\tb", "// a\rb", "// \x00", "// \x7f", "// \x1f", "// \xff", "// \xc3\xa9", "// a \u00a0")
	isNoNote(t, allBytes(), "// "+allBytes())
	for i := range 256 {
		text := "// a" + string([]byte{byte(i)}) + "b"
		switch {
		case i < 32 || i > 126:
			isNoNote(t, text)
		case i == 32:
			noteIs(t, text, 0, 5, "// a", "// b")
		default:
			noteIs(t, text, 0, 5, "// "+text[3:])
		}
	}
}

func TestNoteOfMostWords(t *testing.T) {
	words := wordsLong(slices.Repeat([]int{2}, impl.MaxWordsIn+1)...)
	for _, width := range manyWidths() {
		noteIsByWord(t, "// "+strings.Join(words, " "), 0, width)
		linesAre(t, "a note of 61 words", impl.WrapNote("// "+strings.Join(words, " "), 4, width))
		linesAre(t, "a note of 61 words", impl.WrapNote("//"+strings.Join(words, "  "), 4, width))
		noteIsByWord(t, "// "+strings.Join(words[1:], " "), 0, width)
		if lines := impl.WrapNote("//"+strings.Join(words[1:], "  "), 4, width); len(lines) == 0 {
			t.Fatalf("a note of 60 words is not wrapped in the width %d", width)
		}
	}
}

// A note is a sign of a source, and so has no more bytes than a source.
func TestNoteOfMostBytes(t *testing.T) {
	long := strings.Repeat("n", impl.MaxSource-3)
	noteIs(t, "// "+long, 1, 80, " // "+long)
	noteIs(t, "//  "+long, 1, 80)
	noteIs(t, "// "+long+"n", 1, 80)
	noteIs(t, "//"+blanks(impl.MaxSource-3)+"n", 0, 4, "// n")
	noteIs(t, "//"+blanks(impl.MaxSource-2)+"n", 0, 4)
}

func TestNotesByChance(t *testing.T) {
	wrapped := 0
	for seed := range int64(4000) {
		chance := rand.New(rand.NewSource(seed))
		longest := 1 + chance.Intn(12)
		text := "//" + blanks(chance.Intn(3)) + strings.Join(anyWords(chance, chance.Intn(64), longest), blanks(1+chance.Intn(2)))
		if seed%4 == 0 {
			text = turnedByte(chance, text)
		}
		in, width := chance.Intn(64)-1, chance.Intn(100)-2
		noteIsByWord(t, text, in, width)
		if len(impl.WrapNote(text, in, width)) > 1 {
			wrapped++
		}
	}
	if wrapped < 2000 {
		t.Errorf("%d notes are in several lines", wrapped)
	}
}

// What is wrapped once is one note a line, each of which stays as it is.
func TestLinesOfANoteStay(t *testing.T) {
	for seed := range int64(500) {
		chance := rand.New(rand.NewSource(seed))
		text := "// " + strings.Join(anyWords(chance, 1+chance.Intn(60), 9), " ")
		in, width := chance.Intn(20), chance.Intn(60)
		for _, line := range impl.WrapNote(text, in, width) {
			noteIs(t, line[in:], in, width, line)
		}
	}
}

func TestWrapsOfAnyBytes(t *testing.T) {
	for seed := range int64(3000) {
		chance := rand.New(rand.NewSource(seed))
		list := make([]byte, chance.Intn(40))
		for i := range list {
			list[i] = byte(chance.Intn([]int{48, 128, 256}[seed%3]))
		}
		text := string(list)
		words := impl.WordsOf(text)
		linesAre(t, "WordsOf", words, wordsByBytes(text)...)
		width := chance.Intn(30) - 2
		isFilled(t, words, width)
		hasLeastRag(t, words, width)
		noteIsByWord(t, text, chance.Intn(64)-1, width)
		noteIsByWord(t, "//"+text, chance.Intn(64)-1, width)
		cut := strings.Split(text, "a")
		if !mayBeWrapped(cut) {
			nothingIsWrapped(t, cut, width)
		}
		ragIs(t, ragByWord(cut, width), width, cut...)
	}
}

func TestWrapsAreNewMemory(t *testing.T) {
	text := "//one two three four"
	words := impl.WordsOf(text)
	for _, word := range words {
		if sharesMemory(word, text) {
			t.Errorf("%q of WordsOf is not new memory", word)
		}
	}
	for _, width := range []int{0, 3, 8, 80} {
		for _, lines := range [][]string{impl.Greedy(words, width), impl.BestWrap(words, width), impl.WrapNote(text, 0, width), impl.WrapNote("//", 0, width)} {
			for _, line := range lines {
				for _, word := range append(words, text) {
					if sharesMemory(line, word) {
						t.Errorf("the line %q in the width %d is not new memory", line, width)
					}
				}
			}
		}
	}
}

func TestWrapsLeaveTheWords(t *testing.T) {
	words := withRoom([]string{"aaa", "bb", "cc", "ddddd"})
	whole := slices.Clone(words[:cap(words)])
	for _, width := range manyWidths() {
		for _, lines := range [][]string{impl.Greedy(words, width), impl.BestWrap(words, width)} {
			for i := range lines[:cap(lines)] {
				lines[:cap(lines)][i] = "turned"
			}
		}
		impl.LeastRag(words, width)
		impl.RagOf(words, width)
		if !slices.Equal(words[:cap(words)], whole) {
			t.Fatalf("the words are %q in the width %d", words[:cap(words)], width)
		}
	}
	isWrapped(t, words, 6)
}

func TestWrapsKeepNothing(t *testing.T) {
	chance := rand.New(rand.NewSource(17))
	asks := []func() []string{}
	for _, count := range []int{0, 1, 3, 20, 60, 61} {
		words := anyWords(chance, count, 9)
		note := "// " + strings.Join(words, " ")
		for _, width := range []int{0, 5, 20, 80} {
			asks = append(asks,
				func() []string { return impl.Greedy(words, width) },
				func() []string { return impl.BestWrap(words, width) },
				func() []string { return impl.WrapNote(note, 4, width) },
				func() []string {
					return []string{figuresOf([]int{impl.LeastRag(words, width), impl.RagOf(words, width)})}
				})
		}
	}
	keepNothing(t, asks)
}
