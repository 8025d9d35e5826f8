package tests

import (
	"math"
	"slices"
	"strings"
	"testing"

	"loop.example/g00459/impl"
)

// linesByBytes cuts a text byte by byte, as the chapter says it.
func linesByBytes(text string) []string {
	list, line := []string{}, []byte{}
	for i := 0; i < len(text); i++ {
		if text[i] == 10 {
			list, line = append(list, string(line)), nil
		} else {
			line = append(line, text[i])
		}
	}
	if len(line) > 0 {
		list = append(list, string(line))
	}
	return list
}

// eachSmallText hands out every text of up to six of these bytes.
func eachSmallText(hand func(text string)) {
	texts := []string{""}
	for range 6 {
		longer := []string{}
		for _, text := range texts {
			hand(text)
			for _, b := range []string{"a", " ", "\n", "\xff"} {
				longer = append(longer, text+b)
			}
		}
		texts = longer
	}
	for _, text := range texts {
		hand(text)
	}
}

// longText has more bytes than a source may have, with lines of many lengths.
func longText() string {
	var out strings.Builder
	for i := range 120 {
		out.WriteString(strings.Repeat("x", i))
		out.WriteByte(10)
	}
	return out.String()
}

func TestLimitOfLines(t *testing.T) {
	if impl.MaxSource != 3000 {
		t.Error("MaxSource is not the document's")
	}
}

func TestLinesOf(t *testing.T) {
	for _, c := range []struct {
		text string
		want []string
	}{
		{"", nil}, {"a", []string{"a"}}, {"a\n", []string{"a"}}, {"\n", []string{""}}, {"\n\n", []string{"", ""}}, {"\n\n\n", []string{"", "", ""}},
		{"a\nbc", []string{"a", "bc"}}, {"a\nbc\n", []string{"a", "bc"}}, {"a\nbc\n\n", []string{"a", "bc", ""}},
		{"\na", []string{"", "a"}}, {"\n\na\n", []string{"", "", "a"}}, {"a\n\nbc", []string{"a", "", "bc"}}, {"a\n\n\nb\n", []string{"a", "", "", "b"}},
		{"class A {\n  m() {\n  }\n}\n", []string{"class A {", "  m() {", "  }", "}"}},
		{" ", []string{" "}}, {"\n ", []string{"", " "}}, {" \n ", []string{" ", " "}}, {" a \n\tb\t", []string{" a ", "\tb\t"}},
		// Of all bytes the byte 10 alone ends a line.
		{"a\r\nb\r", []string{"a\r", "b\r"}}, {"a\x00b\x0bc\x0c\n\x00", []string{"a\x00b\x0bc\x0c", "\x00"}},
		{"\xff\x8a\n\xc3\xa9\n\xe2\x80\xa8", []string{"\xff\x8a", "\xc3\xa9", "\xe2\x80\xa8"}}, {"\xc2\x85\n\xc2", []string{"\xc2\x85", "\xc2"}},
		{"\\n\n", []string{"\\n"}},
	} {
		if got := impl.LinesOf(c.text); !slices.Equal(got, c.want) {
			t.Errorf("LinesOf(%q) = %q; want %q", c.text, got, c.want)
		}
	}
	if got := impl.LinesOf(allBytes()); len(got) != 2 || got[0] != allBytes()[:10] || got[1] != allBytes()[11:] {
		t.Errorf("LinesOf of all bytes = %q", got)
	}
}

func TestJoinLines(t *testing.T) {
	for _, c := range []struct {
		list []string
		want string
	}{
		{nil, ""}, {[]string{}, ""}, {[]string{""}, "\n"}, {[]string{"", ""}, "\n\n"}, {[]string{"a"}, "a\n"}, {[]string{"a", "bc"}, "a\nbc\n"},
		{[]string{"", "a", "", "b", ""}, "\na\n\nb\n\n"}, {[]string{" a ", "\t", "\r"}, " a \n\t\n\r\n"}, {[]string{"\xff", "\xc3"}, "\xff\n\xc3\n"},
		// A byte 10 within a line stays, and the line has its own behind it.
		{[]string{"\n"}, "\n\n"}, {[]string{"a\n"}, "a\n\n"}, {[]string{"a\nb", "\nc", "d\n\n"}, "a\nb\n\nc\nd\n\n\n"},
	} {
		if got := impl.JoinLines(c.list); got != c.want {
			t.Errorf("JoinLines(%q) = %q; want %q", c.list, got, c.want)
		}
	}
}

// Promise 3.
func TestLinesAreJoinedAsTheyWereCut(t *testing.T) {
	check := func(text string) {
		list := impl.LinesOf(text)
		if want := linesByBytes(text); !slices.Equal(list, want) {
			t.Fatalf("LinesOf(%q) = %q; want %q", text, list, want)
		}
		want := text
		if text != "" && text[len(text)-1] != 10 {
			want += "\n"
		}
		joined := impl.JoinLines(list)
		if joined != want {
			t.Fatalf("JoinLines of LinesOf(%q) = %q; want %q", text, joined, want)
		}
		if again := impl.LinesOf(joined); !slices.Equal(again, list) {
			t.Fatalf("LinesOf of what was joined from %q = %q; want %q", text, again, list)
		}
	}
	eachSmallText(check)
	for _, text := range someTexts() {
		check(text)
		check(text + "\n")
		check("\n" + text)
	}
	check(longText())
	check(longText() + "end")
}

func TestLinesWithoutLineEndsComeBack(t *testing.T) {
	for _, list := range [][]string{
		nil, {""}, {"", ""}, {"a"}, {"a", ""}, {"", "a"}, {"a", "", "", "b"}, {" ", "\t", "\r"}, {"\xff", "\x00"}, strings.Split(longText(), "\n"),
	} {
		if got := impl.LinesOf(impl.JoinLines(list)); !slices.Equal(got, list) {
			t.Errorf("LinesOf of JoinLines(%q) = %q", list, got)
		}
	}
}

func TestPlaceOf(t *testing.T) {
	for _, c := range []struct {
		text             string
		at, line, column int
	}{
		{"", 0, 1, 1}, {"a", 0, 1, 1}, {"a", 1, 1, 2}, {"\n", 0, 1, 1}, {"\n", 1, 2, 1}, {"\n\n", 1, 2, 1}, {"\n\n", 2, 3, 1},
		{"ab\n\ncd", 0, 1, 1}, {"ab\n\ncd", 1, 1, 2}, {"ab\n\ncd", 2, 1, 3}, {"ab\n\ncd", 3, 2, 1}, {"ab\n\ncd", 4, 3, 1}, {"ab\n\ncd", 5, 3, 2}, {"ab\n\ncd", 6, 3, 3},
		{"ab\n", 2, 1, 3}, {"ab\n", 3, 2, 1},
		// A column counts bytes, of whatever kind.
		{"\xc3\xa9\xffb", 2, 1, 3}, {"\xc3\xa9\xffb", 3, 1, 4}, {"\xe2\x80\xa8\nz", 3, 1, 4}, {"\xe2\x80\xa8\nz", 4, 2, 1}, {"\r\tb", 2, 1, 3}, {"a\r\nb", 3, 2, 1},
		// Places that are none.
		{"", -1, 0, 0}, {"", 1, 0, 0}, {"abc", -1, 0, 0}, {"abc", 4, 0, 0}, {"a\n", 3, 0, 0}, {"a\nb", -2, 0, 0}, {"a\nb", 400, 0, 0},
		{"", math.MinInt, 0, 0}, {"", math.MaxInt, 0, 0}, {"a\nb", math.MinInt, 0, 0}, {"a\nb", math.MaxInt, 0, 0},
	} {
		if line, column := impl.PlaceOf(c.text, c.at); line != c.line || column != c.column {
			t.Errorf("PlaceOf(%q, %d) = %d, %d; want %d, %d", c.text, c.at, line, column, c.line, c.column)
		}
	}
}

func TestPlaceOfEachByte(t *testing.T) {
	check := func(text string) {
		line, column := 1, 1
		for at := 0; at <= len(text); at++ {
			if l, c := impl.PlaceOf(text, at); l != line || c != column {
				t.Fatalf("PlaceOf(%q, %d) = %d, %d; want %d, %d", text, at, l, c, line, column)
			}
			if at < len(text) && text[at] == 10 {
				line, column = line+1, 1
			} else {
				column++
			}
		}
		for _, at := range []int{-1, len(text) + 1} {
			if l, c := impl.PlaceOf(text, at); l != 0 || c != 0 {
				t.Fatalf("PlaceOf(%q, %d) = %d, %d; want 0, 0", text, at, l, c)
			}
		}
	}
	eachSmallText(check)
	for _, text := range someTexts() {
		check(text)
	}
	check(longText())
}

// The byte that PlaceOf tells a line and a column of stands there in LinesOf.
func TestPlaceOfIsAPlaceInLinesOf(t *testing.T) {
	eachSmallText(func(text string) {
		list := impl.LinesOf(text)
		for at := 0; at < len(text); at++ {
			line, column := impl.PlaceOf(text, at)
			if line < 1 || line > len(list) || column < 1 || column > len(list[line-1])+1 {
				t.Fatalf("PlaceOf(%q, %d) = %d, %d, which is no place of %q", text, at, line, column, list)
			}
			if got := (list[line-1] + "\n")[column-1]; got != text[at] {
				t.Fatalf("PlaceOf(%q, %d) = %d, %d, where %q stands", text, at, line, column, got)
			}
		}
	})
}

func TestTrimmed(t *testing.T) {
	for _, c := range []struct{ text, want string }{
		{"", ""}, {" ", ""}, {"     ", ""}, {"a", "a"}, {"a ", "a"}, {"a   ", "a"}, {" a ", " a"}, {"  a  b  ", "  a  b"}, {" a", " a"}, {"a b", "a b"},
		{"a\t", "a\t"}, {"a\r", "a\r"}, {"a\n", "a\n"}, {"a\x0b", "a\x0b"}, {"a\x0c", "a\x0c"}, {"a\x00", "a\x00"}, {"\t", "\t"}, {"\r ", "\r"},
		{"a \t", "a \t"}, {"a \n", "a \n"}, {"a \t ", "a \t"}, {"a\n  ", "a\n"}, {"a  \nb ", "a  \nb"}, {"  \n  ", "  \n"},
		{"\xff ", "\xff"}, {"\xff", "\xff"}, {"\xc2\xa0", "\xc2\xa0"}, {"a\xa0", "a\xa0"}, {"a\x85 ", "a\x85"}, {"\xe3\x80\x80", "\xe3\x80\x80"}, {" \xe3", " \xe3"},
	} {
		if got := impl.Trimmed(c.text); got != c.want {
			t.Errorf("Trimmed(%q) = %q; want %q", c.text, got, c.want)
		}
	}
	for i := range 256 {
		text := "a" + string([]byte{byte(i)})
		want := text
		if i == 32 {
			want = "a"
		}
		if got := impl.Trimmed(text + "  "); got != want {
			t.Errorf("Trimmed(%q) = %q; want %q", text+"  ", got, want)
		}
	}
}

func TestWidestOf(t *testing.T) {
	for _, c := range []struct {
		text string
		want int
	}{
		{"", 0}, {"\n", 0}, {"\n\n\n", 0}, {"a", 1}, {"a\n", 1}, {"abc\nd\n", 3}, {"a\nbcd\ne\n", 3}, {"a\nbc\ndefg", 4}, {"a\nbc\ndefg\n", 4}, {"\n\nab", 2}, {"ab\n\n", 2},
		{"ab\ncd", 2}, {"a  \nb", 3}, {"    ", 4}, {"\r\n", 1}, {"\tab\n", 3}, {"\xc3\xa9\xff\na", 3}, {"a\n\xe2\x80\xa8\xe2\x80\xa8", 6},
		{allBytes(), 245}, {longText(), 119}, {longText() + strings.Repeat("y", 4000), 4000},
	} {
		if got := impl.WidestOf(c.text); got != c.want {
			t.Errorf("WidestOf(%q) = %d; want %d", c.text, got, c.want)
		}
	}
	eachSmallText(func(text string) {
		want := 0
		for _, line := range linesByBytes(text) {
			want = max(want, len(line))
		}
		if got := impl.WidestOf(text); got != want {
			t.Fatalf("WidestOf(%q) = %d; want %d", text, got, want)
		}
	})
}

func TestLinesAreNewMemory(t *testing.T) {
	for _, text := range []string{"a", "ab\n", "ab\n\ncd", "abc\nabc\n", longText()} {
		first, second := impl.LinesOf(text), impl.LinesOf(text)
		for i, line := range first {
			if sharesMemory(line, text) || sharesMemory(line, second[i]) {
				t.Errorf("line %d of LinesOf(%q) is not new memory", i, text)
			}
		}
		first[0] = "turned"
		if third := impl.LinesOf(text); !slices.Equal(second, third) {
			t.Errorf("LinesOf(%q) = %q, once an answer was written into", text, third)
		}
	}
	for _, text := range []string{"a", " a", "a ", "a  b  "} {
		if sharesMemory(impl.Trimmed(text), text) {
			t.Errorf("Trimmed(%q) is not new memory", text)
		}
	}
}

func TestJoinLinesLeavesTheList(t *testing.T) {
	room := []string{"a", "b\n", "", "spare", "room"}
	list := room[:3]
	joined := impl.JoinLines(list)
	if joined != "a\nb\n\n\n" || !slices.Equal(room, []string{"a", "b\n", "", "spare", "room"}) {
		t.Errorf("JoinLines = %q, and the list is %q", joined, room)
	}
	for _, line := range list {
		if sharesMemory(line, joined) {
			t.Errorf("what is joined shares memory with %q", line)
		}
	}
}
