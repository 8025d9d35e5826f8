package tests

import (
	"regexp"
	"slices"
	"strings"
	"testing"

	"loop.example/g00459/impl"
)

var (
	keyWords = []string{"class", "var", "if", "else", "while", "return"}
	marks    = []string{"&&", "||", "==", "=>", "..", "(", ")", "{", "}", "[", "]", ";", ",", ".", "=", "+", "-", "*", "<", "?", ":"}
)

// signForms has a form a kind, in the order of the kinds; the marks of two bytes stand ahead of those of one, as the first that fits is taken.
var signForms = regexp.MustCompile(`^(?:([A-Za-z_][A-Za-z0-9_]*)|([0-9]+)|('[ -&(-~]*')|(&&|\|\||==|=>|\.\.|[(){}\[\];,.=+*<?:-])|(//[^\n]*))`)

var (
	plainLine = regexp.MustCompile(`^[ -~]*$`)
	emptyLine = regexp.MustCompile(`\n *\n`)
)

// signsByForms reads a source by regular expressions, as the chapter says it.
func signsByForms(text string) ([]impl.Sign, int, bool) {
	if len(text) > impl.MaxSource {
		return nil, impl.MaxSource, false
	}
	list, end := []impl.Sign{}, 0
	for {
		at := len(text) - len(strings.TrimLeft(text[end:], " \n"))
		if at == len(text) {
			return list, 0, true
		}
		found := signForms.FindStringSubmatch(text[at:])
		if found == nil {
			return nil, at, false
		}
		kind := 1
		for found[kind] == "" {
			kind++
		}
		sign := strings.TrimRight(found[0], " ")
		if kind == impl.SgName && len(sign) > 30 || kind == impl.SgNum && len(sign) > 12 || !plainLine.MatchString(found[0]) {
			return nil, at, false
		}
		list = append(list, impl.Sign{Kind: kind, Text: sign, At: at, Blank: emptyLine.MatchString(text[end:at])})
		end = at + len(sign)
	}
}

// eachSignText hands out every text of up to five of these bytes: they make signs of each kind, gaps, and faults.
func eachSignText(hand func(text string)) {
	texts := []string{""}
	for size := range 6 {
		longer := []string{}
		for _, text := range texts {
			hand(text)
			if size == 5 {
				continue
			}
			for _, b := range []string{"a", "7", "'", "/", ".", "=", "&", " ", "\n", "\t", "\xe9"} {
				longer = append(longer, text+b)
			}
		}
		texts = longer
	}
}

func someSources() []string {
	return []string{
		"", " ", "\n", "a", "class A {\n  var b = 1;\n\n  m(x, y) {\n    return x + y * 2;\n  }\n}\n",
		"// first\n\n// second  \nvar a;\n\n\n\nvar b = 'it // is no note'; // 'nor a text'\n",
		"m(a) { if (a<1&&b==2||c) { p(); } else { q()..r(1)..s(); } while (x) { x = x-1; } }",
		"var f=(a,b)=>a?b:[1,2,3,];\n", "x....y...z.w", "a==>b", "a= ==b", "_ __ _1 1_ 12ab 0 007 000000000000", "''''' '", "'' '' // ''", "/", "// ", "//", "///", "a//b\nc//",
		strings.Repeat("// note\n", 40), strings.Repeat("a .. b\n\n", 40), strings.Repeat("'t' 1;", 90),
	}
}

func isRead(t *testing.T, source string) []impl.Sign {
	t.Helper()
	list, at, ok := impl.SignsOf(source)
	if at != 0 || !ok {
		t.Fatalf("SignsOf(%q) refuses at %d, %v", source, at, ok)
	}
	return list
}

func isRefused(t *testing.T, source string, want int) {
	t.Helper()
	list, at, ok := impl.SignsOf(source)
	if len(list) != 0 || at != want || ok {
		t.Errorf("SignsOf(%q) = %v, %d, %v; want nothing, %d, false", source, list, at, ok, want)
	}
}

func hasSigns(t *testing.T, source string, want ...impl.Sign) {
	t.Helper()
	if list := isRead(t, source); !slices.Equal(list, want) {
		t.Errorf("SignsOf(%q) = %v; want %v", source, list, want)
	}
}

// hasTexts is for sources of which only the cuts are asked.
func hasTexts(t *testing.T, source string, want ...string) {
	t.Helper()
	texts := []string{}
	for _, sign := range isRead(t, source) {
		texts = append(texts, sign.Text)
	}
	if !slices.Equal(texts, want) {
		t.Errorf("SignsOf(%q) has the texts %q; want %q", source, texts, want)
	}
}

func hasBlanks(t *testing.T, source string, want ...bool) {
	t.Helper()
	flags := []bool{}
	for _, sign := range isRead(t, source) {
		flags = append(flags, sign.Blank)
	}
	if !slices.Equal(flags, want) {
		t.Errorf("SignsOf(%q) has Blanks %v; want %v", source, flags, want)
	}
}

func TestKindsOfSigns(t *testing.T) {
	if impl.SgName != 1 || impl.SgNum != 2 || impl.SgText != 3 || impl.SgMark != 4 || impl.SgNote != 5 {
		t.Error("a kind is not the document's")
	}
}

func TestKeyWord(t *testing.T) {
	for _, word := range keyWords {
		if !impl.KeyWord(word) {
			t.Errorf("KeyWord(%q) is false", word)
		}
		for _, other := range []string{word + " ", " " + word, word + "s", word[1:], word[:len(word)-1], strings.ToUpper(word), strings.ToUpper(word[:1]) + word[1:], word + "\n", word + "\x00", "_" + word} {
			if impl.KeyWord(other) {
				t.Errorf("KeyWord(%q) is true", other)
			}
		}
	}
	for _, word := range append([]string{"", " ", "a", "for", "fn", "do", "func", "class var", "else if", "\xff", "'if'", "// if"}, marks...) {
		if impl.KeyWord(word) {
			t.Errorf("KeyWord(%q) is true", word)
		}
	}
}

func TestMarkOk(t *testing.T) {
	for _, mark := range marks {
		if !impl.MarkOk(mark) {
			t.Errorf("MarkOk(%q) is false", mark)
		}
	}
	// Of all texts of one or two bytes no others are marks.
	for a := range 256 {
		one := string([]byte{byte(a)})
		if impl.MarkOk(one) != slices.Contains(marks, one) {
			t.Errorf("MarkOk(%q) is %v", one, impl.MarkOk(one))
		}
		for b := range 256 {
			two := string([]byte{byte(a), byte(b)})
			if impl.MarkOk(two) != slices.Contains(marks, two) {
				t.Errorf("MarkOk(%q) is %v", two, impl.MarkOk(two))
			}
		}
	}
	for _, text := range append([]string{"", "...", "===", "==>", "&&&", "(((", "&&||", "a", "//", "=> ", " =>"}, keyWords...) {
		if impl.MarkOk(text) {
			t.Errorf("MarkOk(%q) is true", text)
		}
	}
}

func TestSignsOfASourceOfSeveralLines(t *testing.T) {
	hasSigns(t, "class A { // said  \n\n  var b_1='x y'..c;\n   \n m(7)=>12\n}",
		impl.Sign{Kind: impl.SgName, Text: "class", At: 0},
		impl.Sign{Kind: impl.SgName, Text: "A", At: 6},
		impl.Sign{Kind: impl.SgMark, Text: "{", At: 8},
		impl.Sign{Kind: impl.SgNote, Text: "// said", At: 10},
		impl.Sign{Kind: impl.SgName, Text: "var", At: 23, Blank: true},
		impl.Sign{Kind: impl.SgName, Text: "b_1", At: 27},
		impl.Sign{Kind: impl.SgMark, Text: "=", At: 30},
		impl.Sign{Kind: impl.SgText, Text: "'x y'", At: 31},
		impl.Sign{Kind: impl.SgMark, Text: "..", At: 36},
		impl.Sign{Kind: impl.SgName, Text: "c", At: 38},
		impl.Sign{Kind: impl.SgMark, Text: ";", At: 39},
		impl.Sign{Kind: impl.SgName, Text: "m", At: 46, Blank: true},
		impl.Sign{Kind: impl.SgMark, Text: "(", At: 47},
		impl.Sign{Kind: impl.SgNum, Text: "7", At: 48},
		impl.Sign{Kind: impl.SgMark, Text: ")", At: 49},
		impl.Sign{Kind: impl.SgMark, Text: "=>", At: 50},
		impl.Sign{Kind: impl.SgNum, Text: "12", At: 52},
		impl.Sign{Kind: impl.SgMark, Text: "}", At: 55},
	)
	hasSigns(t, "\n\nif(a<1){\nreturn;}\n// end\n",
		impl.Sign{Kind: impl.SgName, Text: "if", At: 2, Blank: true},
		impl.Sign{Kind: impl.SgMark, Text: "(", At: 4},
		impl.Sign{Kind: impl.SgName, Text: "a", At: 5},
		impl.Sign{Kind: impl.SgMark, Text: "<", At: 6},
		impl.Sign{Kind: impl.SgNum, Text: "1", At: 7},
		impl.Sign{Kind: impl.SgMark, Text: ")", At: 8},
		impl.Sign{Kind: impl.SgMark, Text: "{", At: 9},
		impl.Sign{Kind: impl.SgName, Text: "return", At: 11},
		impl.Sign{Kind: impl.SgMark, Text: ";", At: 17},
		impl.Sign{Kind: impl.SgMark, Text: "}", At: 18},
		impl.Sign{Kind: impl.SgNote, Text: "// end", At: 20},
	)
}

func TestSignsOfNothing(t *testing.T) {
	for _, source := range []string{"", " ", "     ", "\n", "\n\n\n", " \n  \n ", strings.Repeat("\n ", 1500)} {
		hasSigns(t, source)
	}
}

func TestSignsByThemselves(t *testing.T) {
	for _, word := range append([]string{"a", "Z", "_", "__", "_1", "a1", "azAZ_09", "classy"}, keyWords...) {
		hasSigns(t, word, impl.Sign{Kind: impl.SgName, Text: word})
		hasSigns(t, "  "+word+" ", impl.Sign{Kind: impl.SgName, Text: word, At: 2})
	}
	for _, number := range []string{"0", "9", "00", "007", "1234567890"} {
		hasSigns(t, "\n"+number, impl.Sign{Kind: impl.SgNum, Text: number, At: 1})
	}
	for _, mark := range marks {
		hasSigns(t, mark, impl.Sign{Kind: impl.SgMark, Text: mark})
		hasSigns(t, mark+"a"+mark+"\n",
			impl.Sign{Kind: impl.SgMark, Text: mark},
			impl.Sign{Kind: impl.SgName, Text: "a", At: len(mark)},
			impl.Sign{Kind: impl.SgMark, Text: mark, At: len(mark) + 1})
	}
	plain := ""
	for b := byte(32); b <= 126; b++ {
		plain += string(b)
	}
	// Each plain byte may stand in a text, but the quote, and in a note.
	text, note := "'"+strings.ReplaceAll(plain, "'", "")+"'", "//"+plain
	hasSigns(t, text, impl.Sign{Kind: impl.SgText, Text: text})
	hasSigns(t, note+"\n"+text, impl.Sign{Kind: impl.SgNote, Text: note}, impl.Sign{Kind: impl.SgText, Text: text, At: len(note) + 1})
}

func TestSizesOfNamesAndNumbers(t *testing.T) {
	for _, name := range []string{strings.Repeat("n", 30), "_" + strings.Repeat("9", 29), strings.Repeat("Z", 29) + "_"} {
		hasSigns(t, " "+name, impl.Sign{Kind: impl.SgName, Text: name, At: 1})
		hasTexts(t, name+" x", name, "x")
		for _, more := range []string{"n", "0", "_", strings.Repeat("n", 60)} {
			isRefused(t, name+more, 0)
			isRefused(t, "a "+name+more+" b", 2)
		}
	}
	number := "123456789012"
	hasSigns(t, " "+number, impl.Sign{Kind: impl.SgNum, Text: number, At: 1})
	isRefused(t, number+"3", 0)
	isRefused(t, "a=\n"+number+"3;", 3)
	isRefused(t, strings.Repeat("0", 13), 0)
	isRefused(t, strings.Repeat("1", 400), 0)
	// A number ends at a letter, which begins a name of its own.
	hasSigns(t, "12ab", impl.Sign{Kind: impl.SgNum, Text: "12"}, impl.Sign{Kind: impl.SgName, Text: "ab", At: 2})
	hasTexts(t, "1_ 0x1F 12a34 9Z9", "1", "_", "0", "x1F", "12", "a34", "9", "Z9")
	hasTexts(t, number+"a", number, "a")
	hasTexts(t, number+strings.Repeat("_", 30), number, strings.Repeat("_", 30))
	isRefused(t, number+strings.Repeat("_", 31), 12)
}

func TestTexts(t *testing.T) {
	hasSigns(t, "''", impl.Sign{Kind: impl.SgText, Text: "''"})
	hasSigns(t, "a''b", impl.Sign{Kind: impl.SgName, Text: "a"}, impl.Sign{Kind: impl.SgText, Text: "''", At: 1}, impl.Sign{Kind: impl.SgName, Text: "b", At: 3})
	hasTexts(t, "''''", "''", "''")
	hasTexts(t, "' ''  ' 'a'", "' '", "'  '", "'a'")
	hasTexts(t, "'// no note' // a note", "'// no note'", "// a note")
	hasTexts(t, "'a\\' b", "'a\\'", "b")
	long := "'" + strings.Repeat("t", 2998) + "'"
	hasTexts(t, long, long)
	for _, c := range []struct {
		source string
		at     int
	}{
		{"'", 0}, {"'''", 2}, {"'abc", 0}, {"x = 'abc", 4}, {"x = 'abc ", 4}, {"x = 'abc\n", 4}, {"x = 'abc\n'", 4}, {"'\n'", 0}, {"'a' '", 4}, {"a\n'b\nc'", 2},
		{"'a\tb'", 0}, {"'\x1f'", 0}, {"'\x7f'", 0}, {"'\x80'", 0}, {"'\xff'", 0}, {"'\xc3\xa9'", 0}, {"a 'b\xef\xbf\xbdc'", 2}, {"'a\r\n'", 0}, {"'a'\t", 3}, {"'\x00'", 0},
	} {
		isRefused(t, c.source, c.at)
	}
}

func TestMarksTheLongestFirst(t *testing.T) {
	for _, c := range []struct {
		source string
		want   []string
	}{
		{"..", []string{".."}}, {"...", []string{"..", "."}}, {"....", []string{"..", ".."}}, {". .", []string{".", "."}}, {".\n..", []string{".", ".."}}, {"a.b..c", []string{"a", ".", "b", "..", "c"}},
		{"==", []string{"=="}}, {"===", []string{"==", "="}}, {"= =", []string{"=", "="}}, {"=>", []string{"=>"}}, {"==>=", nil}, {"===>", []string{"==", "=>"}}, {"=>=", []string{"=>", "="}}, {"=>=>", []string{"=>", "=>"}},
		{"<=", []string{"<", "="}}, {"<==", []string{"<", "=="}}, {"&&&&", []string{"&&", "&&"}}, {"||||", []string{"||", "||"}}, {"&&||", []string{"&&", "||"}},
		{"1.5", []string{"1", ".", "5"}}, {"1..5", []string{"1", "..", "5"}}, {"-5", []string{"-", "5"}}, {"a--b", []string{"a", "-", "-", "b"}}, {"()=>[{}]", []string{"(", ")", "=>", "[", "{", "}", "]"}},
		{".=..=", []string{".", "=", "..", "="}}, {"?:;,+*", []string{"?", ":", ";", ",", "+", "*"}},
	} {
		if c.want == nil {
			isRefused(t, c.source, 2)
			continue
		}
		hasTexts(t, c.source, c.want...)
	}
	for _, c := range []struct {
		source string
		at     int
	}{
		{"&", 0}, {"|", 0}, {"a & b", 2}, {"a&b", 1}, {"a|b", 1}, {"& &", 0}, {"| |", 0}, {"&|", 0}, {"|&", 0}, {"&&&", 2}, {"|||", 2}, {"a && b &", 7}, {"a || b |\n", 7}, {"&\n&", 0},
		{">", 0}, {"= >", 2}, {"a>b", 1}, {">=", 0}, {"/", 0}, {"a/b", 1}, {"/ /", 0}, {"a / b", 2}, {"a\n/\n/", 2}, {"!", 0}, {"a!=b", 1},
	} {
		isRefused(t, c.source, c.at)
	}
}

func TestNotes(t *testing.T) {
	note := func(text string, at int) impl.Sign { return impl.Sign{Kind: impl.SgNote, Text: text, At: at} }
	name := impl.Sign{Kind: impl.SgName, Text: "a"}
	for _, c := range []struct {
		source string
		want   []impl.Sign
	}{
		{"//", []impl.Sign{note("//", 0)}}, {"//\n", []impl.Sign{note("//", 0)}}, {"// ", []impl.Sign{note("//", 0)}}, {"//    \n", []impl.Sign{note("//", 0)}}, {"//\n//", []impl.Sign{note("//", 0), note("//", 3)}},
		{"// x", []impl.Sign{note("// x", 0)}}, {"// x\n", []impl.Sign{note("// x", 0)}}, {"// x  ", []impl.Sign{note("// x", 0)}}, {"// x  \n", []impl.Sign{note("// x", 0)}}, {"//  x  y \n \n", []impl.Sign{note("//  x  y", 0)}},
		{"a// x", []impl.Sign{name, note("// x", 1)}}, {"a // x\n", []impl.Sign{name, note("// x", 2)}}, {"a\n// x", []impl.Sign{name, note("// x", 2)}}, {"a//", []impl.Sign{name, note("//", 1)}}, {"a//\n", []impl.Sign{name, note("//", 1)}},
		{"a ///", []impl.Sign{name, note("///", 2)}}, {"a // 'b", []impl.Sign{name, note("// 'b", 2)}}, {"a // b // c \n", []impl.Sign{name, note("// b // c", 2)}}, {"// $ & | ! / \"", []impl.Sign{note("// $ & | ! / \"", 0)}},
		{"// x \n// y \n", []impl.Sign{note("// x", 0), note("// y", 6)}},
		{"// x\n a", []impl.Sign{note("// x", 0), {Kind: impl.SgName, Text: "a", At: 6}}},
		{"// x  \na", []impl.Sign{note("// x", 0), {Kind: impl.SgName, Text: "a", At: 7}}},
		{"//\na", []impl.Sign{note("//", 0), {Kind: impl.SgName, Text: "a", At: 3}}},
	} {
		hasSigns(t, c.source, c.want...)
	}
	for _, c := range []struct {
		source string
		at     int
	}{
		{"//\t", 0}, {"// x\t", 0}, {"// x\r\n", 0}, {"// x \r", 0}, {"a // x\x7f", 2}, {"a // x\x80\n", 2}, {"a // \xff", 2}, {"a\n// \xc3\xa9 x\nb", 2}, {"// \x1f", 0}, {"//\x00", 0}, {"// x\n// \xef\xbf\xbd", 5}, {"// x\n\t", 5},
	} {
		isRefused(t, c.source, c.at)
	}
}

func TestBlanks(t *testing.T) {
	for _, c := range []struct {
		source string
		want   []bool
	}{
		// The first sign.
		{"a", []bool{false}}, {" a", []bool{false}}, {"\na", []bool{false}}, {" \n a", []bool{false}}, {"\n\na", []bool{true}}, {"\n  \na", []bool{true}}, {"  \n \n  a", []bool{true}}, {"\n\n\n\na", []bool{true}},
		{"// x", []bool{false}}, {"\n// x", []bool{false}}, {"\n\n// x", []bool{true}},
		// Those behind another one.
		{"a b", []bool{false, false}}, {"ab(", []bool{false, false}}, {"a\nb", []bool{false, false}}, {"a  \n  b", []bool{false, false}}, {"a\n\nb", []bool{false, true}}, {"a\n   \nb", []bool{false, true}}, {"a \n \n b", []bool{false, true}}, {"a\n\n\nb", []bool{false, true}}, {"a\n \n \nb", []bool{false, true}},
		{"a\nb\nc", []bool{false, false, false}}, {"a\n\nb c\n\nd", []bool{false, true, false, true}}, {"\n\na\nb", []bool{true, false}}, {"'x'\n\n'y'\n1", []bool{false, true, false}}, {";\n\n;", []bool{false, true}},
		// Those behind a note, whose own line end is the first of two.
		{"// x\na", []bool{false, false}}, {"// x  \n  a", []bool{false, false}}, {"// x\n\na", []bool{false, true}}, {"// x  \n  \n  a", []bool{false, true}}, {"//\n\n//\n//", []bool{false, true, false}}, {"a // x\n\nb", []bool{false, false, true}}, {"a\n\n// x\nb", []bool{false, true, false}}, {"a // x\nb", []bool{false, false, false}},
	} {
		hasBlanks(t, c.source, c.want...)
	}
}

func TestSourcesOfMaxSource(t *testing.T) {
	for _, end := range []string{"a", ";", " ", "\n", "'x'", "9", "// x"} {
		full := strings.Repeat("b ", (impl.MaxSource-len(end))/2)
		full += strings.Repeat(" ", impl.MaxSource-len(end)-len(full)) + end
		list := isRead(t, full)
		if last := list[len(list)-1]; strings.TrimSpace(end) != "" && (last.Text != end || last.At != impl.MaxSource-len(end)) {
			t.Errorf("the last sign of a source of MaxSource bytes is %v; want %q", last, end)
		}
		for _, more := range []string{" ", "\n", "a", ";", "'", "\t", "\xff", strings.Repeat("c ", 5000)} {
			isRefused(t, full+more, impl.MaxSource)
		}
	}
	isRefused(t, strings.Repeat(" ", impl.MaxSource-1)+"$", impl.MaxSource-1)
	// That there are more bytes is told ahead of all else.
	isRefused(t, "$"+strings.Repeat(" ", impl.MaxSource), impl.MaxSource)
	isRefused(t, "'"+strings.Repeat("x", impl.MaxSource), impl.MaxSource)
	isRefused(t, strings.Repeat("\xff", impl.MaxSource+1), impl.MaxSource)
}

func TestBytesThatAreNoPartOfASign(t *testing.T) {
	apart := " \n'/&|"
	for i := range 256 {
		b := string([]byte{byte(i)})
		if strings.Contains(apart, b) || slices.Contains(marks, b) || regexp.MustCompile(`^[A-Za-z0-9_]$`).MatchString(b) {
			continue
		}
		isRefused(t, b, 0)
		isRefused(t, b+"a", 0)
		isRefused(t, b+" a", 0)
		isRefused(t, "\n"+b+"\n", 1)
		isRefused(t, "a"+b, 1)
		isRefused(t, "a "+b+" c", 2)
		isRefused(t, "12"+b+"3", 2)
		isRefused(t, "a.."+b, 3)
		isRefused(t, "'x'"+b+"'y'", 3)
		isRefused(t, "// x\n"+b, 5)
		isRefused(t, "a b;\n"+b, 5)
		// The first one counts.
		isRefused(t, "ab "+b+" $ "+b, 3)
		isRefused(t, b+b+"'", 0)
	}
	for _, letter := range []string{"\xc3\xa9", "\xef\xbf\xbd", "\xe2\x80\xa8", "\xf0\x9f\x98\x80", "\xc2\xa0", "\xc3", "\xe2\x80", "\x80\x80", "\xed\xa0\x80", "\xc0\xa0", "\xd9\xa3", "\xce\xb1"} {
		isRefused(t, letter, 0)
		isRefused(t, "abc"+letter, 3)
		isRefused(t, "abc "+letter+" d", 4)
		isRefused(t, "1\n"+letter+"2", 2)
		isRefused(t, "a $ "+letter, 2)
		isRefused(t, "a "+letter+" $", 2)
	}
	isRefused(t, "a $", 2)
	isRefused(t, "$a", 0)
	isRefused(t, "a$b", 1)
	isRefused(t, "a\tb", 1)
	isRefused(t, "a\r\nb", 1)
}

// Each small text, and each beginning and end of longer ones, is read as the forms of the chapter read it.
func TestSignsByForms(t *testing.T) {
	check := func(source string) {
		list, at, ok := impl.SignsOf(source)
		wantList, wantAt, wantOk := signsByForms(source)
		if !slices.Equal(list, wantList) || at != wantAt || ok != wantOk {
			t.Fatalf("SignsOf(%q) = %v, %d, %v; want %v, %d, %v", source, list, at, ok, wantList, wantAt, wantOk)
		}
	}
	eachSignText(check)
	for _, source := range someSources() {
		for i := range len(source) + 1 {
			check(source[:i])
			check(source[i:])
		}
		for i := range len(source) {
			for _, by := range []byte{1, 4, 16, 32, 64, 128} {
				check(turned(source, i, by))
			}
		}
	}
}

// Promise 4.
func TestSignsComeBackFromTheirTexts(t *testing.T) {
	check := func(source string) {
		list, _, ok := impl.SignsOf(source)
		if !ok {
			return
		}
		flat := impl.Flat(list)
		again, at, ok := impl.SignsOf(flat)
		if at != 0 || !ok || len(again) != len(list) || !impl.SameSigns(list, again) || !impl.SameSigns(again, list) {
			t.Fatalf("of %q: Flat is %q, and SignsOf of that %v, %d, %v; want %v", source, flat, again, at, ok, list)
		}
		for i, sign := range again {
			if sign.Kind != list[i].Kind || sign.Text != list[i].Text || flat[sign.At:sign.At+len(sign.Text)] != sign.Text {
				t.Fatalf("of %q: sign %d of Flat %q is %v; want %v", source, i, flat, sign, list[i])
			}
		}
		if third := impl.Flat(again); third != flat {
			t.Fatalf("of %q: Flat again is %q; want %q", source, third, flat)
		}
	}
	eachSignText(check)
	for _, source := range someSources() {
		for i := range len(source) + 1 {
			check(source[:i])
			check(source[i:])
		}
	}
	// The longest row of signs that Flat still writes within MaxSource.
	check(strings.Repeat("(", impl.MaxSource/2))
	check(strings.Repeat("//\n", impl.MaxSource/3))
	for _, a := range marks {
		for _, b := range marks {
			check(a + " " + b)
			check(a + "\n" + b + "// " + a)
		}
	}
}

func TestSameSigns(t *testing.T) {
	source := isRead(t, "a = 1; // x\n'y'")
	apart := slices.Clone(source)
	for i := range apart {
		apart[i].At, apart[i].Blank = -7-i, !apart[i].Blank
	}
	if !impl.SameSigns(source, source) || !impl.SameSigns(source, apart) || !impl.SameSigns(apart, source) {
		t.Error("signs that differ in At and Blank alone are told apart")
	}
	if !impl.SameSigns(nil, nil) || !impl.SameSigns(nil, []impl.Sign{}) || !impl.SameSigns([]impl.Sign{}, nil) {
		t.Error("no signs are told apart from no signs")
	}
	for i := range source {
		kind, text := slices.Clone(source), slices.Clone(source)
		kind[i].Kind++
		text[i].Text += " "
		for _, other := range [][]impl.Sign{kind, text, source[:i], source[i+1:], slices.Concat(source[:i], source[i+1:])} {
			if impl.SameSigns(source, other) || impl.SameSigns(other, source) {
				t.Errorf("SameSigns of %v and %v", source, other)
			}
		}
	}
	for _, other := range [][]impl.Sign{nil, {{}}, append(slices.Clone(source), impl.Sign{}), slices.Concat(source, source)} {
		if impl.SameSigns(source, other) || impl.SameSigns(other, source) {
			t.Errorf("SameSigns of %v and %v", source, other)
		}
	}
	turnedRound := slices.Clone(source)
	slices.Reverse(turnedRound)
	if impl.SameSigns(source, turnedRound) {
		t.Error("SameSigns of signs in another order")
	}
	// Kinds and Texts that no source has are compared like others.
	odd := []impl.Sign{{Kind: -1, Text: "\xff"}, {Kind: 99}, {}}
	if !impl.SameSigns(odd, slices.Clone(odd)) || impl.SameSigns(odd, []impl.Sign{{Kind: -1, Text: "\xfe"}, {Kind: 99}, {}}) || impl.SameSigns([]impl.Sign{{}}, nil) {
		t.Error("SameSigns of signs that no source has")
	}
}

func TestFlat(t *testing.T) {
	name, number := impl.Sign{Kind: impl.SgName, Text: "a", At: 90, Blank: true}, impl.Sign{Kind: impl.SgNum, Text: "12"}
	note, bare := impl.Sign{Kind: impl.SgNote, Text: "// x"}, impl.Sign{Kind: impl.SgNote, Text: "//", Blank: true}
	for _, c := range []struct {
		list []impl.Sign
		want string
	}{
		{nil, ""}, {[]impl.Sign{}, ""}, {[]impl.Sign{name}, "a"}, {[]impl.Sign{name, number}, "a 12"}, {[]impl.Sign{number, name, number}, "12 a 12"},
		{[]impl.Sign{note}, "// x"}, {[]impl.Sign{name, note}, "a // x"}, {[]impl.Sign{note, name}, "// x\na"}, {[]impl.Sign{name, note, number}, "a // x\n12"}, {[]impl.Sign{note, bare, note}, "// x\n//\n// x"}, {[]impl.Sign{name, note, bare, number, name, note}, "a // x\n//\n12 a // x"},
		// Texts that no source has are written as they are; the Kind alone makes a note.
		{[]impl.Sign{{}}, ""}, {[]impl.Sign{{}, {}}, " "}, {[]impl.Sign{{Text: "// x"}, name}, "// x a"}, {[]impl.Sign{{Kind: impl.SgNote, Text: "b"}, name}, "b\na"}, {[]impl.Sign{{Kind: impl.SgNote}, {Kind: impl.SgNote}}, "\n"},
		{[]impl.Sign{{Kind: 6, Text: "x\n"}, {Kind: -5, Text: " \xff\x00"}, {Kind: impl.SgName}}, "x\n  \xff\x00 "},
	} {
		if got := impl.Flat(c.list); got != c.want {
			t.Errorf("Flat(%v) = %q; want %q", c.list, got, c.want)
		}
	}
	if got := impl.Flat(isRead(t, "m(a,b){ // said \n\n return a..b(1); // told \n}\n// end \n")); got != "m ( a , b ) { // said\nreturn a .. b ( 1 ) ; // told\n} // end" {
		t.Errorf("Flat of a source is %q", got)
	}
	// No limit holds for what Flat writes.
	if got := impl.Flat(isRead(t, strings.Repeat("(", impl.MaxSource))); got != strings.Repeat("( ", impl.MaxSource-1)+"(" {
		t.Errorf("Flat of MaxSource marks has %d bytes", len(got))
	}
}

func TestSignsAreNewMemory(t *testing.T) {
	for _, source := range someSources() {
		first, _, ok := impl.SignsOf(source)
		second, _, _ := impl.SignsOf(source)
		if !ok || len(first) == 0 {
			continue
		}
		for i, sign := range first {
			if sharesMemory(sign.Text, source) || sharesMemory(sign.Text, second[i].Text) {
				t.Errorf("sign %d of SignsOf(%q) is not new memory", i, source)
			}
		}
		flat := impl.Flat(first)
		for _, sign := range first {
			if sharesMemory(flat, sign.Text) {
				t.Errorf("Flat of the signs of %q is not new memory", source)
			}
		}
		first[0] = impl.Sign{Kind: 99, Text: "turned"}
		if third, _, _ := impl.SignsOf(source); !slices.Equal(second, third) {
			t.Errorf("SignsOf(%q) = %v, once an answer was written into", source, third)
		}
	}
}

func TestSignsLeaveTheirLists(t *testing.T) {
	room := isRead(t, "a // x\nb .. c")
	want := slices.Clone(room)
	list := room[:2]
	if flat := impl.Flat(list); flat != "a // x" || !impl.SameSigns(list, list) || impl.SameSigns(list, room) {
		t.Errorf("Flat of a list with spare room is %q, or SameSigns looks into that", flat)
	}
	if !slices.Equal(room, want) {
		t.Errorf("a list is %v behind its calls; want %v", room, want)
	}
}
