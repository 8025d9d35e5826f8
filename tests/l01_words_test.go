package tests

import (
	"math"
	"slices"
	"strconv"
	"strings"
	"testing"
	"unsafe"

	"loop.example/g00459/impl"
)

// sharesMemory tells whether a byte of part lies within whole.
func sharesMemory(part, whole string) bool {
	if part == "" || whole == "" {
		return false
	}
	p, w := uintptr(unsafe.Pointer(unsafe.StringData(part))), uintptr(unsafe.Pointer(unsafe.StringData(whole)))
	return p < w+uintptr(len(whole)) && w < p+uintptr(len(part))
}

// allBytes has each byte once.
func allBytes() string {
	list := make([]byte, 256)
	for i := range list {
		list[i] = byte(i)
	}
	return string(list)
}

// someNumbers has numbers of all lengths, and both sides of each place where VarText or Decimal grows.
func someNumbers() []int {
	list := []int{0, 1, 2, impl.MaxNumber - 1, impl.MaxNumber}
	for _, base := range []int{10, 128} {
		for n := base; n <= impl.MaxNumber; n *= base {
			list = append(list, n-1, n)
			if n < impl.MaxNumber {
				list = append(list, n+1)
			}
		}
	}
	for n := 3; n <= impl.MaxNumber; n = n*7/3 + 1 {
		list = append(list, n)
	}
	return list
}

func TestLimitsOfWords(t *testing.T) {
	if impl.MaxText != 20000 || impl.MaxNumber != 1000000000 || impl.MaxWords != 600 || impl.MaxParts != 10 {
		t.Error("a limit is not the document's")
	}
}

func TestVarText(t *testing.T) {
	for _, c := range []struct {
		n    int
		text string
	}{
		{0, "\x00"}, {1, "\x01"}, {127, "\x7f"},
		{128, "\x80\x01"}, {129, "\x81\x01"}, {255, "\xff\x01"}, {256, "\x80\x02"}, {300, "\xac\x02"}, {16383, "\xff\x7f"},
		{16384, "\x80\x80\x01"}, {2097151, "\xff\xff\x7f"},
		{2097152, "\x80\x80\x80\x01"}, {268435455, "\xff\xff\xff\x7f"},
		{268435456, "\x80\x80\x80\x80\x01"}, {impl.MaxNumber, "\x80\x94\xeb\xdc\x03"},
	} {
		if text, ok := impl.VarText(c.n); text != c.text || !ok {
			t.Errorf("VarText(%d) = %q, %v; want %q", c.n, text, ok, c.text)
		}
	}
}

func TestVarTextRefuses(t *testing.T) {
	for _, n := range []int{-1, -128, math.MinInt, impl.MaxNumber + 1, 1 << 32, math.MaxInt} {
		if text, ok := impl.VarText(n); text != "" || ok {
			t.Errorf("VarText(%d) = %q, %v; want nothing", n, text, ok)
		}
	}
}

func TestVarTextIsReadBack(t *testing.T) {
	for _, n := range someNumbers() {
		text, ok := impl.VarText(n)
		if !ok {
			t.Fatalf("VarText(%d) refuses", n)
		}
		for _, ahead := range []string{"", "a", "\x80", "\xff\xff\xff\xff\xff\xff"} {
			for _, behind := range []string{"", "\x00", "\x80", "\xff\x01"} {
				got, at, ok := impl.ReadVar(ahead+text+behind, len(ahead))
				if got != n || at != len(ahead)+len(text) || !ok {
					t.Fatalf("ReadVar(%q, %d) = %d, %d, %v; want %d, %d", ahead+text+behind, len(ahead), got, at, ok, n, len(ahead)+len(text))
				}
			}
		}
	}
}

// What is read from any two bytes, and from three at their edges, is just what some number is written as.
func TestReadVarReadsNothingElse(t *testing.T) {
	written := map[string]int{}
	for n := range 128 * 128 * 128 {
		text, _ := impl.VarText(n)
		written[text] = n
	}
	edges := []byte{0, 1, 2, 126, 127, 128, 129, 254, 255}
	texts := []string{""}
	for a := range 256 {
		texts = append(texts, string([]byte{byte(a)}))
		for b := range 256 {
			texts = append(texts, string([]byte{byte(a), byte(b)}))
			for _, c := range edges {
				texts = append(texts, string([]byte{byte(a), byte(b), c}))
			}
		}
	}
	for _, text := range texts {
		for at := 0; at <= len(text); at++ {
			wantN, wantAt, wantOk := 0, 0, false
			for end := at + 1; end <= len(text); end++ {
				if n, ok := written[text[at:end]]; ok {
					wantN, wantAt, wantOk = n, end, true
				}
			}
			n, place, ok := impl.ReadVar(text, at)
			if n != wantN || place != wantAt || ok != wantOk {
				t.Fatalf("ReadVar(%q, %d) = %d, %d, %v; want %d, %d, %v", text, at, n, place, ok, wantN, wantAt, wantOk)
			}
		}
	}
}

func TestReadVarRefuses(t *testing.T) {
	for _, c := range []struct {
		why, text string
		at        int
	}{
		{"nothing", "", 0},
		{"at the end", "\x05", 1},
		{"past the end", "\x05", 2},
		{"far past the end", "\x05", math.MaxInt},
		{"below 0", "\x05", -1},
		{"far below 0", "\x05", math.MinInt},
		{"ends within", "\x80", 0},
		{"ends within", "\xac", 0},
		{"ends within", "a\xff\xff", 1},
		{"ends within", "\x80\x80\x80\x80", 0},
		{"longer form of 0", "\x80\x00", 0},
		{"longer form of 0", "\x80\x80\x00", 0},
		{"longer form of 0", "\x80\x80\x80\x80\x00", 0},
		{"longer form of 1", "\x81\x00", 0},
		{"longer form of 127", "\xff\x00", 0},
		{"longer form of 300", "\xac\x82\x00", 0},
		{"longer form of MaxNumber", "\x80\x94\xeb\xdc\x83\x00", 0},
		{"MaxNumber and one", "\x81\x94\xeb\xdc\x03", 0},
		{"five bytes, too great", "\x80\x80\x80\x80\x04", 0},
		{"five bytes, too great", "\xff\xff\xff\xff\x7f", 0},
		{"six bytes", "\x80\x80\x80\x80\x80\x01", 0},
		{"2 to 64, which wraps round to 0", "\x80\x80\x80\x80\x80\x80\x80\x80\x80\x02", 0},
		{"2 to 64 and one", "\x81\x80\x80\x80\x80\x80\x80\x80\x80\x02", 0},
		{"a long row", strings.Repeat("\x80", 1000) + "\x01", 0},
		{"a long row without end", strings.Repeat("\xff", 1000), 3},
	} {
		if n, at, ok := impl.ReadVar(c.text, c.at); n != 0 || at != 0 || ok {
			t.Errorf("%s: ReadVar(%q, %d) = %d, %d, %v; want nothing", c.why, c.text, c.at, n, at, ok)
		}
	}
}

func TestShortText(t *testing.T) {
	for _, c := range []struct{ s, text string }{
		{"", "\x00"}, {"a", "\x01a"}, {"\x00", "\x01\x00"}, {"tick 1", "\x06tick 1"}, {"\xff\n", "\x02\xff\n"},
		{strings.Repeat("x", 127), "\x7f" + strings.Repeat("x", 127)},
		{strings.Repeat("x", 128), "\x80\x01" + strings.Repeat("x", 128)},
		{strings.Repeat("y", impl.MaxText), "\xa0\x9c\x01" + strings.Repeat("y", impl.MaxText)},
	} {
		text, ok := impl.ShortText(c.s)
		if text != c.text || !ok {
			t.Errorf("ShortText of %d bytes = %q, %v; want %q", len(c.s), text, ok, c.text)
		}
		if sharesMemory(text, c.s) {
			t.Errorf("ShortText of %d bytes shares memory with it", len(c.s))
		}
	}
	if text, ok := impl.ShortText(strings.Repeat("y", impl.MaxText+1)); text != "" || ok {
		t.Error("ShortText takes a text that is one byte too long")
	}
}

func TestShortTextIsReadBack(t *testing.T) {
	for _, s := range []string{"", "a", "\x00", "\x80", "two words", allBytes(), strings.Repeat("z", 16384), strings.Repeat("\xff", impl.MaxText)} {
		text, _ := impl.ShortText(s)
		for _, ahead := range []string{"", "\x81", "abc"} {
			for _, behind := range []string{"", "\x00", "more"} {
				whole := ahead + text + behind
				got, at, ok := impl.ReadShort(whole, len(ahead))
				if got != s || at != len(ahead)+len(text) || !ok {
					t.Fatalf("ReadShort of %d bytes behind %q = %d bytes, %d, %v", len(s), ahead, len(got), at, ok)
				}
				if sharesMemory(got, whole) {
					t.Fatalf("ReadShort of %d bytes shares memory with its argument", len(s))
				}
			}
		}
	}
}

func TestShortTextsStandInARow(t *testing.T) {
	list := []string{"one", "", "three\x00", strings.Repeat("4", 200)}
	row := ""
	for _, s := range list {
		text, _ := impl.ShortText(s)
		row += text
	}
	at := 0
	for _, s := range list {
		got, next, ok := impl.ReadShort(row, at)
		if got != s || !ok {
			t.Fatalf("at %d: %q, %v; want %q", at, got, ok, s)
		}
		at = next
	}
	if at != len(row) {
		t.Errorf("the last place is %d; want %d", at, len(row))
	}
}

func TestReadShortRefuses(t *testing.T) {
	for _, c := range []struct {
		why, text string
		at        int
	}{
		{"nothing", "", 0},
		{"at the end", "\x01a", 2},
		{"past the end", "\x01a", 3},
		{"below 0", "\x01a", -1},
		{"least place", "\x00", math.MinInt},
		{"greatest place", "\x00", math.MaxInt},
		{"no byte of one", "\x01", 0},
		{"ends within the text", "\x05abcd", 0},
		{"ends within the text", "xy\x03ab", 2},
		{"ends within the number", "\x81", 0},
		{"longer form of the number", "\x81\x00a", 0},
		{"longer form of 0", "\x80\x00", 0},
		{"a text one byte too long", "\xa1\x9c\x01" + strings.Repeat("a", impl.MaxText+1), 0},
		{"one byte too long, and more behind", "\xa1\x9c\x01" + strings.Repeat("a", impl.MaxText+50), 0},
		{"MaxNumber", "\x80\x94\xeb\xdc\x03abc", 0},
		{"above MaxNumber", "\x81\x94\xeb\xdc\x03abc", 0},
	} {
		if s, at, ok := impl.ReadShort(c.text, c.at); s != "" || at != 0 || ok {
			t.Errorf("%s: ReadShort tells %d bytes, %d, %v; want nothing", c.why, len(s), at, ok)
		}
	}
}

func TestHex(t *testing.T) {
	for _, c := range []struct{ text, hex string }{
		{"", ""}, {"\x00", "00"}, {"\x0f", "0f"}, {"\xf0", "f0"}, {"\xff", "ff"}, {"Az", "417a"}, {"\x9a\xbc\xde", "9abcde"},
		{strings.Repeat("\x12", impl.MaxText), strings.Repeat("12", impl.MaxText)},
	} {
		if hex, ok := impl.Hex(c.text); hex != c.hex || !ok {
			t.Errorf("Hex of %d bytes = %q, %v; want %q", len(c.text), hex, ok, c.hex)
		}
		if text, ok := impl.Unhex(c.hex); text != c.text || !ok {
			t.Errorf("Unhex of %d bytes = %q, %v; want %q", len(c.hex), text, ok, c.text)
		}
	}
	if hex, ok := impl.Hex(strings.Repeat("a", impl.MaxText+1)); hex != "" || ok {
		t.Error("Hex takes a text that is one byte too long")
	}
}

func TestHexIsReadBack(t *testing.T) {
	for i := range 256 {
		for _, text := range []string{string([]byte{byte(i)}), string([]byte{byte(i), 7, byte(255 - i)})} {
			hex, ok := impl.Hex(text)
			back, right := impl.Unhex(hex)
			if !ok || !right || back != text || len(hex) != 2*len(text) {
				t.Fatalf("Hex(%q) = %q, %v, read back as %q, %v", text, hex, ok, back, right)
			}
		}
	}
}

func TestUnhexRefuses(t *testing.T) {
	for _, text := range []string{
		"0", "a", "000", "abc", "0g", "g0", "0A", "A0", "FF", "0F", "0x", " 0", "0 ", "0/", "0:", "0`", "-1", "00\n0", "0\x00", "\xff\xff",
		"1234z6", "123456z", "zz00", "00zz", "4142zz",
		strings.Repeat("0", 2*impl.MaxText+1), strings.Repeat("0", 2*impl.MaxText+2),
	} {
		if got, ok := impl.Unhex(text); got != "" || ok {
			t.Errorf("Unhex of %d bytes (%.10q) = %.10q, %v; want nothing", len(text), text, got, ok)
		}
	}
}

// Of all pairs of bytes Unhex takes just those that Hex writes.
func TestUnhexReadsNothingElse(t *testing.T) {
	written := map[string]string{}
	for i := range 256 {
		text := string([]byte{byte(i)})
		hex, _ := impl.Hex(text)
		written[hex] = text
	}
	for a := range 256 {
		for b := range 256 {
			pair := string([]byte{byte(a), byte(b)})
			want, right := written[pair]
			if got, ok := impl.Unhex(pair); got != want || ok != right {
				t.Fatalf("Unhex(%q) = %q, %v; want %q, %v", pair, got, ok, want, right)
			}
		}
	}
}

func TestDecimal(t *testing.T) {
	for _, c := range []struct {
		n    int
		text string
	}{
		{0, "0"}, {1, "1"}, {9, "9"}, {10, "10"}, {100, "100"}, {-1, "-1"}, {-5, "-5"}, {-10, "-10"}, {1234567890, "1234567890"},
		{impl.MaxNumber, "1000000000"}, {impl.MaxNumber + 1, "1000000001"},
		{math.MaxInt, "9223372036854775807"}, {math.MinInt + 1, "-9223372036854775807"}, {math.MinInt, "-9223372036854775808"},
	} {
		if text := impl.Decimal(c.n); text != c.text {
			t.Errorf("Decimal(%d) = %q; want %q", c.n, text, c.text)
		}
	}
}

func TestDecimalIsReadBack(t *testing.T) {
	for _, n := range someNumbers() {
		if got, ok := impl.ReadDecimal(impl.Decimal(n)); got != n || !ok {
			t.Errorf("ReadDecimal of Decimal(%d) = %d, %v", n, got, ok)
		}
	}
	for n := range 20000 {
		if got, ok := impl.ReadDecimal(impl.Decimal(n)); got != n || !ok {
			t.Fatalf("ReadDecimal of Decimal(%d) = %d, %v", n, got, ok)
		}
	}
}

func TestReadDecimalRefuses(t *testing.T) {
	for _, text := range []string{
		"", "00", "01", "007", "0000000000", "01000000000", "-1", "-0", "+1", "+0", "-", "+", " 1", "1 ", "1 2", "1_0", "1.0", "1e3", "0x1", "a", "1a", "a1",
		"/", ":", "1/", "1:", "1\n", "\x001", "1\x00", "\u0661", "\xb1", "100000000a", "1000000000a",
		"1000000001", "1000000010", "2000000000", "9999999999", "10000000000", "4294967296", "9223372036854775808", "18446744073709551616", "18446744073709551617",
		strings.Repeat("9", 500), "1" + strings.Repeat("0", 64), "1000000000" + strings.Repeat("0", 100000),
		impl.Decimal(math.MaxInt), impl.Decimal(math.MinInt), impl.Decimal(impl.MaxNumber + 1),
	} {
		if n, ok := impl.ReadDecimal(text); n != 0 || ok {
			t.Errorf("ReadDecimal of %d bytes (%.25q) = %d, %v; want nothing", len(text), text, n, ok)
		}
	}
}

// Of all texts of up to two bytes ReadDecimal takes just those that Decimal writes.
func TestReadDecimalReadsNothingElse(t *testing.T) {
	written := map[string]int{}
	for n := range 100 {
		written[strconv.Itoa(n)] = n
	}
	for a := range 256 {
		texts := []string{string([]byte{byte(a)})}
		for b := range 256 {
			texts = append(texts, string([]byte{byte(a), byte(b)}))
		}
		for _, text := range texts {
			want, right := written[text]
			if n, ok := impl.ReadDecimal(text); n != want || ok != right {
				t.Fatalf("ReadDecimal(%q) = %d, %v; want %d, %v", text, n, ok, want, right)
			}
		}
	}
}

func TestPartsOf(t *testing.T) {
	for _, c := range []struct {
		line  string
		parts []string
	}{
		{"", nil}, {" ", nil}, {strings.Repeat(" ", impl.MaxWords), nil},
		{"a", []string{"a"}}, {" a", []string{"a"}}, {"a ", []string{"a"}}, {"  a  ", []string{"a"}},
		{" tick  1 2 ", []string{"tick", "1", "2"}},
		{"a b a", []string{"a", "b", "a"}},
		{"!~ 'x,y;' \"=\"", []string{"!~", "'x,y;'", "\"=\""}},
		{"1 2 3 4 5 6 7 8 9 10", []string{"1", "2", "3", "4", "5", "6", "7", "8", "9", "10"}},
		{"  1  2 3 4 5 6 7 8 9 10   ", []string{"1", "2", "3", "4", "5", "6", "7", "8", "9", "10"}},
		{strings.Repeat("w", impl.MaxWords), []string{strings.Repeat("w", impl.MaxWords)}},
		{strings.Repeat(" ", impl.MaxWords-3) + "a b", []string{"a", "b"}},
	} {
		parts, ok := impl.PartsOf(c.line)
		if !slices.Equal(parts, c.parts) || !ok {
			t.Errorf("PartsOf(%q) = %q, %v; want %q", c.line, parts, ok, c.parts)
		}
		for _, part := range parts {
			if sharesMemory(part, c.line) {
				t.Errorf("PartsOf(%q): the part %q shares memory with the line", c.line, part)
			}
		}
	}
}

func TestPartsOfRefuses(t *testing.T) {
	for _, line := range []string{
		strings.Repeat(" ", impl.MaxWords+1), strings.Repeat("w", impl.MaxWords+1), "a" + strings.Repeat(" ", impl.MaxWords),
		"1 2 3 4 5 6 7 8 9 10 11", " 1 2 3 4 5 6 7 8 9 10  11 ", strings.Repeat("a ", 300),
		"\n", "\t", "a\tb", "a\n", "\ra", "a\x00b", "a \x1f", "\x7f", "a b\x7f", "\x80", "a\xa0b", "\xff", "gr\u00fcn", "a\u2003b",
	} {
		if parts, ok := impl.PartsOf(line); len(parts) != 0 || ok {
			t.Errorf("PartsOf of %d bytes (%.20q) = %q, %v; want nothing", len(line), line, parts, ok)
		}
	}
}

func TestPartsOfTakesEachPlainByte(t *testing.T) {
	for i := range 256 {
		line := "a" + string([]byte{byte(i)}) + "b"
		want, right := []string{line}, i > 32 && i < 127
		if i == 32 {
			want, right = []string{"a", "b"}, true
		} else if !right {
			want = nil
		}
		if parts, ok := impl.PartsOf(line); !slices.Equal(parts, want) || ok != right {
			t.Errorf("PartsOf(%q) = %q, %v; want %q, %v", line, parts, ok, want, right)
		}
	}
}

func TestPartsOfKeepsNothing(t *testing.T) {
	first, _ := impl.PartsOf("one two")
	second, _ := impl.PartsOf("one two")
	first[0] = "changed"
	_ = append(first[:1], "changed")
	if third, _ := impl.PartsOf("one two"); !slices.Equal(second, []string{"one", "two"}) || !slices.Equal(third, second) {
		t.Error("two answers of PartsOf share memory")
	}
}
