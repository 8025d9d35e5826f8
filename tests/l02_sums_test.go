package tests

import (
	"math"
	"strings"
	"testing"

	"loop.example/g00459/impl"
)

// sumByBits reckons a sum bit by bit, as the chapter says it.
func sumByBits(sum uint32, text string) uint32 {
	for i := 0; i < len(text); i++ {
		sum ^= uint32(text[i])
		for range 8 {
			odd := sum%2 == 1
			sum /= 2
			if odd {
				sum ^= 3558460437
			}
		}
	}
	return sum
}

// sealByBits is a text with its sum behind it, of any length.
func sealByBits(text string) string {
	sum := sumByBits(4294967295, text)
	return text + string([]byte{byte(sum / 16777216), byte(sum / 65536 % 256), byte(sum / 256 % 256), byte(sum % 256)})
}

// turned is text with another byte at a place.
func turned(text string, at int, by byte) string {
	list := []byte(text)
	list[at] ^= by
	return string(list)
}

func someTexts() []string {
	return []string{
		"", "a", "abc", "\x00", "\xff", "\x00\x00\x00\x00", "\xff\xff\xff\xff", "\xff\xff\xff\xff\x00", "123456789", "class A { }\n",
		allBytes(), strings.Repeat("\x00", 40), strings.Repeat("\xff", 40), strings.Repeat("line\n", 70),
	}
}

func someSums() []uint32 {
	return []uint32{0, 1, 2, 127, 128, 255, 256, 65535, 1 << 24, 1 << 31, 3558460437, 2026809993, 4294967294, math.MaxUint32}
}

func TestSumMore(t *testing.T) {
	for _, c := range []struct {
		sum  uint32
		text string
		want uint32
	}{
		{0, "", 0}, {1, "", 1}, {4294967295, "", 4294967295}, {3558460437, "", 3558460437},
		// The last of the eight steps alone meets the bit 128.
		{0, "\x80", 3558460437}, {128, "\x00", 3558460437}, {129, "\x01", 3558460437},
		// A sum without its lowest eight bits moves down by them.
		{256, "\x00", 1}, {0xabcdef00, "\x00", 0xabcdef}, {0xffffffff, "\xff", 0xffffff}, {0xff, "\xff", 0},
		// With the bit 64 the seventh step is odd, and the sum of it is odd, too.
		{0, "\x40", 3558460437/2 ^ 3558460437},
		{0, "\x00", 0}, {0, "\x00\x00\x00", 0}, {0, "a", 517710666}, {0, "abc", 157603473}, {0, "\xff", 2170173475},
	} {
		if got := impl.SumMore(c.sum, c.text); got != c.want {
			t.Errorf("SumMore(%d, %q) = %d; want %d", c.sum, c.text, got, c.want)
		}
	}
}

func TestSumOf(t *testing.T) {
	for _, c := range []struct {
		text string
		want uint32
	}{
		{"", 4294967295}, {"\x00", 2175125468}, {"\xff", 16777215}, {"\xff\xff", 65535}, {"\xff\xff\xff\xff", 0},
		{"a", 2675860630}, {"abc", 2815232641}, {"123456789", 2026809993},
	} {
		if got := impl.SumOf(c.text); got != c.want {
			t.Errorf("SumOf(%q) = %d; want %d", c.text, got, c.want)
		}
	}
}

func TestSumsBitByBit(t *testing.T) {
	texts := append(someTexts(), strings.Repeat("x\x80", impl.MaxText/2), strings.Repeat("y", impl.MaxText+1), strings.Repeat(allBytes(), 200))
	for _, text := range texts {
		for _, sum := range someSums() {
			if got, want := impl.SumMore(sum, text), sumByBits(sum, text); got != want {
				t.Errorf("SumMore(%d, %d bytes) = %d; want %d", sum, len(text), got, want)
			}
		}
		if got, want := impl.SumOf(text), sumByBits(4294967295, text); got != want {
			t.Errorf("SumOf(%d bytes) = %d; want %d", len(text), got, want)
		}
	}
	for i := range 256 {
		text := string([]byte{byte(i)})
		for _, sum := range someSums() {
			if got, want := impl.SumMore(sum, text), sumByBits(sum, text); got != want {
				t.Errorf("SumMore(%d, %q) = %d; want %d", sum, text, got, want)
			}
		}
	}
}

func TestSumMoreGoesOn(t *testing.T) {
	for _, a := range someTexts() {
		for _, b := range someTexts() {
			if got, want := impl.SumMore(impl.SumOf(a), b), impl.SumOf(a+b); got != want {
				t.Errorf("SumMore of SumOf(%q) and %q = %d; want %d", a, b, got, want)
			}
		}
	}
	whole := strings.Repeat(allBytes(), 3)
	for at := range len(whole) + 1 {
		if got, want := impl.SumMore(impl.SumOf(whole[:at]), whole[at:]), impl.SumOf(whole); got != want {
			t.Fatalf("cut at %d: %d; want %d", at, got, want)
		}
	}
}

func TestSealed(t *testing.T) {
	for _, c := range []struct{ text, want string }{
		{"", "\xff\xff\xff\xff"},
		{"abc", "abc\xa7\xcd\x0a\x81"},
		{"\xff", "\xff\x00\xff\xff\xff"},
		{"\xff\xff\xff\xff", "\xff\xff\xff\xff\x00\x00\x00\x00"},
		{"123456789", "123456789\x78\xce\xaa\x89"},
	} {
		text, ok := impl.Sealed(c.text)
		if text != c.want || !ok {
			t.Errorf("Sealed(%q) = %q, %v; want %q", c.text, text, ok, c.want)
		}
		if sharesMemory(text, c.text) {
			t.Errorf("Sealed(%q) shares memory with it", c.text)
		}
	}
}

func TestSealedIsUnsealed(t *testing.T) {
	texts := append(someTexts(), strings.Repeat("m", impl.MaxText-1), strings.Repeat("m", impl.MaxText))
	for _, text := range texts {
		sealed, ok := impl.Sealed(text)
		if sealed != sealByBits(text) || !ok {
			t.Errorf("Sealed of %d bytes is not the text and its sum, or %v", len(text), ok)
		}
		back, ok := impl.Unsealed(sealed)
		if back != text || !ok {
			t.Errorf("Unsealed of Sealed of %d bytes: %d bytes, %v", len(text), len(back), ok)
		}
		if sharesMemory(back, sealed) {
			t.Errorf("Unsealed of Sealed of %d bytes shares memory with its argument", len(text))
		}
		twice, _ := impl.Sealed(sealed)
		if len(sealed) > impl.MaxText {
			continue
		}
		if back, ok := impl.Unsealed(twice); back != sealed || !ok {
			t.Errorf("a text of %d bytes that is sealed twice does not come back", len(text))
		}
	}
}

func TestSealsOfLongTexts(t *testing.T) {
	for _, more := range []int{1, 2, 4, 5, 1000} {
		long := strings.Repeat("m", impl.MaxText+more)
		if text, ok := impl.Sealed(long); text != "" || ok {
			t.Errorf("Sealed takes a text that is too long by %d", more)
		}
		if text, ok := impl.Unsealed(sealByBits(long)); text != "" || ok {
			t.Errorf("Unsealed takes a text that is too long by %d, its sum being right", more)
		}
	}
}

func TestOneByteTurnedIsTold(t *testing.T) {
	for _, text := range someTexts() {
		sealed, _ := impl.Sealed(text)
		for at := range len(sealed) {
			for by := 1; by < 256; by++ {
				if got, ok := impl.Unsealed(turned(sealed, at, byte(by))); got != "" || ok {
					t.Fatalf("Unsealed takes the seal of %q with byte %d turned by %d", text, at, by)
				}
			}
		}
	}
	sealed, _ := impl.Sealed(strings.Repeat("0123456789", impl.MaxText/10))
	for _, at := range []int{0, 1, 9999, impl.MaxText - 1, impl.MaxText, impl.MaxText + 1, impl.MaxText + 2, impl.MaxText + 3} {
		for by := 1; by < 256; by++ {
			if got, ok := impl.Unsealed(turned(sealed, at, byte(by))); got != "" || ok {
				t.Fatalf("Unsealed takes the seal of MaxText bytes with byte %d turned by %d", at, by)
			}
		}
	}
}

func TestUnsealedRefuses(t *testing.T) {
	list := []string{
		"", "\x00", "\xff\xff", "\xff\xff\xff", "abc", "abcd", "\x00\x00\x00\x00", "\xff\xff\xff\xfe", "\xff\xff\xff\xff\xff",
		// The right sum with its lowest byte first, ahead of the text, in figures, and with its bits turned over.
		"abc\x81\x0a\xcd\xa7", "\xa7\xcd\x0a\x81abc", "abc2815232641", "abca7cd0a81", "abc\x58\x32\xf5\x7e",
	}
	for _, text := range someTexts() {
		sealed, _ := impl.Sealed(text)
		for _, wrong := range []string{sealed[1:], sealed[:len(sealed)-1], "a" + sealed, sealed + "\x00", sealed + "\x01", sealed + "\xff", sealed + "\n"} {
			// Behind a sum of 0 bytes 0 leave it 0: there some of these are seals of other texts.
			if size := len(wrong) - 4; size < 0 || sealByBits(wrong[:size]) != wrong {
				list = append(list, wrong)
			}
		}
	}
	for _, text := range list {
		if got, ok := impl.Unsealed(text); got != "" || ok {
			t.Errorf("Unsealed(%q) = %q, %v; want nothing", text, got, ok)
		}
	}
}

// Of many sums behind one text Unsealed takes just the one that Sealed writes.
func TestUnsealedReadsNothingElse(t *testing.T) {
	right, _ := impl.Sealed("k")
	for i := range 1 << 16 {
		low := "k" + right[1:3] + string([]byte{byte(i / 256), byte(i)})
		high := "k" + string([]byte{byte(i / 256), byte(i)}) + right[3:]
		for _, text := range []string{low, high} {
			got, ok := impl.Unsealed(text)
			if ok != (text == right) || ok && got != "k" || !ok && got != "" {
				t.Fatalf("Unsealed(%q) = %q, %v", text, got, ok)
			}
		}
	}
}
