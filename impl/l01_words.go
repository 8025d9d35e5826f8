package impl

import (
	"strconv"
	"strings"
)

const (
	MaxText   = 20000
	MaxNumber = 1000000000
	MaxWords  = 600
	MaxParts  = 10
)

// maxVarBytes is the length of VarText of MaxNumber: no number is read from more bytes, so that a long row of bytes above 127 can't make the sum wrap round.
const maxVarBytes = 5

const hexFigures = "0123456789abcdef"

func VarText(n int) (string, bool) {
	if n < 0 || n > MaxNumber {
		return "", false
	}
	out := []byte{}
	for n > 127 {
		out = append(out, byte(n%128+128))
		n /= 128
	}
	return string(append(out, byte(n))), true
}

func ReadVar(text string, at int) (int, int, bool) {
	if at < 0 || at > len(text) {
		return 0, 0, false
	}
	n, scale := 0, 1
	for i := at; i < len(text) && i < at+maxVarBytes; i++ {
		n += int(text[i]%128) * scale
		if text[i] <= 127 {
			// A last byte of 0 behind others adds nothing: it is a longer form.
			if n > MaxNumber || i > at && text[i] == 0 {
				return 0, 0, false
			}
			return n, i + 1, true
		}
		scale *= 128
	}
	return 0, 0, false
}

func ShortText(s string) (string, bool) {
	if len(s) > MaxText {
		return "", false
	}
	size, ok := VarText(len(s))
	return size + s, ok
}

func ReadShort(text string, at int) (string, int, bool) {
	size, from, ok := ReadVar(text, at)
	if !ok || size > MaxText || size > len(text)-from {
		return "", 0, false
	}
	to := from + size
	return strings.Clone(text[from:to]), to, true
}

func Hex(text string) (string, bool) {
	if len(text) > MaxText {
		return "", false
	}
	out := make([]byte, 0, 2*len(text))
	for i := 0; i < len(text); i++ {
		out = append(out, hexFigures[text[i]/16], hexFigures[text[i]%16])
	}
	return string(out), true
}

func Unhex(text string) (string, bool) {
	if len(text)%2 != 0 || len(text) > 2*MaxText {
		return "", false
	}
	out := make([]byte, 0, len(text)/2)
pairs:
	for i := 0; i < len(text); i += 2 {
		value := byte(0)
		for j := i; j < i+2; j++ {
			half, ok := hexValue(text[j])
			if !ok {
				break pairs
			}
			value = value*16 + half
		}
		out = append(out, value)
	}
	if len(out) < len(text)/2 {
		return "", false
	}
	return string(out), true
}

// hexValue takes small letters alone, as Hex writes no others.
func hexValue(figure byte) (byte, bool) {
	switch {
	case figure >= '0' && figure <= '9':
		return figure - '0', true
	case figure >= 'a' && figure <= 'f':
		return figure - 'a' + 10, true
	}
	return 0, false
}

func Decimal(n int) string {
	return strconv.Itoa(n)
}

func ReadDecimal(text string) (int, bool) {
	if text == "" || len(text) > 1 && text[0] == '0' {
		return 0, false
	}
	n, read := 0, 0
figures:
	for read < len(text) {
		switch figure := text[read]; {
		case figure >= '0' && figure <= '9' && n <= MaxNumber:
			n = n*10 + int(figure-'0')
			read++
		default:
			break figures
		}
	}
	if read < len(text) || n > MaxNumber {
		return 0, false
	}
	return n, true
}

func PartsOf(line string) ([]string, bool) {
	if len(line) > MaxWords || !plainBytes(line) {
		return []string{}, false
	}
	// Of all white space a plain line has blanks alone, so that Fields cuts at nothing else.
	parts := strings.Fields(line)
	if len(parts) > MaxParts {
		return []string{}, false
	}
	// A part of its own doesn't hold the whole line.
	for i, part := range parts {
		parts[i] = strings.Clone(part)
	}
	return parts, true
}

// plainBytes tells whether all bytes are in 32 .. 126.
func plainBytes(text string) bool {
	for i := 0; i < len(text); i++ {
		if text[i] < 32 || text[i] > 126 {
			return false
		}
	}
	return true
}
