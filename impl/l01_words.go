package impl

import (
	"strconv"
	"strings"
)

const (
	MaxText   = 20000
	MaxNumber = 1000000000
	MaxWords  = 600
	MaxParts  = 10
)

// No number up to MaxNumber takes more bytes than this; to read no further keeps a number from wrapping round.
const longestVar = 5

const hexFigures = "0123456789abcdef"

func VarText(n int) (string, bool) {
	if n < 0 || n > MaxNumber {
		return "", false
	}
	var out []byte
	for n > 127 {
		out = append(out, byte(n%128+128))
		n /= 128
	}
	return string(append(out, byte(n))), true
}

func ReadVar(text string, at int) (int, int, bool) {
	if at < 0 || at > len(text) {
		return 0, 0, false
	}
	n, scale := 0, 1
	for i := at; i < min(len(text), at+longestVar); i++ {
		b := int(text[i])
		n += b % 128 * scale
		scale *= 128
		if b > 127 {
			continue
		}
		// A last byte of 0 behind others adds nothing: it makes a longer form.
		if n > MaxNumber || b == 0 && i > at {
			break
		}
		return n, i + 1, true
	}
	return 0, 0, false
}

func ShortText(s string) (string, bool) {
	if len(s) > MaxText {
		return "", false
	}
	size, ok := VarText(len(s))
	return size + s, ok
}

func ReadShort(text string, at int) (string, int, bool) {
	size, from, ok := ReadVar(text, at)
	if !ok || size > MaxText || size > len(text)-from {
		return "", 0, false
	}
	return strings.Clone(text[from : from+size]), from + size, true
}

func Hex(text string) (string, bool) {
	if len(text) > MaxText {
		return "", false
	}
	out := make([]byte, 0, 2*len(text))
	for i := range len(text) {
		out = append(out, hexFigures[text[i]/16], hexFigures[text[i]%16])
	}
	return string(out), true
}

func Unhex(text string) (string, bool) {
	if len(text)%2 != 0 || len(text) > 2*MaxText {
		return "", false
	}
	out := make([]byte, 0, len(text)/2)
figures:
	for at := 0; at < len(text); at += 2 {
		whole := 0
		for i := at; i < at+2; i++ {
			half := strings.IndexByte(hexFigures, text[i])
			if half < 0 {
				break figures
			}
			whole = whole*16 + half
		}
		out = append(out, byte(whole))
	}
	if len(out) < len(text)/2 {
		return "", false
	}
	return string(out), true
}

func Decimal(n int) string {
	return strconv.Itoa(n)
}

func ReadDecimal(text string) (int, bool) {
	n, read := 0, 0
figures:
	for read < len(text) && n <= MaxNumber {
		b := text[read]
		switch {
		case b < '0' || b > '9':
			break figures
		case read == 1 && n == 0: // a figure behind a nought that stands first: that one is needless
			break figures
		}
		n = n*10 + int(b-'0')
		read++
	}
	if read == 0 || read < len(text) || n > MaxNumber {
		return 0, false
	}
	return n, true
}

func PartsOf(line string) ([]string, bool) {
	if len(line) > MaxWords || !allPlain(line) {
		return nil, false
	}
	// Of the bytes 32 .. 126 the blank is the only one at which Fields cuts.
	parts := strings.Fields(line)
	if len(parts) > MaxParts {
		return nil, false
	}
	for i, part := range parts {
		parts[i] = strings.Clone(part)
	}
	return parts, true
}

func allPlain(text string) bool {
	for i := range len(text) {
		if text[i] < 32 || text[i] > 126 {
			return false
		}
	}
	return true
}
