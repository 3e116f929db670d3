package impl

import (
	"strconv"
	"strings"
)

const (
	MaxText   = 20000
	MaxNumber = 1000000000
	MaxWords  = 600
	MaxParts  = 10
)

const hexFigures = "0123456789abcdef"

func VarText(n int) (string, bool) {
	if n < 0 || n > MaxNumber {
		return "", false
	}
	out := []byte{}
	for ; n > 127; n /= 128 {
		out = append(out, byte(n%128)+128)
	}
	out = append(out, byte(n))
	return string(out), true
}

func ReadVar(text string, at int) (int, int, bool) {
	if at < 0 || at > len(text) {
		return 0, 0, false
	}
	n := 0
	// A byte whose unit is above MaxNumber can only make the number too great or its form too long;
	// to stop there also keeps n and unit from wrapping round.
	for i, unit := at, 1; i < len(text) && unit <= MaxNumber; i, unit = i+1, unit*128 {
		c := int(text[i])
		n += c % 128 * unit
		if c > 127 {
			continue
		}
		longer := c == 0 && i > at
		if longer || n > MaxNumber {
			return 0, 0, false
		}
		return n, i + 1, true
	}
	return 0, 0, false
}

func ShortText(s string) (string, bool) {
	if len(s) > MaxText {
		return "", false
	}
	size, ok := VarText(len(s))
	return size + s, ok
}

func ReadShort(text string, at int) (string, int, bool) {
	size, from, ok := ReadVar(text, at)
	if !ok || size > MaxText || size > len(text)-from {
		return "", 0, false
	}
	// A piece of text would keep the whole of it in memory; an answer shares none with an argument.
	return strings.Clone(text[from : from+size]), from + size, true
}

func Hex(text string) (string, bool) {
	if len(text) > MaxText {
		return "", false
	}
	out := make([]byte, 0, 2*len(text))
	for i := range len(text) {
		out = append(out, hexFigures[text[i]/16], hexFigures[text[i]%16])
	}
	return string(out), true
}

func Unhex(text string) (string, bool) {
	if len(text) > 2*MaxText {
		return "", false
	}
	out := make([]byte, 0, len(text)/2)
	high := byte(0)
figures:
	for i := range len(text) {
		value := byte(0)
		switch c := text[i]; {
		case '0' <= c && c <= '9':
			value = c - '0'
		case 'a' <= c && c <= 'f':
			value = c - 'a' + 10
		default:
			break figures
		}
		if i%2 == 0 {
			high = value
			continue figures
		}
		out = append(out, high*16+value)
	}
	if 2*len(out) < len(text) { // a figure without its fellow, or a byte that is no figure
		return "", false
	}
	return string(out), true
}

func Decimal(n int) string {
	return strconv.Itoa(n)
}

func ReadDecimal(text string) (int, bool) {
	n, read := 0, 0
figures:
	for read < len(text) {
		c := text[read]
		switch {
		case c < '0' || c > '9':
			break figures
		case n == 0 && read > 0: // the figure ahead is a needless nought
			break figures
		}
		n = n*10 + int(c-'0')
		if n > MaxNumber { // at once, so that no length of text makes n wrap round
			break figures
		}
		read++
	}
	if read == 0 || read < len(text) {
		return 0, false
	}
	return n, true
}

func PartsOf(line string) ([]string, bool) {
	if len(line) > MaxWords || !isPlain(line) {
		return nil, false
	}
	// Fields knows more blanks than the byte 32, but a plain line has none of them.
	parts := strings.Fields(line)
	if len(parts) > MaxParts {
		return nil, false
	}
	for i, part := range parts {
		parts[i] = strings.Clone(part)
	}
	return parts, true
}

func isPlain(line string) bool {
	for i := range len(line) {
		if line[i] < 32 || line[i] > 126 {
			return false
		}
	}
	return true
}
