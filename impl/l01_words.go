package impl

import (
	"strconv"
	"strings"
)

const (
	MaxText   = 20000
	MaxNumber = 1000000000
	MaxWords  = 600
	MaxParts  = 10
)

const hexFigures = "0123456789abcdef"

func VarText(n int) (string, bool) {
	if n < 0 || n > MaxNumber {
		return "", false
	}
	var out []byte
	for n > 127 {
		out = append(out, byte(n%128+128))
		n /= 128
	}
	return string(append(out, byte(n))), true
}

func ReadVar(text string, at int) (int, int, bool) {
	if at < 0 || at > len(text) {
		return 0, 0, false
	}
	n, weight := 0, 1
figures:
	for i := at; i < len(text); i++ {
		b := int(text[i])
		switch {
		case weight > MaxNumber:
			// Whatever comes is too great or a longer form; going on would wrap the weight round.
			break figures
		case b > 127:
			n += (b - 128) * weight
			weight *= 128
		case b == 0 && i > at:
			// VarText never ends with a needless nought: without it the same number is shorter.
			break figures
		case n+b*weight > MaxNumber:
			break figures
		default:
			return n + b*weight, i + 1, true
		}
	}
	return 0, 0, false
}

func ShortText(s string) (string, bool) {
	if len(s) > MaxText {
		return "", false
	}
	head, ok := VarText(len(s))
	return head + s, ok
}

func ReadShort(text string, at int) (string, int, bool) {
	n, from, ok := ReadVar(text, at)
	if !ok || n > MaxText || n > len(text)-from {
		return "", 0, false
	}
	// A piece of text would share its memory with the argument.
	return strings.Clone(text[from : from+n]), from + n, true
}

func Hex(text string) (string, bool) {
	if len(text) > MaxText {
		return "", false
	}
	out := make([]byte, 0, 2*len(text))
	for i := range len(text) {
		out = append(out, hexFigures[text[i]/16], hexFigures[text[i]%16])
	}
	return string(out), true
}

func Unhex(text string) (string, bool) {
	if len(text)%2 != 0 || len(text) > 2*MaxText {
		return "", false
	}
	out := make([]byte, 0, len(text)/2)
	for i := 0; i < len(text); i += 2 {
		high := strings.IndexByte(hexFigures, text[i])
		low := strings.IndexByte(hexFigures, text[i+1])
		if high < 0 || low < 0 {
			return "", false
		}
		out = append(out, byte(high*16+low))
	}
	return string(out), true
}

func Decimal(n int) string {
	return strconv.Itoa(n)
}

func ReadDecimal(text string) (int, bool) {
	n := 0
figures:
	for i := range len(text) {
		c := text[i]
		switch {
		case c < '0' || c > '9':
			break figures
		case n == 0 && i > 0:
			// All figures so far are noughts, and one follows: Decimal would leave them out.
			break figures
		}
		n = n*10 + int(c-'0')
		switch {
		case n > MaxNumber:
			// Stopping here keeps figures of any number from wrapping n round.
			break figures
		case i == len(text)-1:
			return n, true
		}
	}
	return 0, false
}

func PartsOf(line string) ([]string, bool) {
	if len(line) > MaxWords {
		return nil, false
	}
	for i := range len(line) {
		if line[i] < 32 || line[i] > 126 {
			return nil, false
		}
	}
	// The byte 32 is the only white space that is left, so Fields cuts at nothing else.
	parts := strings.Fields(line)
	if len(parts) > MaxParts {
		return nil, false
	}
	for i := range parts {
		// Fields hands out pieces of the line, which would share its memory.
		parts[i] = strings.Clone(parts[i])
	}
	return parts, true
}
