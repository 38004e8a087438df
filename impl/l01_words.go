package impl

import (
	"strconv"
	"strings"
)

const (
	MaxText   = 20000
	MaxNumber = 1000000000
	MaxWords  = 600
	MaxParts  = 10
)

// varSize is how many bytes VarText of MaxNumber has; no number needs more.
const varSize = 5

// decimalSize is how many figures MaxNumber has; no number needs more.
const decimalSize = 10

const figures = "0123456789abcdef"

func VarText(n int) (string, bool) {
	if n < 0 || n > MaxNumber {
		return "", false
	}
	var out []byte
	for n > 127 {
		out = append(out, byte(n%128+128))
		n /= 128
	}
	return string(append(out, byte(n))), true
}

func ReadVar(text string, at int) (int, int, bool) {
	if at < 0 || at > len(text) {
		return 0, 0, false
	}
	n, place := 0, 1
	for i := at; i < len(text) && i < at+varSize; i++ {
		b := int(text[i])
		n += b % 128 * place
		if b < 128 {
			// A last byte 0 adds nothing, so fewer bytes tell the same number.
			longer := b == 0 && i > at
			if longer || n > MaxNumber {
				return 0, 0, false
			}
			return n, i + 1, true
		}
		place *= 128
	}
	return 0, 0, false
}

func ShortText(s string) (string, bool) {
	if len(s) > MaxText {
		return "", false
	}
	size, _ := VarText(len(s))
	return size + s, true
}

func ReadShort(text string, at int) (string, int, bool) {
	size, from, ok := ReadVar(text, at)
	if !ok || size > MaxText || size > len(text)-from {
		return "", 0, false
	}
	// A piece of text would keep its memory: an answer is new memory.
	return strings.Clone(text[from : from+size]), from + size, true
}

func Hex(text string) (string, bool) {
	if len(text) > MaxText {
		return "", false
	}
	out := make([]byte, 0, 2*len(text))
	for i := 0; i < len(text); i++ {
		out = append(out, figures[text[i]/16], figures[text[i]%16])
	}
	return string(out), true
}

func Unhex(text string) (string, bool) {
	if len(text)%2 != 0 || len(text) > 2*MaxText {
		return "", false
	}
	out := make([]byte, 0, len(text)/2)
	for i := 0; i < len(text); i += 2 {
		n, ok := numberIn(text[i:i+2], 16)
		if !ok {
			return "", false
		}
		out = append(out, byte(n))
	}
	return string(out), true
}

func Decimal(n int) string { return strconv.Itoa(n) }

func ReadDecimal(text string) (int, bool) {
	// The length is looked at first, so that no sum of figures can wrap round.
	if text == "" || len(text) > decimalSize {
		return 0, false
	}
	if text[0] == '0' && len(text) > 1 {
		return 0, false
	}
	n, ok := numberIn(text, 10)
	if !ok || n > MaxNumber {
		return 0, false
	}
	return n, true
}

// numberIn reads all of a short text as a number in the first figures, as many as base tells; false when another byte stands there.
func numberIn(text string, base int) (int, bool) {
	n := 0
everyByte:
	for i := 0; i < len(text); i++ {
		for worth := 0; worth < base; worth++ {
			if text[i] == figures[worth] {
				n = n*base + worth
				continue everyByte
			}
		}
		return 0, false
	}
	return n, true
}

func PartsOf(line string) ([]string, bool) {
	if len(line) > MaxWords {
		return nil, false
	}
	for i := 0; i < len(line); i++ {
		if line[i] < 32 || line[i] > 126 {
			return nil, false
		}
	}
	// Fields parts at other white space, too, but none of it is left here.
	parts := strings.Fields(line)
	if len(parts) > MaxParts {
		return nil, false
	}
	for i := range parts {
		parts[i] = strings.Clone(parts[i])
	}
	return parts, true
}
