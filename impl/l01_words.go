package impl

import (
	"strconv"
	"strings"
)

const (
	MaxText   = 20000
	MaxNumber = 1000000000
	MaxWords  = 600
	MaxParts  = 10
)

const (
	hexFigures = "0123456789abcdef"
	// Each further byte of a number stands for so many times what the one ahead of it does.
	varBase = 128
	// MaxNumber has so many figures: a longer text is refused ahead of counting, so that nothing wraps round.
	maxFigures = 10
)

func VarText(n int) (string, bool) {
	if n < 0 || n > MaxNumber {
		return "", false
	}
	var out []byte
	for n >= varBase {
		out = append(out, byte(n%varBase+varBase))
		n /= varBase
	}
	out = append(out, byte(n))
	return string(out), true
}

func ReadVar(text string, at int) (int, int, bool) {
	if at < 0 || at > len(text) {
		return 0, 0, false
	}
	n, weight := 0, 1
	// A byte that weighs more than MaxNumber belongs to no number: stopping there keeps the sum from wrapping round.
	for place := at; place < len(text) && weight <= MaxNumber; place++ {
		b := int(text[place])
		n += (b % varBase) * weight
		weight *= varBase
		if b < varBase {
			// A last byte 0 behind others adds nothing: the number has a shorter form.
			shortest := b > 0 || place == at
			if !shortest || n > MaxNumber {
				return 0, 0, false
			}
			return n, place + 1, true
		}
	}
	return 0, 0, false
}

func ShortText(s string) (string, bool) {
	if len(s) > MaxText {
		return "", false
	}
	head, ok := VarText(len(s))
	return head + s, ok
}

func ReadShort(text string, at int) (string, int, bool) {
	length, from, ok := ReadVar(text, at)
	if !ok || length > MaxText || length > len(text)-from {
		return "", 0, false
	}
	behind := from + length
	return ownText(text[from:behind]), behind, true
}

// ownText is there because a piece of a text shares its bytes, and an answer shares none with an argument.
func ownText(piece string) string { return strings.Clone(piece) }

func Hex(text string) (string, bool) {
	if len(text) > MaxText {
		return "", false
	}
	out := make([]byte, 0, 2*len(text))
	for at := range len(text) {
		b := text[at]
		out = append(out, hexFigures[b/16], hexFigures[b%16])
	}
	return string(out), true
}

func Unhex(text string) (string, bool) {
	if len(text)%2 != 0 || len(text) > 2*MaxText {
		return "", false
	}
	values, ok := figureValues(text, 16)
	if !ok {
		return "", false
	}
	out := make([]byte, 0, len(text)/2)
	for at := 0; at < len(values); at += 2 {
		out = append(out, values[at]*16+values[at+1])
	}
	return string(out), true
}

// figureValues tells what each byte of text stands for as one of the first base figures; false when one is none of them.
func figureValues(text string, base int) ([]byte, bool) {
	values := make([]byte, 0, len(text))
figures:
	for at := range len(text) {
		for value := range base {
			if hexFigures[value] == text[at] {
				values = append(values, byte(value))
				continue figures
			}
		}
		return nil, false
	}
	return values, true
}

func Decimal(n int) string { return strconv.Itoa(n) }

func ReadDecimal(text string) (int, bool) {
	if text == "" || len(text) > maxFigures {
		return 0, false
	}
	if text[0] == '0' && len(text) > 1 {
		return 0, false
	}
	values, ok := figureValues(text, 10)
	if !ok {
		return 0, false
	}
	n := 0
	for _, value := range values {
		n = n*10 + int(value)
	}
	if n > MaxNumber {
		return 0, false
	}
	return n, true
}

func PartsOf(line string) ([]string, bool) {
	if len(line) > MaxWords || !plainBytes(line) {
		return nil, false
	}
	var parts []string
	for _, piece := range strings.Split(line, " ") {
		if piece != "" {
			parts = append(parts, ownText(piece))
		}
	}
	if len(parts) > MaxParts {
		return nil, false
	}
	return parts, true
}

func plainBytes(line string) bool {
	for at := range len(line) {
		if line[at] < 32 || line[at] > 126 {
			return false
		}
	}
	return true
}
