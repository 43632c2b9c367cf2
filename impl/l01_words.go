package impl

import (
	"strconv"
	"strings"
)

const (
	MaxText   = 20000
	MaxNumber = 1000000000
	MaxWords  = 600
	MaxParts  = 12
)

const hexFigures = "0123456789abcdef"

func Hex(text string) (string, bool) {
	if len(text) > MaxText {
		return "", false
	}
	out := make([]byte, 0, 2*len(text))
	for i := range len(text) {
		b := text[i]
		out = append(out, hexFigures[b>>4], hexFigures[b&15])
	}
	return string(out), true
}

func Unhex(text string) (string, bool) {
	// A text above MaxText has no Hex, so figures for one are read as none.
	if len(text)%2 != 0 || len(text) > 2*MaxText {
		return "", false
	}
	out := make([]byte, 0, len(text)/2)
	for i := 0; i < len(text); i += 2 {
		high := strings.IndexByte(hexFigures, text[i])
		low := strings.IndexByte(hexFigures, text[i+1])
		if high < 0 || low < 0 {
			return "", false
		}
		out = append(out, byte(high<<4|low))
	}
	return string(out), true
}

func Decimal(n int) string {
	return strconv.Itoa(n)
}

func ReadDecimal(text string) (int, bool) {
	n, err := strconv.Atoi(text)
	if err != nil || n < 0 || n > MaxNumber {
		return 0, false
	}
	// Atoi also takes a sign ahead and needless noughts, which Decimal never writes.
	if Decimal(n) != text {
		return 0, false
	}
	return n, true
}

func PartsOf(line string) ([]string, bool) {
	if len(line) > MaxWords {
		return nil, false
	}
	var parts []string
	begin, at := 0, 0
scan:
	for at < len(line) {
		switch b := line[at]; {
		case b < 32 || b > 126:
			break scan
		case b == ' ':
			parts = withPart(parts, line[begin:at])
			begin = at + 1
		}
		at++
	}
	if at < len(line) {
		return nil, false
	}
	parts = withPart(parts, line[begin:])
	if len(parts) > MaxParts {
		return nil, false
	}
	return parts, true
}

// Between two blanks that touch, and beside one at an end of the line, there is nothing to be a part.
func withPart(parts []string, part string) []string {
	if part == "" {
		return parts
	}
	return append(parts, part)
}

func Brought(n int, least int, most int) int {
	// The least is held against last, so that it counts where most is below it.
	return max(least, min(n, most))
}
