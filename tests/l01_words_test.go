package tests

import (
	"math"
	"slices"
	"strings"
	"testing"

	"loop.example/g00966/impl"
)

func TestWordsLimits(t *testing.T) {
	if impl.MaxText != 20000 || impl.MaxNumber != 1000000000 || impl.MaxWords != 600 || impl.MaxParts != 12 {
		t.Error("a limit of chapter 1 is not the document's")
	}
}

func TestHexWritesTwoFiguresForEachByte(t *testing.T) {
	for _, c := range []struct{ text, want string }{
		{"", ""},
		{"a", "61"},
		{"\x00", "00"},
		{"\x0f\xf0", "0ff0"},
		{"\x01\xff", "01ff"},
		{"\x89\xab\xcd\xef", "89abcdef"},
		{"az \n~", "617a200a7e"},
		{"é", "c3a9"},
	} {
		if got, ok := impl.Hex(c.text); got != c.want || !ok {
			t.Errorf("Hex(%q) = %q, %v; want %q, true", c.text, got, ok, c.want)
		}
	}
}

func TestHexIsReadBack(t *testing.T) {
	texts := []string{"", "a line", "\xff\xfe\x00\x80", strings.Repeat("\xa5z", impl.MaxText/2)}
	for high := range 256 {
		for low := range 256 {
			texts = append(texts, string([]byte{byte(high), byte(low)}))
		}
	}
	for _, text := range texts {
		h, ok := impl.Hex(text)
		if len(h) != 2*len(text) || !ok {
			t.Fatalf("Hex of %d bytes has %d figures, %v", len(text), len(h), ok)
		}
		if back, ok := impl.Unhex(h); back != text || !ok {
			t.Fatalf("Unhex(%.40q) = %.40q, %v", h, back, ok)
		}
	}
}

func TestHexAtItsLimit(t *testing.T) {
	most := strings.Repeat("k", impl.MaxText)
	want := strings.Repeat("6b", impl.MaxText)
	if got, ok := impl.Hex(most); got != want || !ok {
		t.Error("Hex refuses a text of MaxText bytes")
	}
	if got, ok := impl.Unhex(want); got != most || !ok {
		t.Error("Unhex refuses the Hex of a text of MaxText bytes")
	}
	if got, ok := impl.Hex(most + "k"); got != "" || ok {
		t.Errorf("Hex of one byte more than MaxText: %d figures, %v", len(got), ok)
	}
	for _, behind := range []string{"6", "6b"} {
		if got, ok := impl.Unhex(want + behind); got != "" || ok {
			t.Errorf("Unhex of %d figures: %d bytes, %v", len(want+behind), len(got), ok)
		}
	}
}

func TestUnhexRefusesWhatHexDoesNotWrite(t *testing.T) {
	for _, text := range []string{"0", "012", "0A", "FF", "0g", "g0", "0x", "0x61", "-1", " 6", "6 ", "61 62", "6\x00", "61\n", "zz", "ff0", "é", "\xff\xff", "6162g"} {
		if got, ok := impl.Unhex(text); got != "" || ok {
			t.Errorf("Unhex(%q) = %q, %v; want none", text, got, ok)
		}
	}
}

func TestUnhexOfAnyTwoBytes(t *testing.T) {
	for high := range 256 {
		for low := range 256 {
			text := string([]byte{byte(high), byte(low)})
			got, ok := impl.Unhex(text)
			figures := isFigure(byte(high)) && isFigure(byte(low))
			if ok != figures || !ok && got != "" {
				t.Fatalf("Unhex(%q) = %q, %v", text, got, ok)
			}
			if h, _ := impl.Hex(got); ok && h != text {
				t.Fatalf("Unhex(%q) = %q, whose Hex is %q", text, got, h)
			}
		}
	}
}

func isFigure(b byte) bool {
	return b >= '0' && b <= '9' || b >= 'a' && b <= 'f'
}

func TestDecimalOfEveryInt(t *testing.T) {
	for _, c := range []struct {
		n    int
		want string
	}{
		{0, "0"},
		{1, "1"},
		{9, "9"},
		{10, "10"},
		{100, "100"},
		{1203, "1203"},
		{-1, "-1"},
		{-10, "-10"},
		{-30, "-30"},
		{impl.MaxNumber, "1000000000"},
		{impl.MaxNumber + 1, "1000000001"},
		{-impl.MaxNumber, "-1000000000"},
		{math.MaxInt, "9223372036854775807"},
		{math.MinInt + 1, "-9223372036854775807"},
		{math.MinInt, "-9223372036854775808"},
	} {
		if got := impl.Decimal(c.n); got != c.want {
			t.Errorf("Decimal(%d) = %q; want %q", c.n, got, c.want)
		}
	}
}

func TestDecimalIsReadBackWithinItsLimits(t *testing.T) {
	numbers := []int{0, impl.MaxNumber - 1, impl.MaxNumber}
	for n := 1; n < impl.MaxNumber; n = n*3/2 + 1 {
		numbers = append(numbers, n)
	}
	for n := range 12000 {
		numbers = append(numbers, n, impl.MaxNumber-n)
	}
	for _, n := range numbers {
		if got, ok := impl.ReadDecimal(impl.Decimal(n)); got != n || !ok {
			t.Fatalf("ReadDecimal(Decimal(%d)) = %d, %v", n, got, ok)
		}
	}
}

func TestReadDecimalRefusesWhatIsBeyondItsLimits(t *testing.T) {
	for _, n := range []int{-1, -7, -impl.MaxNumber, math.MinInt, impl.MaxNumber + 1, 10 * impl.MaxNumber, 1 << 32, math.MaxInt} {
		if got, ok := impl.ReadDecimal(impl.Decimal(n)); got != 0 || ok {
			t.Errorf("ReadDecimal(Decimal(%d)) = %d, %v; want none", n, got, ok)
		}
	}
}

func TestReadDecimalRefusesWhatDecimalDoesNotWrite(t *testing.T) {
	for _, text := range []string{
		"", "-", "+", " ", ".",
		"00", "01", "007", "0000000001", "01000000000", "-0", "-00", "+0", "+5", "--5",
		" 5", "5 ", "5\n", "1 2", "1_000", "1,000", "1.0", "1e3", "0x10", "0b1", "0o7",
		"a", "5a", "a5", "1000000000x", "5\x00", "٣", "５",
		"9223372036854775808", "18446744073709551616", "18446744073709551621",
		strings.Repeat("9", 30000), strings.Repeat("0", 30000),
	} {
		if got, ok := impl.ReadDecimal(text); got != 0 || ok {
			t.Errorf("ReadDecimal(%.40q) = %d, %v; want none", text, got, ok)
		}
	}
}

func TestPartsOfStandBetweenBlanks(t *testing.T) {
	for _, c := range []struct {
		line string
		want []string
	}{
		{"", nil},
		{" ", nil},
		{"     ", nil},
		{strings.Repeat(" ", impl.MaxWords), nil},
		{"a", []string{"a"}},
		{"run 1 2", []string{"run", "1", "2"}},
		{"  a bc ", []string{"a", "bc"}},
		{"a    b", []string{"a", "b"}},
		{" a", []string{"a"}},
		{"a ", []string{"a"}},
		{"! ~", []string{"!", "~"}},
		{"a a a", []string{"a", "a", "a"}},
		{"x=(y,\"z\"); {#}", []string{"x=(y,\"z\");", "{#}"}},
	} {
		if got, ok := impl.PartsOf(c.line); !slices.Equal(got, c.want) || !ok {
			t.Errorf("PartsOf(%.40q) = %q, %v; want %q, true", c.line, got, ok, c.want)
		}
	}
}

func TestPartsOfAtTheMostBytes(t *testing.T) {
	one := strings.Repeat("w", impl.MaxWords)
	two := strings.Repeat("w", impl.MaxWords-2) + " v"
	if got, ok := impl.PartsOf(one); !slices.Equal(got, []string{one}) || !ok {
		t.Error("PartsOf refuses a line of one part of MaxWords bytes")
	}
	if got, ok := impl.PartsOf(two); !slices.Equal(got, []string{two[:impl.MaxWords-2], "v"}) || !ok {
		t.Error("PartsOf refuses a line of two parts of MaxWords bytes")
	}
	for _, line := range []string{one + "w", one + " ", two + "v", " " + two, strings.Repeat(" ", impl.MaxWords+1)} {
		if got, ok := impl.PartsOf(line); len(got) != 0 || ok {
			t.Errorf("PartsOf of %d bytes: %d parts, %v; want none", len(line), len(got), ok)
		}
	}
}

func TestPartsOfAtTheMostParts(t *testing.T) {
	want := make([]string, impl.MaxParts)
	for i := range want {
		want[i] = impl.Decimal(i)
	}
	most := strings.Join(want, " ")
	for _, line := range []string{most, most + "   ", "   " + most, strings.Join(want, "   ")} {
		if got, ok := impl.PartsOf(line); !slices.Equal(got, want) || !ok {
			t.Errorf("PartsOf(%q) = %q, %v; want all its parts, true", line, got, ok)
		}
	}
	for _, line := range []string{most + " x", "x " + most, most + " x ", strings.Repeat("x ", impl.MaxWords/2)} {
		if got, ok := impl.PartsOf(line); len(got) != 0 || ok {
			t.Errorf("PartsOf(%.60q) = %d parts, %v; want none", line, len(got), ok)
		}
	}
}

func TestPartsOfRefusesBytesThatMayNotBeThere(t *testing.T) {
	for b := range 256 {
		bad := string([]byte{byte(b)})
		for _, line := range []string{bad, bad + "a", "a" + bad, "a " + bad + " b", "a b " + bad} {
			got, ok := impl.PartsOf(line)
			if ok != (b >= 32 && b <= 126) {
				t.Errorf("PartsOf(%q) = %q, %v", line, got, ok)
			}
			if !ok && len(got) != 0 {
				t.Errorf("PartsOf(%q) has parts beside its false: %q", line, got)
			}
			if ok && strings.Join(got, "") != strings.ReplaceAll(line, " ", "") {
				t.Errorf("PartsOf(%q) = %q: bytes are lost", line, got)
			}
		}
	}
}

func TestPartsOfIsNewEachTime(t *testing.T) {
	first, _ := impl.PartsOf("a b")
	first[0] = "changed"
	_ = append(first, "behind")
	if again, ok := impl.PartsOf("a b"); !slices.Equal(again, []string{"a", "b"}) || !ok {
		t.Errorf("PartsOf hangs on what was done to an earlier answer: %q, %v", again, ok)
	}
}

func TestBrought(t *testing.T) {
	for _, c := range []struct{ n, least, most, want int }{
		{5, 1, 9, 5},
		{1, 1, 9, 1},
		{9, 1, 9, 9},
		{0, 1, 9, 1},
		{10, 1, 9, 9},
		{-7, -5, -3, -5},
		{0, -5, -3, -3},
		{4, 4, 4, 4},
		{3, 4, 4, 4},
		{5, 4, 4, 4},
		{5, 7, 3, 7},
		{1, 7, 3, 7},
		{9, 7, 3, 7},
		{7, 7, 3, 7},
		{3, 7, 3, 7},
		{math.MinInt, math.MinInt, math.MaxInt, math.MinInt},
		{math.MaxInt, math.MinInt, math.MaxInt, math.MaxInt},
		{math.MinInt, 0, 1, 0},
		{math.MaxInt, 0, 1, 1},
		{0, math.MaxInt, math.MinInt, math.MaxInt},
	} {
		if got := impl.Brought(c.n, c.least, c.most); got != c.want {
			t.Errorf("Brought(%d, %d, %d) = %d; want %d", c.n, c.least, c.most, got, c.want)
		}
	}
}

func TestWhatIsBroughtBetweenStaysBetween(t *testing.T) {
	for least := -6; least <= 6; least++ {
		for most := least; most <= 6; most++ {
			for n := -8; n <= 8; n++ {
				got := impl.Brought(n, least, most)
				if got < least || got > most || n >= least && n <= most && got != n {
					t.Fatalf("Brought(%d, %d, %d) = %d", n, least, most, got)
				}
				if again := impl.Brought(got, least, most); again != got {
					t.Fatalf("Brought(%d, %d, %d) = %d, which does not stay", got, least, most, again)
				}
			}
		}
	}
}
