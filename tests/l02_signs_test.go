package tests

import (
	"slices"
	"strings"
	"testing"

	"loop.example/g00966/impl"
)

var noNames = []string{"and", "call", "else", "globals", "if", "lock", "locks", "not", "proc", "skip", "spawn", "unlock", "while"}

var allMarks = []string{"{", "}", "(", ")", ";", ",", "=", "==", "<", "+", "-", "*"}

var allBlanks = []string{" ", "\t", "\n", "\r"}

func name(text string, at int) impl.Sign {
	return impl.Sign{Kind: impl.SgName, Text: text, At: at}
}

func number(text string, at int) impl.Sign {
	return impl.Sign{Kind: impl.SgNumber, Text: text, At: at}
}

func mark(text string, at int) impl.Sign {
	return impl.Sign{Kind: impl.SgMark, Text: text, At: at}
}

func wantSigns(t *testing.T, s string, want []impl.Sign) {
	t.Helper()
	if got, f := impl.Lex(s); !slices.Equal(got, want) || f != (impl.Fault{}) {
		t.Errorf("Lex(%.60q) = %v, %v; want %v and no fault", s, got, f, want)
	}
}

func wantFault(t *testing.T, s string, code int, at int) {
	t.Helper()
	if got, f := impl.Lex(s); len(got) != 0 || f != (impl.Fault{Code: code, At: at}) {
		t.Errorf("Lex(%.60q) = %d signs, %v; want none and fault %d at %d", s, len(got), f, code, at)
	}
}

func isBlankByte(b byte) bool {
	return b == ' ' || b == '\t' || b == '\n' || b == '\r'
}

func isLetterByte(b byte) bool {
	return b >= 'a' && b <= 'z'
}

func isFigureByte(b byte) bool {
	return b >= '0' && b <= '9'
}

func TestSignsConstants(t *testing.T) {
	if impl.SgName != 1 || impl.SgNumber != 2 || impl.SgMark != 3 {
		t.Error("a kind of chapter 2 is not the document's")
	}
	if impl.MaxSource != 6000 || impl.MaxName != 12 || impl.FtLong != 1 || impl.FtSign != 2 {
		t.Error("a limit or a code of chapter 2 is not the document's")
	}
}

func TestIsName(t *testing.T) {
	for _, s := range []string{"a", "z", "x1", "a0", "z9", "a1b2", "abcdefghijkl", "a12345678901", "ands", "an", "calls", "els", "else1", "global", "globalsx", "i", "iff", "lock1", "loc", "nots", "process", "skipx", "spawned", "unlocks", "awhile", "whiles", "true", "sign"} {
		if !impl.IsName(s) {
			t.Errorf("IsName(%q) is false", s)
		}
	}
	for _, s := range []string{"", " ", "1", "1a", "0", "9z", "A", "aB", "If", "IF", "a_b", "_a", "a ", " a", "a b", "a\n", "a\x00", "\x00", "a-b", "a;", "é", "aé", "x１", "abcdefghijklm", "a123456789012", strings.Repeat("a", 5000), strings.Repeat("a", 30000)} {
		if impl.IsName(s) {
			t.Errorf("IsName(%.40q) is true", s)
		}
	}
	for _, s := range noNames {
		if impl.IsName(s) {
			t.Errorf("IsName(%q) is true", s)
		}
		if !impl.IsName(s + "1") {
			t.Errorf("IsName(%q) is false", s+"1")
		}
	}
}

func TestIsNameOfAnyBytes(t *testing.T) {
	for first := range 256 {
		one := string([]byte{byte(first)})
		if impl.IsName(one) != isLetterByte(byte(first)) {
			t.Errorf("IsName(%q) = %v", one, impl.IsName(one))
		}
		for next := range 256 {
			two := string([]byte{byte(first), byte(next)})
			want := isLetterByte(byte(first)) && (isLetterByte(byte(next)) || isFigureByte(byte(next))) && two != "if"
			if impl.IsName(two) != want {
				t.Errorf("IsName(%q) = %v", two, !want)
			}
		}
	}
}

func TestIsMark(t *testing.T) {
	for _, s := range allMarks {
		if !impl.IsMark(s) {
			t.Errorf("IsMark(%q) is false", s)
		}
	}
	for first := range 256 {
		one := string([]byte{byte(first)})
		if impl.IsMark(one) != slices.Contains(allMarks, one) {
			t.Errorf("IsMark(%q) = %v", one, impl.IsMark(one))
		}
		for next := range 256 {
			two := string([]byte{byte(first), byte(next)})
			if impl.IsMark(two) != (two == "==") {
				t.Errorf("IsMark(%q) = %v", two, impl.IsMark(two))
			}
		}
	}
	for _, s := range []string{"", "===", "====", " = ", "{}{", "a", "if", "12", "≤"} {
		if impl.IsMark(s) {
			t.Errorf("IsMark(%q) is true", s)
		}
	}
}

func TestLexTellsKindTextAndPlace(t *testing.T) {
	wantSigns(t, "x1 == (12)", []impl.Sign{name("x1", 0), mark("==", 3), mark("(", 6), number("12", 7), mark(")", 9)})
	wantSigns(t, "globals a, b;\nlocks m;\n", []impl.Sign{name("globals", 0), name("a", 8), mark(",", 9), name("b", 11), mark(";", 12), name("locks", 14), name("m", 20), mark(";", 21)})
	wantSigns(t, "while(a<3){a=(a+1);}", []impl.Sign{
		name("while", 0), mark("(", 5), name("a", 6), mark("<", 7), number("3", 8), mark(")", 9), mark("{", 10),
		name("a", 11), mark("=", 12), mark("(", 13), name("a", 14), mark("+", 15), number("1", 16), mark(")", 17), mark(";", 18), mark("}", 19)})
	wantSigns(t, "0", []impl.Sign{number("0", 0)})
	wantSigns(t, "a", []impl.Sign{name("a", 0)})
	wantSigns(t, "-1", []impl.Sign{mark("-", 0), number("1", 1)})
	wantSigns(t, "x*y-2", []impl.Sign{name("x", 0), mark("*", 1), name("y", 2), mark("-", 3), number("2", 4)})
	wantSigns(t, "a1b 2", []impl.Sign{name("a1b", 0), number("2", 4)})
	wantSigns(t, "{}(),;=<+-*==", []impl.Sign{
		mark("{", 0), mark("}", 1), mark("(", 2), mark(")", 3), mark(",", 4), mark(";", 5), mark("=", 6), mark("<", 7), mark("+", 8), mark("-", 9), mark("*", 10), mark("==", 11)})
}

func TestLexOfWordsThatAreNoNames(t *testing.T) {
	for _, word := range noNames {
		wantSigns(t, word, []impl.Sign{name(word, 0)})
		wantSigns(t, "("+word+")", []impl.Sign{mark("(", 0), name(word, 1), mark(")", 1+len(word))})
		wantSigns(t, word+"1 "+word, []impl.Sign{name(word+"1", 0), name(word, 2+len(word))})
	}
}

func TestLexOfMarksThatStandTogether(t *testing.T) {
	wantSigns(t, "=", []impl.Sign{mark("=", 0)})
	wantSigns(t, "==", []impl.Sign{mark("==", 0)})
	wantSigns(t, "===", []impl.Sign{mark("==", 0), mark("=", 2)})
	wantSigns(t, "====", []impl.Sign{mark("==", 0), mark("==", 2)})
	wantSigns(t, "=====", []impl.Sign{mark("==", 0), mark("==", 2), mark("=", 4)})
	wantSigns(t, "= ==", []impl.Sign{mark("=", 0), mark("==", 2)})
	wantSigns(t, "== =", []impl.Sign{mark("==", 0), mark("=", 3)})
	wantSigns(t, "a==b", []impl.Sign{name("a", 0), mark("==", 1), name("b", 3)})
	wantSigns(t, "<=", []impl.Sign{mark("<", 0), mark("=", 1)})
	wantSigns(t, "=<", []impl.Sign{mark("=", 0), mark("<", 1)})
	wantSigns(t, "((--", []impl.Sign{mark("(", 0), mark("(", 1), mark("-", 2), mark("-", 3)})
	for _, blank := range allBlanks {
		wantSigns(t, "="+blank+"=", []impl.Sign{mark("=", 0), mark("=", 2)})
	}
}

func TestLexOfBlanksAloneOrOfNothing(t *testing.T) {
	wantSigns(t, "", nil)
	wantSigns(t, " \t\n\r\r\n\t ", nil)
	for _, blank := range allBlanks {
		wantSigns(t, blank, nil)
		wantSigns(t, strings.Repeat(blank, impl.MaxSource), nil)
	}
}

func TestLexOfBlanksAtEachPlace(t *testing.T) {
	for _, blank := range allBlanks {
		wantSigns(t, blank+"ab", []impl.Sign{name("ab", 1)})
		wantSigns(t, "ab"+blank, []impl.Sign{name("ab", 0)})
		wantSigns(t, "a"+blank+"b", []impl.Sign{name("a", 0), name("b", 2)})
		wantSigns(t, "1"+blank+"2", []impl.Sign{number("1", 0), number("2", 2)})
		wantSigns(t, "1"+blank+"a", []impl.Sign{number("1", 0), name("a", 2)})
		wantSigns(t, blank+blank+"a"+blank+blank+";"+blank+blank, []impl.Sign{name("a", 2), mark(";", 5)})
	}
}

func TestLexOfEachByteAlone(t *testing.T) {
	for i := range 256 {
		b := byte(i)
		s := string([]byte{b})
		switch {
		case isBlankByte(b):
			wantSigns(t, s, nil)
		case isLetterByte(b):
			wantSigns(t, s, []impl.Sign{name(s, 0)})
		case isFigureByte(b):
			wantSigns(t, s, []impl.Sign{number(s, 0)})
		case slices.Contains(allMarks, s):
			wantSigns(t, s, []impl.Sign{mark(s, 0)})
		default:
			wantFault(t, s, impl.FtSign, 0)
		}
	}
}

func TestLexRefusesAByteThatBeginsNoSign(t *testing.T) {
	for i := range 256 {
		b := byte(i)
		s := string([]byte{b})
		if isBlankByte(b) || isLetterByte(b) || isFigureByte(b) || slices.Contains(allMarks, s) {
			continue
		}
		wantFault(t, s+" a", impl.FtSign, 0)
		wantFault(t, "ab"+s, impl.FtSign, 2)
		wantFault(t, "12"+s+"3", impl.FtSign, 2)
		wantFault(t, "==="+s, impl.FtSign, 3)
		wantFault(t, " \n"+s+" ", impl.FtSign, 2)
		wantFault(t, "a = 1; "+s, impl.FtSign, 7)
	}
}

func TestLexRefusesCapitalLettersAndOtherWriting(t *testing.T) {
	wantFault(t, "A", impl.FtSign, 0)
	wantFault(t, "aBc", impl.FtSign, 1)
	wantFault(t, "1A", impl.FtSign, 1)
	wantFault(t, "a_b", impl.FtSign, 1)
	wantFault(t, "a = é", impl.FtSign, 4)
	wantFault(t, "a\u00a0b", impl.FtSign, 1)
	wantFault(t, "a\vb", impl.FtSign, 1)
	wantFault(t, "a\fb", impl.FtSign, 1)
	wantFault(t, "a\x00", impl.FtSign, 1)
	wantFault(t, "a\x7f", impl.FtSign, 1)
	wantFault(t, "a != b", impl.FtSign, 2)
	wantFault(t, "a > b", impl.FtSign, 2)
	wantFault(t, "a // b", impl.FtSign, 2)
	wantFault(t, "1.5", impl.FtSign, 1)
}

func TestLexOfNamesAtTheMostLength(t *testing.T) {
	for _, most := range []string{"abcdefghijkl", "a12345678901", "lockslockslo", strings.Repeat("z", impl.MaxName)} {
		wantSigns(t, most, []impl.Sign{name(most, 0)})
		wantSigns(t, " "+most+";", []impl.Sign{name(most, 1), mark(";", 13)})
		for _, behind := range []string{"a", "z", "0", "9", strings.Repeat("q", 300)} {
			wantFault(t, most+behind, impl.FtSign, 0)
			wantFault(t, "(x "+most+behind+" y", impl.FtSign, 3)
		}
		wantSigns(t, most+" a", []impl.Sign{name(most, 0), name("a", 13)})
	}
}

func TestLexOfNumbersAtTheirMost(t *testing.T) {
	for _, text := range []string{"0", "1", "9", "10", "907", "999999999", "1000000000"} {
		wantSigns(t, text, []impl.Sign{number(text, 0)})
		wantSigns(t, "x="+text+";", []impl.Sign{name("x", 0), mark("=", 1), number(text, 2), mark(";", 2+len(text))})
	}
	for _, text := range []string{"1000000001", "1000000010", "9999999999", "10000000000", "9223372036854775808", "18446744073709551616", strings.Repeat("1", 500)} {
		wantFault(t, text, impl.FtSign, 0)
		wantFault(t, "x="+text+";", impl.FtSign, 2)
	}
}

func TestLexRefusesNeedlessNoughts(t *testing.T) {
	for _, text := range []string{"00", "01", "007", "0000000000", "01000000000", strings.Repeat("0", 40)} {
		wantFault(t, text, impl.FtSign, 0)
		wantFault(t, "a + "+text, impl.FtSign, 4)
	}
	wantSigns(t, "0 0 7", []impl.Sign{number("0", 0), number("0", 2), number("7", 4)})
}

func TestLexRefusesAFigureThatLettersFollow(t *testing.T) {
	for _, text := range []string{"1a", "12ab", "0x10", "1e3", "0z", "9lock", "1if", "3a4", "1000000000a"} {
		wantFault(t, text, impl.FtSign, 0)
		wantFault(t, "("+text+")", impl.FtSign, 1)
		wantFault(t, "a "+text+" %", impl.FtSign, 2)
	}
	wantSigns(t, "a1 1 a", []impl.Sign{name("a1", 0), number("1", 3), name("a", 5)})
}

func TestLexTellsTheFirstFault(t *testing.T) {
	long := strings.Repeat("n", impl.MaxName+1)
	wantFault(t, "a % 01 "+long, impl.FtSign, 2)
	wantFault(t, "a 01 % "+long, impl.FtSign, 2)
	wantFault(t, "a "+long+" % 01", impl.FtSign, 2)
	wantFault(t, "%%", impl.FtSign, 0)
	wantFault(t, "01%", impl.FtSign, 0)
	wantFault(t, long+"%", impl.FtSign, 0)
}

func TestLexAtTheMostBytes(t *testing.T) {
	marks := strings.Repeat(";", impl.MaxSource)
	want := make([]impl.Sign, impl.MaxSource)
	for i := range want {
		want[i] = mark(";", i)
	}
	wantSigns(t, marks, want)
	wantSigns(t, strings.Repeat(" ", impl.MaxSource-1)+"a", []impl.Sign{name("a", impl.MaxSource-1)})
	wantSigns(t, "a"+strings.Repeat("\n", impl.MaxSource-1), []impl.Sign{name("a", 0)})
	wantFault(t, marks[1:]+"%", impl.FtSign, impl.MaxSource-1)
	wantFault(t, marks+";", impl.FtLong, 0)
	wantFault(t, marks+" ", impl.FtLong, 0)
	wantFault(t, strings.Repeat("\r", impl.MaxSource+1), impl.FtLong, 0)
	wantFault(t, strings.Repeat("a\n", 5*impl.MaxSource), impl.FtLong, 0)
}

func TestLexTellsThatATextIsTooLongBeforeItsSigns(t *testing.T) {
	wantFault(t, "%"+strings.Repeat(" ", impl.MaxSource), impl.FtLong, 0)
	wantFault(t, " 01"+strings.Repeat(" ", impl.MaxSource), impl.FtLong, 0)
	wantFault(t, strings.Repeat("a", impl.MaxSource+1), impl.FtLong, 0)
	wantFault(t, strings.Repeat("a", impl.MaxSource), impl.FtSign, 0)
}

// Rows of signs that are like one another in no rule: the next one is picked by a number that is multiplied on.
func rowOfSigns(seed int, size int) []string {
	var words []string
	words = append(words, allMarks...)
	words = append(words, noNames...)
	words = append(words, "a", "b1", "x", "zzzzzzzzzzzz", "a00000000000", "0", "7", "10", "1000000000")
	row := make([]string, size)
	for i := range row {
		seed = (seed*1103 + 12345) % 1000003
		row[i] = words[seed%len(words)]
	}
	return row
}

func kindOf(text string) int {
	switch b := text[0]; {
	case isLetterByte(b):
		return impl.SgName
	case isFigureByte(b):
		return impl.SgNumber
	}
	return impl.SgMark
}

func isWordLike(text string) bool {
	return kindOf(text) != impl.SgMark
}

func growTogether(a string, b string) bool {
	return isWordLike(a) && isWordLike(b) || a == "=" && (b == "=" || b == "==")
}

func wantRow(t *testing.T, s string, row []string) {
	t.Helper()
	got, f := impl.Lex(s)
	if len(got) != len(row) || f != (impl.Fault{}) {
		t.Fatalf("Lex(%.60q) = %d signs, %v; want %d and no fault", s, len(got), f, len(row))
	}
	behind := 0
	for i, sign := range got {
		if sign.Text != row[i] || sign.Kind != kindOf(row[i]) {
			t.Fatalf("sign %d of %.60q is %v; want %q", i, s, sign, row[i])
		}
		if sign.At < behind || !strings.HasPrefix(s[sign.At:], sign.Text) || strings.Trim(s[behind:sign.At], " \t\n\r") != "" {
			t.Fatalf("sign %d of %.60q is not at %d", i, s, sign.At)
		}
		behind = sign.At + len(sign.Text)
	}
}

func TestSignsAreTheSameWhateverBlanksAreBetween(t *testing.T) {
	gaps := []string{" ", "\t", "\n", "\r", "\r\n", "    ", "\n \t\r", " \n\n "}
	for seed := range 300 {
		row := rowOfSigns(seed, 1+seed%40)
		for _, gap := range gaps {
			wantRow(t, strings.Join(row, gap), row)
			wantRow(t, gap+strings.Join(row, gap)+gap, row)
		}
		mixed, tight := "", ""
		for i, text := range row {
			mixed += gaps[(seed+i)%len(gaps)] + text
			if i > 0 && growTogether(row[i-1], text) {
				tight += gaps[(seed+i)%len(gaps)]
			}
			tight += text
		}
		wantRow(t, mixed, row)
		wantRow(t, tight, row)
	}
}

func TestFaultsAreTheSameWhateverBlanksAreBetween(t *testing.T) {
	for _, bad := range []string{"%", "Z", "01", "1a", "1000000001", "abcdefghijklm", "\x00", "\xff"} {
		for _, gap := range []string{" ", "\t", "\n", "\r", "\r\n", " \n\t "} {
			wantFault(t, gap+bad+gap, impl.FtSign, len(gap))
			ahead := strings.Join([]string{"a", "=", "==", "7", "if", ";", ""}, gap)
			wantFault(t, ahead+bad+gap+"%", impl.FtSign, len(ahead))
		}
	}
}

func TestLexIsNewEachTime(t *testing.T) {
	first, _ := impl.Lex("a = 1;")
	first[0] = impl.Sign{}
	_ = append(first[:1], mark("*", 9))
	wantSigns(t, "a = 1;", []impl.Sign{name("a", 0), mark("=", 2), number("1", 4), mark(";", 5)})
}
