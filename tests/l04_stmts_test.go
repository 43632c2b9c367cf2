package tests

import (
	"math"
	"slices"
	"strconv"
	"strings"
	"testing"

	"loop.example/g00966/impl"
)

var stmtKinds = []int{impl.StSet, impl.StIf, impl.StWhile, impl.StCall, impl.StSpawn, impl.StLock, impl.StUnlock, impl.StSkip}

var wordKinds = map[int]string{impl.StCall: "call", impl.StSpawn: "spawn", impl.StLock: "lock", impl.StUnlock: "unlock"}

var noStmtKinds = []int{0, -1, -2, -8, 9, 10, 60, 100, math.MinInt, math.MaxInt}

var skip = impl.Stmt{Kind: impl.StSkip}

func set(name string, term impl.Term) impl.Stmt {
	return impl.Stmt{Kind: impl.StSet, Name: name, Term: term}
}

func word(kind int, name string) impl.Stmt {
	return impl.Stmt{Kind: kind, Name: name}
}

func while(term impl.Term, body ...impl.Stmt) impl.Stmt {
	return impl.Stmt{Kind: impl.StWhile, Term: term, Body: body}
}

func when(term impl.Term, body ...impl.Stmt) impl.Stmt {
	return impl.Stmt{Kind: impl.StIf, Term: term, Body: body}
}

func orElse(s impl.Stmt, other ...impl.Stmt) impl.Stmt {
	s.Else = other
	return s
}

func skips(many int) []impl.Stmt {
	return slices.Repeat([]impl.Stmt{skip}, many)
}

// Ways to stand around a statement, each one StIf or StWhile more.
func aroundStmtWays() []func(impl.Stmt) impl.Stmt {
	return []func(impl.Stmt) impl.Stmt{
		func(s impl.Stmt) impl.Stmt { return while(num(1), s) },
		func(s impl.Stmt) impl.Stmt { return while(read("x"), skip, s, skip) },
		func(s impl.Stmt) impl.Stmt { return when(num(1), s) },
		func(s impl.Stmt) impl.Stmt { return orElse(when(read("x"), skip, s), word(impl.StLock, "a")) },
		func(s impl.Stmt) impl.Stmt { return orElse(when(num(1)), s) },
		func(s impl.Stmt) impl.Stmt { return orElse(when(num(0), set("x", num(1))), skip, s) },
	}
}

// A right statement of each kind, and more of those with others within them.
func rightStmts() []impl.Stmt {
	return []impl.Stmt{
		set("x", num(1)), set("abcdefghijkl", pair(impl.TmAdd, read("x"), num(1))),
		when(read("x")), when(num(0), skip), orElse(when(num(1)), skip), orElse(when(num(1), skip), skip, skip),
		while(num(1)), while(not(read("x")), set("x", num(0))),
		word(impl.StCall, "p"), word(impl.StSpawn, "p"), word(impl.StLock, "a"), word(impl.StUnlock, "a"), skip,
	}
}

// Statements of which each is wrong by one thing alone.
func wrongStmts() []impl.Stmt {
	wrong := []impl.Stmt{{}, {Name: "x"}, {Term: num(1)}, {Body: skips(1)}, {Else: skips(1)}, set("x", impl.Term{}), while(impl.Term{}), when(impl.Term{})}
	noTerms := []impl.Term{num(1), read("x"), {Num: 1}, {Num: -1}, {Name: "x"}, {Name: " "}, {Kids: []impl.Term{{}}}, {Kind: impl.TmNot}, {Kind: -1}}
	for _, right := range rightStmts() {
		for _, kind := range noStmtKinds {
			other := right
			other.Kind = kind
			wrong = append(wrong, other)
		}
		wrong = append(wrong, withNoNames(right)...)
		for _, term := range noTerms {
			if right.Term.Kind == 0 {
				wrong = append(wrong, withTerm(right, term))
			}
		}
		for _, term := range wrongTerms() {
			if right.Term.Kind != 0 {
				wrong = append(wrong, withTerm(right, term))
			}
		}
		wrong = append(wrong, withListsTooMany(right)...)
	}
	return wrong
}

func withTerm(s impl.Stmt, term impl.Term) impl.Stmt {
	s.Term = term
	return s
}

// Where there is to be a Name, none; and where there is to be none, one.
func withNoNames(s impl.Stmt) []impl.Stmt {
	names := []string{"x", "main", " ", "if", "\x00"}
	if s.Name != "" {
		names = append([]string{"", "1x", "X", "a b", "x ", " x", "abcdefghijklm", "é", "+", "7", "x;"}, noNames...)
	}
	var wrong []impl.Stmt
	for _, name := range names {
		s.Name = name
		wrong = append(wrong, s)
	}
	return wrong
}

// A Body or an Else where there is to be none.
func withListsTooMany(s impl.Stmt) []impl.Stmt {
	var wrong []impl.Stmt
	for _, list := range [][]impl.Stmt{{skip}, {{}}, {set("x", num(1)), skip}} {
		body, other := s, s
		body.Body, other.Else = list, list
		if s.Kind != impl.StIf && s.Kind != impl.StWhile {
			wrong = append(wrong, body)
		}
		if s.Kind != impl.StIf {
			wrong = append(wrong, other)
		}
	}
	return wrong
}

func wantStmts(t *testing.T, list []impl.Stmt, by int, want string) {
	t.Helper()
	for _, s := range list {
		if !impl.StmtOk(s) {
			t.Errorf("%v is not right", s)
		}
	}
	if got := impl.StmtsText(list, by); got != want {
		t.Errorf("StmtsText by %d is %q; want %q", by, got, want)
	}
}

func wantWrongStmt(t *testing.T, s impl.Stmt, what string) {
	t.Helper()
	if impl.StmtOk(s) {
		t.Errorf("%s is right", what)
	}
	for _, list := range [][]impl.Stmt{{s}, {skip, s}, {s, skip}, {skip, s, skip}} {
		for _, by := range []int{0, 1, 20} {
			if got := impl.StmtsText(list, by); got != "" {
				t.Errorf("StmtsText by %d of a list of %d with what is not right, %s, is %q", by, len(list), what, got)
			}
		}
	}
}

func wantCount(t *testing.T, list []impl.Stmt, want int) {
	t.Helper()
	if got := impl.CountIn(list); got != want {
		t.Errorf("CountIn a list of %d is %d; want %d", len(list), got, want)
	}
}

func wantNamesIn(t *testing.T, list []impl.Stmt, kind int, want ...string) {
	t.Helper()
	if got := impl.NamesIn(list, kind); !slices.Equal(got, want) {
		t.Errorf("NamesIn a list of %d of kind %d is %q; want %q", len(list), kind, got, want)
	}
}

func TestStmtsConstants(t *testing.T) {
	if !slices.Equal(stmtKinds, []int{1, 2, 3, 4, 5, 6, 7, 8}) || impl.MaxStmts != 60 {
		t.Error("a kind or a limit of chapter 4 is not the document's")
	}
}

func TestStmtsTextOfEachKind(t *testing.T) {
	for _, by := range []int{0, 1, 2, 7, 19, 20} {
		ahead := strings.Repeat(" ", by)
		wantStmts(t, []impl.Stmt{set("x", num(1))}, by, ahead+"x = 1;\n")
		wantStmts(t, []impl.Stmt{set("y2", pair(impl.TmAnd, read("x"), not(num(0))))}, by, ahead+"y2 = (x and (not 0));\n")
		for kind, text := range wordKinds {
			wantStmts(t, []impl.Stmt{word(kind, "abcdefghijkl")}, by, ahead+text+" abcdefghijkl;\n")
		}
		wantStmts(t, []impl.Stmt{skip}, by, ahead+"skip;\n")
		wantStmts(t, []impl.Stmt{while(read("x"))}, by, ahead+"while x {\n"+ahead+"}\n")
		wantStmts(t, []impl.Stmt{when(pair(impl.TmLess, read("x"), num(2)))}, by, ahead+"if (x < 2) {\n"+ahead+"}\n")
		wantStmts(t, []impl.Stmt{while(num(1), skip)}, by, ahead+"while 1 {\n"+ahead+" skip;\n"+ahead+"}\n")
		wantStmts(t, []impl.Stmt{when(num(1), skip)}, by, ahead+"if 1 {\n"+ahead+" skip;\n"+ahead+"}\n")
		wantStmts(t, []impl.Stmt{orElse(when(num(1)), skip)}, by, ahead+"if 1 {\n"+ahead+"} else {\n"+ahead+" skip;\n"+ahead+"}\n")
		wantStmts(t, []impl.Stmt{orElse(when(num(1), skip), skip, skip)}, by, ahead+"if 1 {\n"+ahead+" skip;\n"+ahead+"} else {\n"+ahead+" skip;\n"+ahead+" skip;\n"+ahead+"}\n")
	}
}

func TestStmtsTextOfThoseWithinOthers(t *testing.T) {
	list := []impl.Stmt{
		set("x", num(0)),
		while(pair(impl.TmLess, read("x"), num(3)),
			word(impl.StLock, "a"),
			orElse(when(pair(impl.TmSame, read("x"), num(1)), word(impl.StCall, "p"), while(num(0))), when(read("y"), skip), word(impl.StSpawn, "q")),
			word(impl.StUnlock, "a")),
		skip,
	}
	lines := []string{
		"x = 0;",
		"while (x < 3) {",
		" lock a;",
		" if (x == 1) {",
		"  call p;",
		"  while 0 {",
		"  }",
		" } else {",
		"  if y {",
		"   skip;",
		"  }",
		"  spawn q;",
		" }",
		" unlock a;",
		"}",
		"skip;",
	}
	for _, by := range []int{0, 1, 5, 20} {
		ahead := strings.Repeat(" ", by)
		wantStmts(t, list, by, ahead+strings.Join(lines, "\n"+ahead)+"\n")
	}
	wantCount(t, list, 11)
}

func TestStmtsTextByItsLimits(t *testing.T) {
	for _, by := range []int{-1, -2, -20, 21, 22, 1000, math.MinInt, math.MaxInt} {
		for _, list := range [][]impl.Stmt{nil, {}, {skip}, rightStmts()} {
			if got := impl.StmtsText(list, by); got != "" {
				t.Errorf("StmtsText by %d is %q", by, got)
			}
		}
	}
	for _, by := range []int{0, 20} {
		wantStmts(t, nil, by, "")
		wantStmts(t, []impl.Stmt{}, by, "")
		wantStmts(t, []impl.Stmt{skip, skip}, by, strings.Repeat(" ", by)+"skip;\n"+strings.Repeat(" ", by)+"skip;\n")
	}
}

func TestStmtsTextWithMoreBlanksThanBy(t *testing.T) {
	for _, by := range []int{15, 19, 20} {
		for _, around := range []func(impl.Stmt) impl.Stmt{
			func(s impl.Stmt) impl.Stmt { return while(num(1), s) },
			func(s impl.Stmt) impl.Stmt { return orElse(when(num(1)), s) },
		} {
			var ahead, behind []string
			for deep := range impl.MaxDeep {
				blanks := strings.Repeat(" ", by+deep)
				if len(around(skip).Else) > 0 {
					ahead = append(ahead, blanks+"if 1 {\n"+blanks+"} else {\n")
				} else {
					ahead = append(ahead, blanks+"while 1 {\n")
				}
				behind = append([]string{blanks + "}\n"}, behind...)
			}
			want := strings.Join(ahead, "") + strings.Repeat(" ", by+impl.MaxDeep) + "skip;\n" + strings.Join(behind, "")
			wantStmts(t, []impl.Stmt{nested(impl.MaxDeep, skip, around)}, by, want)
		}
	}
}

func TestStmtsThatAreRight(t *testing.T) {
	for _, s := range rightStmts() {
		if !impl.StmtOk(s) || impl.StmtsText([]impl.Stmt{s}, 0) == "" {
			t.Errorf("%v is not right", s)
		}
	}
}

func TestStmtsWithEmptyListsAndNil(t *testing.T) {
	for _, s := range rightStmts() {
		empty := s
		if len(s.Body) == 0 {
			empty.Body = []impl.Stmt{}
		}
		if len(s.Else) == 0 {
			empty.Else = make([]impl.Stmt, 0, 3)
		}
		if len(s.Term.Kids) == 0 {
			empty.Term.Kids = []impl.Term{}
		}
		wantStmts(t, []impl.Stmt{empty}, 3, impl.StmtsText([]impl.Stmt{s}, 3))
		wantSameStmts(t, []impl.Stmt{s}, []impl.Stmt{empty}, true)
	}
}

func TestStmtsThatAreWrong(t *testing.T) {
	for i, wrong := range wrongStmts() {
		wantWrongStmt(t, wrong, "wrong statement "+strconv.Itoa(i))
	}
}

func TestStmtsThatAreWrongWithin(t *testing.T) {
	for i, wrong := range wrongStmts() {
		for j, around := range aroundStmtWays() {
			for _, deep := range []int{1, 2, impl.MaxDeep - 1} {
				wantWrongStmt(t, nested(deep, wrong, around), "wrong statement "+strconv.Itoa(i)+" within "+strconv.Itoa(deep)+" of way "+strconv.Itoa(j))
			}
		}
	}
}

// What is within a statement that may have nothing within it is not right, be it ever so right by itself.
func TestStmtsWithinThoseThatHaveNoLists(t *testing.T) {
	for _, kind := range append([]int{impl.StSet, impl.StSkip}, noStmtKinds...) {
		for _, right := range rightStmts() {
			s := impl.Stmt{Kind: kind, Body: []impl.Stmt{right}}
			if kind == impl.StSet {
				s.Name, s.Term = "x", num(1)
			}
			wantWrongStmt(t, s, "a Body in kind "+strconv.Itoa(kind))
			s.Body, s.Else = nil, s.Body
			wantWrongStmt(t, s, "an Else in kind "+strconv.Itoa(kind))
		}
	}
	for _, right := range rightStmts() {
		wantWrongStmt(t, orElse(while(num(1)), right), "an Else in a StWhile")
	}
}

func TestStmtsAtTheMostDeep(t *testing.T) {
	for i, around := range aroundStmtWays() {
		for _, inner := range []impl.Stmt{skip, set("x", num(1)), word(impl.StCall, "p")} {
			most := nested(impl.MaxDeep, inner, around)
			if !impl.StmtOk(most) || impl.StmtsText([]impl.Stmt{most}, 0) == "" {
				t.Errorf("way %d is not right %d deep", i, impl.MaxDeep)
			}
			for j, beyond := range aroundStmtWays() {
				wantWrongStmt(t, beyond(most), "one too deep, way "+strconv.Itoa(j)+" around way "+strconv.Itoa(i))
			}
		}
		for _, inner := range []impl.Stmt{while(num(1)), when(num(1)), orElse(when(num(1)), skip)} {
			if !impl.StmtOk(nested(impl.MaxDeep-1, inner, around)) {
				t.Errorf("an empty one within way %d is not right %d deep", i, impl.MaxDeep)
			}
			wantWrongStmt(t, nested(impl.MaxDeep, inner, around), "an empty one too deep within way "+strconv.Itoa(i))
		}
	}
}

func TestStmtsOfWhichOneSideIsDeep(t *testing.T) {
	most := nested(impl.MaxDeep-1, skip, aroundStmtWays()[0])
	if s := orElse(when(num(1), most, skip, most), most, most); !impl.StmtOk(s) {
		t.Error("a StIf that is as deep as may be on both sides is not right")
	}
	deeper := while(num(1), most)
	if !impl.StmtOk(deeper) {
		t.Error("a StWhile that is as deep as may be is not right")
	}
	wantWrongStmt(t, when(num(1), deeper), "a Body too deep")
	wantWrongStmt(t, when(num(1), skip, skip, deeper), "a Body too deep at its end")
	wantWrongStmt(t, orElse(when(num(1), skip), deeper), "an Else too deep")
	wantWrongStmt(t, orElse(when(num(1), skip), skip, deeper, skip), "an Else too deep in its midst")
}

// How deep a term is has nothing to do with how deep its statement stands.
func TestStmtsWithTermsAtTheMostDeep(t *testing.T) {
	most := nested(impl.MaxDeep, read("x"), not)
	for i, around := range aroundStmtWays() {
		for _, s := range []impl.Stmt{set("x", most), while(most), when(most, skip)} {
			deep := impl.MaxDeep - 1
			if !impl.StmtOk(nested(deep, s, around)) {
				t.Errorf("a term %d deep is not right within %d of way %d", impl.MaxDeep, deep, i)
			}
			wantWrongStmt(t, nested(deep, withTerm(s, not(most)), around), "a term too deep within way "+strconv.Itoa(i))
		}
	}
}

func TestStmtsAtTheMostMany(t *testing.T) {
	half := (impl.MaxStmts - 1) / 2
	for _, row := range []struct{ most, more impl.Stmt }{
		{while(num(1), skips(impl.MaxStmts-1)...), while(num(1), skips(impl.MaxStmts)...)},
		{when(num(1), skips(impl.MaxStmts-1)...), when(num(1), skips(impl.MaxStmts)...)},
		{orElse(when(num(1)), skips(impl.MaxStmts-1)...), orElse(when(num(1)), skips(impl.MaxStmts)...)},
		{orElse(when(num(1), skips(half)...), skips(half+1)...), orElse(when(num(1), skips(half+1)...), skips(half+1)...)},
		{while(num(1), while(num(1), skips(impl.MaxStmts-2)...)), while(num(1), while(num(1), skips(impl.MaxStmts-1)...))},
		{while(num(1), while(num(1), skips(impl.MaxStmts-3)...), skip), while(num(1), while(num(1), skips(impl.MaxStmts-2)...), skip)},
		{when(num(1), slices.Repeat([]impl.Stmt{while(num(1), skip)}, half)...), when(num(1), slices.Repeat([]impl.Stmt{while(num(1), skip)}, half+1)...)},
	} {
		if count := impl.CountIn([]impl.Stmt{row.most}); !impl.StmtOk(row.most) || count != impl.MaxStmts && count != impl.MaxStmts-1 {
			t.Errorf("a statement of %d is not right", count)
		}
		if impl.StmtsText([]impl.Stmt{row.most}, 20) == "" {
			t.Error("there is no text of a statement of the most that may be")
		}
		if count := impl.CountIn([]impl.Stmt{row.more}); count != impl.MaxStmts+1 {
			t.Errorf("one too many are %d", count)
		}
		wantWrongStmt(t, row.more, "a statement of one too many")
	}
	wantWrongStmt(t, while(num(1), skips(100000)...), "a statement of far too many")
}

// What may be no more than MaxStmts is what is in one statement; a list has no such limit.
func TestStmtsTextOfListsOfMoreThanTheMost(t *testing.T) {
	most := while(num(1), skips(impl.MaxStmts-1)...)
	text := "while 1 {\n" + strings.Repeat(" skip;\n", impl.MaxStmts-1) + "}\n"
	wantStmts(t, []impl.Stmt{most, most, most}, 0, strings.Repeat(text, 3))
	wantStmts(t, skips(impl.MaxStmts+1), 0, strings.Repeat("skip;\n", impl.MaxStmts+1))
	wantStmts(t, skips(20000), 1, strings.Repeat(" skip;\n", 20000))
}

func TestCountIn(t *testing.T) {
	wantCount(t, nil, 0)
	wantCount(t, []impl.Stmt{}, 0)
	wantCount(t, skips(3)[:0], 0)
	wantCount(t, skips(1), 1)
	wantCount(t, skips(impl.MaxStmts), impl.MaxStmts)
	wantCount(t, skips(impl.MaxStmts+1), impl.MaxStmts+1)
	wantCount(t, skips(100000), 100000)
	wantCount(t, rightStmts(), 19)
	wantCount(t, []impl.Stmt{while(num(1))}, 1)
	wantCount(t, []impl.Stmt{while(num(1), skip), skip}, 3)
	wantCount(t, []impl.Stmt{orElse(when(num(1), skip, skip), skip)}, 4)
	wantCount(t, []impl.Stmt{orElse(when(num(1)), skips(5)...)}, 6)
	wantCount(t, []impl.Stmt{while(num(1), while(num(1), orElse(when(num(1), skip), skip, while(num(1)))))}, 6)
	same := while(num(1), skip, skip)
	wantCount(t, []impl.Stmt{same, same, when(num(1), same, same)}, 13)
}

func TestCountInOfStmtsThatAreNotRight(t *testing.T) {
	wantCount(t, []impl.Stmt{{}}, 1)
	wantCount(t, []impl.Stmt{{}, {Kind: -1}, {Kind: 99, Name: "%"}}, 3)
	for _, kind := range append(noStmtKinds, stmtKinds...) {
		s := impl.Stmt{Kind: kind, Name: "1", Term: impl.Term{Kind: 77}, Body: []impl.Stmt{{}, skip}, Else: []impl.Stmt{{Body: []impl.Stmt{{}}}}}
		wantCount(t, []impl.Stmt{s}, 5)
		wantCount(t, []impl.Stmt{s, s}, 10)
	}
	for i, around := range aroundStmtWays() {
		count := impl.CountIn([]impl.Stmt{around(skip)})
		if got := impl.CountIn([]impl.Stmt{nested(1000, impl.Stmt{}, around)}); got != 1000*(count-1)+1 {
			t.Errorf("1000 of way %d are %d", i, got)
		}
	}
	wantCount(t, []impl.Stmt{nested(200000, skip, aroundStmtWays()[4])}, 200001)
}

// Statements of which each has the same ones twice are more than can be gone through one by one.
func TestStmtsThatShareTheirLists(t *testing.T) {
	double := func(s impl.Stmt) impl.Stmt {
		list := []impl.Stmt{s}
		return orElse(when(num(1), list...), list...)
	}
	for deep, want := range map[int]int{1: 3, 2: 7, 5: 63, 20: 1<<21 - 1, 61: 1<<62 - 1, 62: math.MaxInt, 63: math.MaxInt, 1000: math.MaxInt} {
		wantCount(t, []impl.Stmt{nested(deep, skip, double)}, want)
	}
	if !impl.StmtOk(nested(4, skip, double)) {
		t.Error("31 statements, some of them shared, are not right")
	}
	wantNamesIn(t, []impl.Stmt{nested(4, word(impl.StLock, "a"), double)}, impl.StLock, "a")
	for _, deep := range []int{5, 7, 60, 1000} {
		most := nested(deep, word(impl.StLock, "a"), double)
		wantWrongStmt(t, most, "what shares its lists, "+strconv.Itoa(deep)+" deep")
		wantNamesIn(t, []impl.Stmt{most}, impl.StLock)
		wantSameStmts(t, []impl.Stmt{most}, []impl.Stmt{nested(deep, word(impl.StLock, "a"), double)}, true)
		wantSameStmts(t, []impl.Stmt{most}, []impl.Stmt{nested(deep, word(impl.StLock, "b"), double)}, false)
	}
	wide := func(s impl.Stmt) impl.Stmt { return while(num(1), slices.Repeat([]impl.Stmt{s}, 1000)...) }
	wantCount(t, []impl.Stmt{nested(3, skip, wide)}, 1001001001)
	wantWrongStmt(t, nested(impl.MaxDeep, skip, wide), "what is wide and deep")
}

// A list that stands within itself, behind around others, in the Body or the Else.
func knottedStmts(around int, inElse bool, kind int) []impl.Stmt {
	list := make([]impl.Stmt, 1)
	inner := impl.Stmt{Kind: kind, Term: num(1)}
	if inElse {
		inner.Else = list
	} else {
		inner.Body = list
	}
	list[0] = nested(around-1, inner, func(s impl.Stmt) impl.Stmt {
		if inElse {
			return impl.Stmt{Kind: kind, Term: num(1), Else: []impl.Stmt{s}}
		}
		return impl.Stmt{Kind: kind, Term: num(1), Body: []impl.Stmt{s}}
	})
	return list
}

func TestStmtsThatStandWithinThemselves(t *testing.T) {
	for _, kind := range []int{impl.StIf, impl.StWhile, impl.StSet, 0} {
		for _, inElse := range []bool{false, true} {
			for _, around := range []int{1, 2, 5} {
				list := knottedStmts(around, inElse, kind)
				wantWrongStmt(t, list[0], "a statement within itself")
				wantWrongStmt(t, while(num(1), list...), "what has a statement that is within itself")
				wantCount(t, list, math.MaxInt)
				wantCount(t, []impl.Stmt{skip, while(num(1), skip, list[0])}, math.MaxInt)
				wantNamesIn(t, list, kind)
				wantKnotsSame(t, list, knottedStmts(around+1, inElse, kind), true)
				wantKnotsSame(t, list, knottedStmts(around, !inElse, kind), false)
				wantKnotsSame(t, list, knottedStmts(around, inElse, kind+1), false)
				wantKnotsSame(t, list, list[0].Body, !inElse)
				wantKnotsSame(t, list, []impl.Stmt{when(num(1), skip)}, false)
			}
		}
	}
}

func wantKnotsSame(t *testing.T, a []impl.Stmt, b []impl.Stmt, want bool) {
	t.Helper()
	if impl.SameStmts(a, b) != want || impl.SameStmts(b, a) != want {
		t.Errorf("SameStmts of what stands within itself is not %v", want)
	}
}

func TestNamesInOfEachKind(t *testing.T) {
	list := rightStmts()
	wantNamesIn(t, list, impl.StSet, "x", "abcdefghijkl")
	wantNamesIn(t, list, impl.StCall, "p")
	wantNamesIn(t, list, impl.StSpawn, "p")
	wantNamesIn(t, list, impl.StLock, "a")
	wantNamesIn(t, list, impl.StUnlock, "a")
	for _, kind := range noStmtKinds {
		wantNamesIn(t, list, kind)
	}
	for _, kind := range append(noStmtKinds, stmtKinds...) {
		wantNamesIn(t, nil, kind)
		wantNamesIn(t, []impl.Stmt{}, kind)
	}
	// What a StSkip, a StIf and a StWhile have as Name is the empty text.
	wantNamesIn(t, list, impl.StSkip, "")
	wantNamesIn(t, list[:len(list)-1], impl.StIf, "")
	wantNamesIn(t, list[:3], impl.StWhile)
}

func TestNamesInInOrderEachOnce(t *testing.T) {
	lock := func(name string) impl.Stmt { return word(impl.StLock, name) }
	wantNamesIn(t, []impl.Stmt{lock("b"), lock("a"), lock("b"), lock("c"), lock("a")}, impl.StLock, "b", "a", "c")
	wantNamesIn(t, []impl.Stmt{lock("b"), while(num(1), lock("a"), lock("b")), lock("a"), lock("c")}, impl.StLock, "b", "a", "c")
	wantNamesIn(t, []impl.Stmt{while(num(1), lock("a")), lock("b"), lock("a")}, impl.StLock, "a", "b")
	wantNamesIn(t, []impl.Stmt{orElse(when(num(1), lock("b")), lock("a"), lock("b")), lock("c")}, impl.StLock, "b", "a", "c")
	wantNamesIn(t, []impl.Stmt{orElse(when(num(1)), lock("b")), orElse(when(num(1), lock("b"), lock("d")), lock("a"))}, impl.StLock, "b", "d", "a")
	wantNamesIn(t, []impl.Stmt{while(num(1), orElse(when(num(1), while(num(1), lock("e"))), lock("d")), lock("c")), lock("b"), lock("e")}, impl.StLock, "e", "d", "c", "b")
	wantNamesIn(t, []impl.Stmt{lock("a"), word(impl.StUnlock, "b"), word(impl.StCall, "c"), set("d", read("e")), lock("f")}, impl.StLock, "a", "f")
	wantNamesIn(t, []impl.Stmt{set("d", read("e")), set("e", read("f")), set("d", num(1))}, impl.StSet, "d", "e")
}

func TestNamesInOfStmtsThatAreNotRight(t *testing.T) {
	list := []impl.Stmt{
		{Kind: impl.StCall, Name: "%", Body: []impl.Stmt{{Kind: impl.StCall, Name: "if"}, {Kind: impl.StLock, Name: "no"}}},
		{Kind: impl.StCall}, {Kind: 0, Name: "x", Else: []impl.Stmt{{Kind: impl.StCall, Name: "far too long a name"}, {Kind: -7, Name: "y"}}},
		{Kind: impl.StCall, Name: "%"}, {Kind: impl.StSkip, Name: "z", Term: impl.Term{Kind: 99}},
	}
	wantNamesIn(t, list, impl.StCall, "%", "if", "", "far too long a name")
	wantNamesIn(t, list, 0, "x")
	wantNamesIn(t, list, -7, "y")
	wantNamesIn(t, list, impl.StSkip, "z")
	wantNamesIn(t, list, impl.StSpawn)
	deep := nested(impl.MaxStmts-1, word(impl.StLock, "a"), func(s impl.Stmt) impl.Stmt { return while(num(1), s) })
	wantNamesIn(t, []impl.Stmt{deep}, impl.StLock, "a")
	wantNamesIn(t, []impl.Stmt{while(num(1), deep)}, impl.StLock)
}

func TestNamesInAtTheMostMany(t *testing.T) {
	var list []impl.Stmt
	var names []string
	for i := range impl.MaxStmts {
		names = append(names, "n"+strconv.Itoa(i))
		list = append(list, word(impl.StCall, names[i]))
	}
	wantNamesIn(t, list, impl.StCall, names...)
	wantNamesIn(t, append(list, word(impl.StCall, "n0")), impl.StCall)
	wantNamesIn(t, append(list, skip), impl.StCall)
	wantNamesIn(t, []impl.Stmt{while(num(1), list[1:]...)}, impl.StCall, names[1:]...)
	wantNamesIn(t, []impl.Stmt{while(num(1), list...)}, impl.StCall)
	wantNamesIn(t, []impl.Stmt{orElse(when(num(1), list[:30]...), list[31:]...)}, impl.StCall, slices.Delete(slices.Clone(names), 30, 31)...)
	wantNamesIn(t, []impl.Stmt{orElse(when(num(1), list[:30]...), list[30:]...)}, impl.StCall)
	wantNamesIn(t, append(skips(impl.MaxStmts-1), list[0]), impl.StCall, "n0")
	wantNamesIn(t, append(skips(impl.MaxStmts), list[0]), impl.StCall)
	wantNamesIn(t, skips(100000), impl.StSkip)
}

func TestNamesInIsNewEachTime(t *testing.T) {
	list := []impl.Stmt{word(impl.StLock, "a"), word(impl.StLock, "b")}
	first := impl.NamesIn(list, impl.StLock)
	first[0] = "z"
	_ = append(first[:1], "w")
	wantNamesIn(t, list, impl.StLock, "a", "b")
	wantStmts(t, list, 0, "lock a;\nlock b;\n")
}

func wantSameStmts(t *testing.T, a []impl.Stmt, b []impl.Stmt, want bool) {
	t.Helper()
	if impl.SameStmts(a, b) != want || impl.SameStmts(b, a) != want {
		t.Errorf("SameStmts of lists of %d and %d is %v, the other way round %v; want %v", len(a), len(b), impl.SameStmts(a, b), impl.SameStmts(b, a), want)
	}
}

func copyOfStmts(list []impl.Stmt) []impl.Stmt {
	all := make([]impl.Stmt, 0, len(list)+3)
	for _, s := range list {
		all = append(all, impl.Stmt{Kind: s.Kind, Name: strings.Clone(s.Name), Term: copyOf(s.Term), Body: copyOfStmts(s.Body), Else: copyOfStmts(s.Else)})
	}
	return all
}

// A writing of all that is in statements, right or not.
func allOfStmts(list []impl.Stmt) string {
	all := "["
	for _, s := range list {
		all += strconv.Itoa(s.Kind) + "/" + strconv.Quote(s.Name) + "/" + allOf(s.Term) + allOfStmts(s.Body) + allOfStmts(s.Else) + ","
	}
	return all + "]"
}

func TestSameStmtsPartByPart(t *testing.T) {
	list := append(rightStmts(), wrongStmts()...)
	for kind := range 10 {
		s := word(kind, "n")
		list = append(list, s, withTerm(s, num(1)), withTerm(s, num(2)), orElse(s, skip))
		s.Body = []impl.Stmt{set("x", num(1)), skip}
		list = append(list, s, orElse(s, skip), orElse(s, s, skip))
		s.Body = []impl.Stmt{skip, set("x", num(1))}
		list = append(list, s, orElse(s, skip, s))
	}
	all := make([]string, len(list))
	for i, s := range list {
		all[i] = allOfStmts([]impl.Stmt{s})
	}
	for i := range list {
		wantSameStmts(t, list[i:i+1], copyOfStmts(list[i:i+1]), true)
		for j := range i {
			a, b := list[i:i+1], list[j:j+1]
			wantSameStmts(t, a, b, all[i] == all[j])
			if (i+j)%7 == 0 {
				wantSameStmts(t, []impl.Stmt{while(num(1), a...)}, []impl.Stmt{while(num(1), b...)}, all[i] == all[j])
				wantSameStmts(t, []impl.Stmt{orElse(when(num(1)), a...)}, []impl.Stmt{orElse(when(num(1)), b...)}, all[i] == all[j])
			}
		}
	}
}

func TestSameStmtsOfEachPart(t *testing.T) {
	base := impl.Stmt{Kind: 3, Name: "n", Term: pair(impl.TmAdd, num(1), read("x")), Body: []impl.Stmt{skip, word(impl.StCall, "p")}, Else: []impl.Stmt{word(impl.StLock, "a")}}
	for i, change := range []func(s *impl.Stmt){
		func(s *impl.Stmt) { s.Kind = 2 },
		func(s *impl.Stmt) { s.Name = "m" },
		func(s *impl.Stmt) { s.Name = "" },
		func(s *impl.Stmt) { s.Term = impl.Term{} },
		func(s *impl.Stmt) { s.Term.Num = 1 },
		func(s *impl.Stmt) { s.Term.Kids = s.Term.Kids[:1] },
		func(s *impl.Stmt) { s.Term.Kids[1].Name = "y" },
		func(s *impl.Stmt) { s.Body = nil },
		func(s *impl.Stmt) { s.Body = s.Body[:1] },
		func(s *impl.Stmt) { s.Body = append(s.Body, skip) },
		func(s *impl.Stmt) { slices.Reverse(s.Body) },
		func(s *impl.Stmt) { s.Body[1].Name = "q" },
		func(s *impl.Stmt) { s.Else = nil },
		func(s *impl.Stmt) { s.Else = append(s.Else, skip) },
		func(s *impl.Stmt) { s.Else[0].Kind = impl.StUnlock },
		func(s *impl.Stmt) { s.Else[0].Body = skips(1) },
		func(s *impl.Stmt) { s.Else[0].Term = num(0) },
		func(s *impl.Stmt) { s.Body, s.Else = s.Else, s.Body },
	} {
		list := []impl.Stmt{base, base}
		other := copyOfStmts(list)
		wantSameStmts(t, list, other, true)
		for _, at := range []int{0, 1} {
			changed := copyOfStmts(list)
			change(&changed[at])
			if impl.SameStmts(list, changed) || impl.SameStmts(changed, list) {
				t.Errorf("change %d at %d makes no difference", i, at)
			}
		}
	}
}

func TestSameStmtsOfListsAndTheirOrder(t *testing.T) {
	one, two := skip, word(impl.StLock, "a")
	for _, empty := range [][]impl.Stmt{nil, {}, skips(3)[:0]} {
		wantSameStmts(t, empty, nil, true)
		wantSameStmts(t, empty, []impl.Stmt{}, true)
		wantSameStmts(t, empty, skips(1), false)
		wantSameStmts(t, empty, []impl.Stmt{{}}, false)
		wantSameStmts(t, []impl.Stmt{while(num(1), empty...)}, []impl.Stmt{while(num(1))}, true)
		wantSameStmts(t, []impl.Stmt{orElse(when(num(1), empty...), empty...)}, []impl.Stmt{when(num(1))}, true)
	}
	wantSameStmts(t, []impl.Stmt{{}}, []impl.Stmt{{}}, true)
	wantSameStmts(t, []impl.Stmt{one, two}, []impl.Stmt{one, two}, true)
	wantSameStmts(t, []impl.Stmt{one, two}, []impl.Stmt{two, one}, false)
	wantSameStmts(t, []impl.Stmt{one, two}, []impl.Stmt{one}, false)
	wantSameStmts(t, []impl.Stmt{one, two}, []impl.Stmt{two}, false)
	wantSameStmts(t, []impl.Stmt{one, two}, []impl.Stmt{one, two, two}, false)
	wantSameStmts(t, skips(60), skips(61), false)
	wantSameStmts(t, skips(61), skips(61), true)
	wantSameStmts(t, []impl.Stmt{while(num(1), one), two}, []impl.Stmt{while(num(1), one, two)}, false)
	wantSameStmts(t, []impl.Stmt{orElse(when(num(1), one), two)}, []impl.Stmt{when(num(1), one, two)}, false)
}

func TestSameStmtsOfWideAndDeepStmts(t *testing.T) {
	wide := slices.Repeat([]impl.Stmt{set("x", num(1))}, 20000)
	other := copyOfStmts(wide)
	wantSameStmts(t, wide, other, true)
	other[19999].Term.Num = 2
	wantSameStmts(t, wide, other, false)
	for _, around := range aroundStmtWays() {
		deep := []impl.Stmt{nested(20000, skip, around)}
		wantSameStmts(t, deep, []impl.Stmt{nested(20000, skip, around)}, true)
		wantSameStmts(t, deep, []impl.Stmt{nested(20000, set("x", num(1)), around)}, false)
		wantSameStmts(t, deep, []impl.Stmt{nested(20001, skip, around)}, false)
	}
	knot := set("x", knotted(impl.TmAdd, 2, 1))
	wantSameStmts(t, []impl.Stmt{skip, knot}, []impl.Stmt{skip, set("x", knotted(impl.TmAdd, 3, 1))}, true)
	wantSameStmts(t, []impl.Stmt{skip, knot}, []impl.Stmt{skip, set("x", knotted(impl.TmAdd, 3, 2))}, false)
	wantWrongStmt(t, knot, "a term within itself")
	wantWrongStmt(t, withTerm(skip, knot.Term), "a term within itself where there is to be none")
}

// A statement picked by a number that is multiplied on; now and then it is wrong by a part too many or too few.
func anyStmt(seed *int, deep int) impl.Stmt {
	next := func(below int) int {
		*seed = (*seed*1103 + 12345) % 1000003
		return *seed / 7 % below
	}
	s := impl.Stmt{Kind: next(8) + 1}
	switch {
	case deep > 0 && next(2) == 0:
		s.Kind = impl.StIf + next(2)
	case next(40) == 0:
		s.Kind = noStmtKinds[next(len(noStmtKinds))]
	}
	part := partsByKind[s.Kind]
	off := next(80)
	if part.name != (off == 0) {
		s.Name = []string{"x", "yy", "z1"}[next(3)]
	}
	if part.term != (off == 1) {
		s.Term = termBy(seed, next(3), []string{"x", "yy"})
	}
	if deep > 0 && part.body != (off == 2) {
		s.Body = anyStmts(seed, next(4), deep-1)
	}
	if deep > 0 && part.other != (off == 3) {
		s.Else = anyStmts(seed, next(3), deep-1)
	}
	return s
}

func anyStmts(seed *int, many int, deep int) []impl.Stmt {
	var list []impl.Stmt
	for range many {
		list = append(list, anyStmt(seed, deep))
	}
	return list
}

// What a statement of each kind has.
var partsByKind = map[int]struct{ name, term, body, other bool }{
	impl.StSet: {name: true, term: true}, impl.StIf: {term: true, body: true, other: true}, impl.StWhile: {term: true, body: true},
	impl.StCall: {name: true}, impl.StSpawn: {name: true}, impl.StLock: {name: true}, impl.StUnlock: {name: true}, impl.StSkip: {},
}

func flatStmts(list []impl.Stmt) []impl.Stmt {
	var flat []impl.Stmt
	for _, s := range list {
		flat = append(flat, s)
		flat = append(flat, flatStmts(s.Body)...)
		flat = append(flat, flatStmts(s.Else)...)
	}
	return flat
}

func deepOf(list []impl.Stmt) int {
	deep := 0
	for _, s := range list {
		within := max(deepOf(s.Body), deepOf(s.Else))
		if s.Kind == impl.StIf || s.Kind == impl.StWhile {
			within++
		}
		deep = max(deep, within)
	}
	return deep
}

// Whether a statement is right, told by what is in it, statement by statement, as if none stood within another.
func rightByParts(s impl.Stmt) bool {
	flat := flatStmts([]impl.Stmt{s})
	for _, one := range flat {
		part, ok := partsByKind[one.Kind]
		zero := allOf(one.Term) == allOf(impl.Term{})
		if !ok || part.name != impl.IsName(one.Name) || !part.name && one.Name != "" || part.term != impl.TermOk(one.Term) || !part.term && !zero ||
			!part.body && len(one.Body) > 0 || !part.other && len(one.Else) > 0 {
			return false
		}
	}
	return len(flat) <= impl.MaxStmts && deepOf([]impl.Stmt{s}) <= impl.MaxDeep
}

// The lines of statements, each without the blanks ahead, and how many these are.
func linesByRule(list []impl.Stmt, by int) ([]string, []int) {
	var lines []string
	var blanks []int
	put := func(line string) {
		lines, blanks = append(lines, line), append(blanks, by)
	}
	within := func(list []impl.Stmt) {
		inner, innerBlanks := linesByRule(list, by+1)
		lines, blanks = append(lines, inner...), append(blanks, innerBlanks...)
	}
	for _, s := range list {
		switch s.Kind {
		case impl.StSet:
			put(s.Name + " = " + impl.TermText(s.Term) + ";")
		case impl.StSkip:
			put("skip;")
		case impl.StIf, impl.StWhile:
			put(map[int]string{impl.StIf: "if", impl.StWhile: "while"}[s.Kind] + " " + impl.TermText(s.Term) + " {")
			within(s.Body)
			if len(s.Else) > 0 {
				put("} else {")
				within(s.Else)
			}
			put("}")
		default:
			put(wordKinds[s.Kind] + " " + s.Name + ";")
		}
	}
	return lines, blanks
}

func wantLinesByRule(t *testing.T, list []impl.Stmt, by int) {
	t.Helper()
	lines, blanks := linesByRule(list, by)
	got := strings.SplitAfter(impl.StmtsText(list, by), "\n")
	if len(got) != len(lines)+1 || got[len(lines)] != "" {
		t.Fatalf("StmtsText by %d of a list of %d has %d lines; want %d", by, len(list), len(got)-1, len(lines))
	}
	for i, line := range lines {
		if got[i] != strings.Repeat(" ", blanks[i])+line+"\n" {
			t.Errorf("line %d is %q; want %q behind %d blanks", i, got[i], line, blanks[i])
		}
	}
}

func TestEachStatementHasItsLine(t *testing.T) {
	right, wrong := 0, 0
	for seed := range 6000 {
		at := seed
		s := anyStmt(&at, seed%9)
		list := []impl.Stmt{s}
		wantCount(t, list, len(flatStmts(list)))
		if impl.StmtOk(s) != rightByParts(s) {
			t.Fatalf("StmtOk of %s is %v", allOfStmts(list), impl.StmtOk(s))
		}
		if !impl.StmtOk(s) {
			wrong++
			wantWrongStmt(t, s, "statement by "+strconv.Itoa(seed))
			continue
		}
		right++
		wantLinesByRule(t, list, seed%21)
		wantLinesByRule(t, []impl.Stmt{skip, s, s}, 0)
	}
	if right < 500 || wrong < 500 {
		t.Errorf("only %d right and %d wrong statements were met", right, wrong)
	}
}

// As many lines as statements, one more for each that ends with a mark of its own, and one for each Else.
func TestStmtsTextHasAsManyLines(t *testing.T) {
	for seed := range 2000 {
		at := seed
		s := anyStmt(&at, seed%7)
		if !impl.StmtOk(s) {
			continue
		}
		want := 0
		for _, one := range flatStmts([]impl.Stmt{s}) {
			want++
			if one.Kind == impl.StIf || one.Kind == impl.StWhile {
				want++
			}
			if len(one.Else) > 0 {
				want++
			}
		}
		if got := strings.Count(impl.StmtsText([]impl.Stmt{s}, 0), "\n"); got != want {
			t.Errorf("%s has %d lines; want %d", allOfStmts([]impl.Stmt{s}), got, want)
		}
	}
}

func TestNamesAreToldOnce(t *testing.T) {
	told, none := 0, 0
	for seed := range 3000 {
		at := seed
		list := anyStmts(&at, 1+seed%10, seed%6)
		flat := flatStmts(list)
		for _, kind := range append(noStmtKinds, stmtKinds...) {
			var want []string
			for _, s := range flat {
				if s.Kind == kind && len(flat) <= impl.MaxStmts && !slices.Contains(want, s.Name) {
					want = append(want, s.Name)
				}
			}
			wantNamesIn(t, list, kind, want...)
		}
		if len(flat) > impl.MaxStmts {
			none++
		} else {
			told++
		}
	}
	if told < 100 || none < 20 {
		t.Errorf("only %d lists of at most %d, and %d of more, were met", told, impl.MaxStmts, none)
	}
}

func TestStmtsAreNotWrittenInto(t *testing.T) {
	for seed := range 300 {
		at := seed
		all := anyStmts(&at, 4, 4)
		list := all[:2]
		before := copyOfStmts(all)
		for _, s := range list {
			impl.StmtOk(s)
		}
		impl.StmtsText(list, 3)
		impl.CountIn(list)
		for _, kind := range stmtKinds {
			_ = append(impl.NamesIn(list, kind), "w")
		}
		impl.SameStmts(list, before)
		if allOfStmts(all) != allOfStmts(before) {
			t.Fatalf("%s was changed", allOfStmts(before))
		}
	}
}
