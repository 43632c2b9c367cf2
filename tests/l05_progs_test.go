package tests

import (
	"slices"
	"strconv"
	"strings"
	"testing"

	"loop.example/g00966/impl"
)

func proc(name string, body ...impl.Stmt) impl.Proc {
	return impl.Proc{Name: name, Body: body}
}

func prog(globals []string, locks []string, procs ...impl.Proc) impl.Prog {
	return impl.Prog{Globals: globals, Locks: locks, Procs: procs}
}

// As many names, of which no two are the same.
func namesOf(letter string, many int) []string {
	var names []string
	for i := range many {
		names = append(names, letter+strconv.Itoa(i))
	}
	return names
}

// As many procedures, each with a Name of its own and this Body.
func procsOf(many int, body ...impl.Stmt) []impl.Proc {
	var procs []impl.Proc
	for _, name := range namesOf("p", many) {
		procs = append(procs, proc(name, body...))
	}
	return procs
}

// A program in which each list has more than one.
func ordinaryProg() impl.Prog {
	return prog([]string{"x", "y"}, []string{"a", "b"},
		proc("main", word(impl.StSpawn, "go1"), word(impl.StCall, "go1"), set("y", num(0))),
		proc("go1", word(impl.StLock, "a"), while(pair(impl.TmLess, read("x"), num(3)), set("x", pair(impl.TmAdd, read("x"), num(1)))), word(impl.StUnlock, "a")),
		proc("idle"))
}

// Names that are none.
func wrongNames() []string {
	return append([]string{"", " ", "1x", "7", "X", "Main", "a b", "x ", " x", "x,", "x;", "abcdefghijklm", "é", "+", "\x00", "x\n", "_"}, noNames...)
}

// Ways to have nothing in a list.
func emptyLists[T any]() [][]T {
	return [][]T{nil, {}, make([]T, 0, 5), make([]T, 3)[:0]}
}

func wantProgText(t *testing.T, p impl.Prog, want string) {
	t.Helper()
	if !impl.ProgOk(p) {
		t.Errorf("%s is not right", allOfProg(p))
	}
	if got := impl.ProgText(p); got != want {
		t.Errorf("ProgText is %q; want %q", got, want)
	}
}

func wantWrongProg(t *testing.T, p impl.Prog, what string) {
	t.Helper()
	if impl.ProgOk(p) {
		t.Errorf("%s is right", what)
	}
	if got := impl.ProgText(p); got != "" {
		t.Errorf("ProgText of what is not right, %s, is %q", what, got)
	}
}

func wantSameProg(t *testing.T, a impl.Prog, b impl.Prog, want bool) {
	t.Helper()
	if impl.SameProg(a, b) != want || impl.SameProg(b, a) != want {
		t.Errorf("SameProg is %v, the other way round %v; want %v", impl.SameProg(a, b), impl.SameProg(b, a), want)
	}
}

func wantProcAt(t *testing.T, p impl.Prog, name string, want int) {
	t.Helper()
	if got := impl.ProcAt(p, name); got != want {
		t.Errorf("ProcAt %q of %d procedures is %d; want %d", name, len(p.Procs), got, want)
	}
}

func wantPlaceOf(t *testing.T, list []string, name string, want int) {
	t.Helper()
	if got := impl.PlaceOf(list, name); got != want {
		t.Errorf("PlaceOf %.40q in a list of %d is %d; want %d", name, len(list), got, want)
	}
}

func copyOfProg(p impl.Prog) impl.Prog {
	procs := make([]impl.Proc, 0, len(p.Procs)+2)
	for _, one := range p.Procs {
		procs = append(procs, impl.Proc{Name: strings.Clone(one.Name), Body: copyOfStmts(one.Body)})
	}
	return impl.Prog{Globals: slices.Clone(p.Globals), Locks: slices.Clone(p.Locks), Procs: procs}
}

// A writing of all that is in a program, right or not.
func allOfProg(p impl.Prog) string {
	all := ""
	for _, list := range [][]string{p.Globals, p.Locks} {
		for _, name := range list {
			all += strconv.Quote(name) + ","
		}
		all += ";"
	}
	for _, one := range p.Procs {
		all += strconv.Quote(one.Name) + allOfStmts(one.Body)
	}
	return all
}

func TestProgsConstants(t *testing.T) {
	if impl.MaxGlobals != 6 || impl.MaxLocks != 6 || impl.MaxProcs != 8 {
		t.Error("a limit of chapter 5 is not the document's")
	}
}

func TestProgTextOfAnOrdinaryProgram(t *testing.T) {
	wantProgText(t, ordinaryProg(), strings.Join([]string{
		"globals x, y;",
		"locks a, b;",
		"proc main {",
		" spawn go1;",
		" call go1;",
		" y = 0;",
		"}",
		"proc go1 {",
		" lock a;",
		" while (x < 3) {",
		"  x = (x + 1);",
		" }",
		" unlock a;",
		"}",
		"proc idle {",
		"}",
		"",
	}, "\n"))
}

func TestProgTextOfEachStatement(t *testing.T) {
	for _, s := range rightStmts() {
		body := []impl.Stmt{s}
		wantProgText(t, prog(nil, nil, proc("p", s)), "globals;\nlocks;\nproc p {\n"+impl.StmtsText(body, 1)+"}\n")
	}
	wantProgText(t, prog(nil, nil, proc("p", rightStmts()...), proc("q", skip)),
		"globals;\nlocks;\nproc p {\n"+impl.StmtsText(rightStmts(), 1)+"}\nproc q {\n skip;\n}\n")
}

func TestProgTextOfAsManyNames(t *testing.T) {
	lists := map[int]string{0: "", 1: " n0", 2: " n0, n1", 3: " n0, n1, n2", 4: " n0, n1, n2, n3", 5: " n0, n1, n2, n3, n4", 6: " n0, n1, n2, n3, n4, n5"}
	for globals, globalsText := range lists {
		for locks, locksText := range lists {
			p := prog(namesOf("n", globals), namesOf("n", locks))
			wantProgText(t, p, "globals"+globalsText+";\nlocks"+locksText+";\n")
			p.Procs = procsOf(1)
			wantProgText(t, p, "globals"+globalsText+";\nlocks"+locksText+";\nproc p0 {\n}\n")
		}
	}
}

func TestProgTextOfAsManyProcs(t *testing.T) {
	text := "globals;\nlocks;\n"
	for many := range impl.MaxProcs + 1 {
		wantProgText(t, prog(nil, nil, procsOf(many, skip)...), text)
		text += "proc p" + strconv.Itoa(many) + " {\n skip;\n}\n"
	}
}

func TestProgsWithoutNames(t *testing.T) {
	wantProgText(t, impl.Prog{}, "globals;\nlocks;\n")
	full := ordinaryProg()
	ends := impl.ProgText(prog(nil, nil, full.Procs...))[len("globals;\nlocks;\n"):]
	for _, none := range emptyLists[string]() {
		wantProgText(t, prog(none, full.Locks, full.Procs...), "globals;\nlocks a, b;\n"+ends)
		wantProgText(t, prog(full.Globals, none, full.Procs...), "globals x, y;\nlocks;\n"+ends)
		wantProgText(t, prog(none, none, full.Procs...), "globals;\nlocks;\n"+ends)
		for _, noProcs := range emptyLists[impl.Proc]() {
			wantProgText(t, prog(full.Globals, full.Locks, noProcs...), "globals x, y;\nlocks a, b;\n")
			wantProgText(t, prog(none, full.Locks, noProcs...), "globals;\nlocks a, b;\n")
			wantProgText(t, prog(full.Globals, none, noProcs...), "globals x, y;\nlocks;\n")
			wantProgText(t, prog(none, none, noProcs...), "globals;\nlocks;\n")
		}
	}
}

func TestProgsWithEmptyBodies(t *testing.T) {
	for _, empty := range emptyLists[impl.Stmt]() {
		wantProgText(t, prog(nil, nil, proc("main", empty...)), "globals;\nlocks;\nproc main {\n}\n")
		wantProgText(t, prog(nil, nil, proc("p", empty...), proc("q", skip), proc("r", empty...)), "globals;\nlocks;\nproc p {\n}\nproc q {\n skip;\n}\nproc r {\n}\n")
		wantProgText(t, prog(nil, nil, proc("p", while(num(1), empty...))), "globals;\nlocks;\nproc p {\n while 1 {\n }\n}\n")
	}
}

func TestProgsAtTheMostNames(t *testing.T) {
	most := prog(namesOf("g", impl.MaxGlobals), namesOf("l", impl.MaxLocks), procsOf(impl.MaxProcs)...)
	if !impl.ProgOk(most) || impl.ProgText(most) == "" {
		t.Error("a program of as many as may be is not right")
	}
	for _, more := range []int{1, 2, 1000, 100000} {
		p := most
		p.Globals = namesOf("g", impl.MaxGlobals+more)
		wantWrongProg(t, p, strconv.Itoa(more)+" global too many")
		p = most
		p.Locks = namesOf("l", impl.MaxLocks+more)
		wantWrongProg(t, p, strconv.Itoa(more)+" lock too many")
		p = most
		p.Procs = procsOf(impl.MaxProcs + more)
		wantWrongProg(t, p, strconv.Itoa(more)+" procedure too many")
		wantWrongProg(t, prog(namesOf("g", impl.MaxGlobals+more), nil), "a program of globals alone, too many")
		wantWrongProg(t, prog(nil, namesOf("l", impl.MaxLocks+more)), "a program of locks alone, too many")
		wantWrongProg(t, prog(nil, nil, procsOf(impl.MaxProcs+more)...), "a program of procedures alone, too many")
	}
}

// Bodies of as many statements, those within others counted.
func bodiesOf(many int) [][]impl.Stmt {
	half := (many - 1) / 2
	return [][]impl.Stmt{
		skips(many),
		{while(num(1), skips(many-1)...)},
		{skip, while(num(1), skips(many-2)...)},
		{while(num(1), skips(many-3)...), skip, skip},
		{orElse(when(num(1)), skips(many-1)...)},
		{orElse(when(num(1), skips(half)...), skips(many-1-half)...)},
		{while(num(1), skips(half)...), when(num(1), skips(many-2-half)...)},
		append(skips(many-impl.MaxDeep-1), nested(impl.MaxDeep, skip, aroundStmtWays()[0])),
	}
}

func TestProgsAtTheMostStatements(t *testing.T) {
	for _, body := range bodiesOf(impl.MaxStmts) {
		wantCount(t, body, impl.MaxStmts)
		// What may be no more is what is in one Body: all procedures may have as many.
		for _, many := range []int{1, 2, impl.MaxProcs} {
			p := prog([]string{"x"}, nil, procsOf(many, body...)...)
			if !impl.ProgOk(p) || impl.ProgText(p) == "" {
				t.Errorf("%d procedures of as many statements as may be are not right", many)
			}
		}
	}
	for i, body := range append(bodiesOf(impl.MaxStmts+1), skips(impl.MaxStmts+2), skips(100000)) {
		wantWrongProg(t, prog(nil, nil, proc("main", body...)), "too many statements, body "+strconv.Itoa(i))
		for at := range impl.MaxProcs {
			p := prog(nil, nil, procsOf(impl.MaxProcs, skip)...)
			p.Procs[at].Body = body
			wantWrongProg(t, p, "too many statements, body "+strconv.Itoa(i)+" at "+strconv.Itoa(at))
		}
	}
}

func TestProgsWithStatementsAtTheMostDeep(t *testing.T) {
	for i, around := range aroundStmtWays() {
		most := nested(impl.MaxDeep, skip, around)
		if p := prog([]string{"x"}, []string{"a"}, proc("p", skip, most), proc("q", most)); !impl.ProgOk(p) || impl.ProgText(p) == "" {
			t.Errorf("a program with way %d as deep as may be is not right", i)
		}
		wantWrongProg(t, prog(nil, nil, proc("p", around(most))), "one too deep, way "+strconv.Itoa(i))
		wantWrongProg(t, prog(nil, nil, proc("p"), proc("q", skip, around(most), skip)), "one too deep in the midst, way "+strconv.Itoa(i))
	}
}

// A program whose text has this many bytes, told line by line; it has no globals and no locks.
func progOfSize(size int) impl.Prog {
	var procs []impl.Proc
	left := size - len("globals;\nlocks;\n")
	for left > 0 {
		one := proc("p")
		left -= len("proc p {\n}\n")
		for left > 0 && len(one.Body) < impl.MaxStmts {
			// A line is ` n = 1;` and a byte 10, with a longer name or number; what is left behind it is nothing, or enough for more.
			wide := min(left, 28)
			if rest := left - wide; rest > 0 && rest < 40 {
				wide = 8
			}
			figures := max(1, wide-18)
			one.Body = append(one.Body, set(strings.Repeat("n", wide-6-figures), num(powerOfTen(figures-1))))
			left -= wide
		}
		procs = append(procs, one)
	}
	return prog(nil, nil, procs...)
}

func powerOfTen(power int) int {
	n := 1
	for range power {
		n *= 10
	}
	return n
}

func TestProgTextAtItsMostBytes(t *testing.T) {
	for size := impl.MaxSource - 40; size <= impl.MaxSource+40; size++ {
		p := progOfSize(size)
		want := progTextByRule(p)
		if len(want) != size {
			t.Fatalf("a program of %d bytes has %d", size, len(want))
		}
		if size > impl.MaxSource {
			want = ""
		}
		wantProgText(t, p, want)
	}
	for _, size := range []int{8000, 10000, 11000} {
		wantProgText(t, progOfSize(size), "")
	}
	wide := nested(impl.MaxDeep, read("abcdefghijkl"), func(m impl.Term) impl.Term { return pair(impl.TmAnd, m, m) })
	wantProgText(t, prog(nil, nil, procsOf(impl.MaxProcs, slices.Repeat([]impl.Stmt{set("x", wide)}, impl.MaxStmts)...)...), "")
	wantProgText(t, prog(nil, nil, proc("p", set("x", wide))), "globals;\nlocks;\nproc p {\n x = "+impl.TermText(wide)+";\n}\n")
}

// The blanks and the names of the two first lines count as the lines of the procedures do.
func TestProgTextAtItsMostBytesWithNames(t *testing.T) {
	for _, row := range []struct {
		globals, locks []string
		more           int
	}{
		{[]string{"x"}, nil, 2}, {nil, []string{"xyz"}, 4}, {[]string{"x", "y"}, nil, 5}, {[]string{"x"}, []string{"y"}, 4},
		{namesOf("g", impl.MaxGlobals), namesOf("l", impl.MaxLocks), 46},
	} {
		for _, over := range []int{-1, 0, 1} {
			p := progOfSize(impl.MaxSource - row.more + over)
			p.Globals, p.Locks = row.globals, row.locks
			if got := len(impl.ProgText(p)); over <= 0 && got != impl.MaxSource+over || over > 0 && got != 0 {
				t.Errorf("%d bytes and %d more for the names are a text of %d", impl.MaxSource-row.more+over, row.more, got)
			}
		}
	}
}

func TestProgsWithNamesThatAreNone(t *testing.T) {
	for _, wrong := range wrongNames() {
		for at := range impl.MaxGlobals {
			p := prog(namesOf("g", impl.MaxGlobals), namesOf("l", impl.MaxLocks), procsOf(impl.MaxProcs)...)
			p.Globals[at] = wrong
			wantWrongProg(t, p, "a global "+strconv.Quote(wrong))
		}
		for at := range impl.MaxLocks {
			p := prog(namesOf("g", impl.MaxGlobals), namesOf("l", impl.MaxLocks), procsOf(impl.MaxProcs)...)
			p.Locks[at] = wrong
			wantWrongProg(t, p, "a lock "+strconv.Quote(wrong))
		}
		for at := range impl.MaxProcs {
			p := prog(namesOf("g", impl.MaxGlobals), namesOf("l", impl.MaxLocks), procsOf(impl.MaxProcs)...)
			p.Procs[at].Name = wrong
			wantWrongProg(t, p, "a procedure "+strconv.Quote(wrong))
		}
		wantWrongProg(t, prog([]string{wrong}, nil), "a global alone, "+strconv.Quote(wrong))
		wantWrongProg(t, prog(nil, []string{wrong}), "a lock alone, "+strconv.Quote(wrong))
		wantWrongProg(t, prog(nil, nil, proc(wrong)), "a procedure alone, "+strconv.Quote(wrong))
	}
	long := strings.Repeat("n", impl.MaxName)
	wantProgText(t, prog([]string{long}, []string{long}, proc(long)), "globals "+long+";\nlocks "+long+";\nproc "+long+" {\n}\n")
}

func TestProgsWithStatementsThatAreWrong(t *testing.T) {
	for i, wrong := range wrongStmts() {
		what := "wrong statement " + strconv.Itoa(i)
		for _, body := range [][]impl.Stmt{{wrong}, {wrong, skip}, {skip, skip, wrong}, {skip, wrong, skip}} {
			wantWrongProg(t, prog(nil, nil, proc("main", body...)), what)
			wantWrongProg(t, prog(nil, nil, proc("p"), proc("q", skip), proc("r", body...)), what)
			wantWrongProg(t, prog(nil, nil, proc("p", body...), proc("q", skip)), what)
		}
		for j, around := range aroundStmtWays() {
			for _, deep := range []int{1, 3, impl.MaxDeep - 1} {
				within := nested(deep, wrong, around)
				wantWrongProg(t, prog([]string{"x"}, nil, proc("p", skip), proc("main", skip, within)), what+" within "+strconv.Itoa(deep)+" of way "+strconv.Itoa(j))
			}
		}
	}
}

// That names are there, and each once, is asked for by no sentence of this chapter.
func TestProgsWhoseNamesAreNotThereOrTwice(t *testing.T) {
	wantProgText(t, prog([]string{"x", "x"}, []string{"a", "b", "a"}, proc("p"), proc("p", skip)), "globals x, x;\nlocks a, b, a;\nproc p {\n}\nproc p {\n skip;\n}\n")
	wantProgText(t, prog([]string{"n"}, []string{"n"}, proc("n")), "globals n;\nlocks n;\nproc n {\n}\n")
	wantProgText(t, prog(nil, nil, proc("p", set("z", read("w")), word(impl.StLock, "a"), word(impl.StCall, "q"))), "globals;\nlocks;\nproc p {\n z = w;\n lock a;\n call q;\n}\n")
	wantProgText(t, prog([]string{"x"}, []string{"a"}, proc("p", word(impl.StLock, "x"), set("a", num(1)))), "globals x;\nlocks a;\nproc p {\n lock x;\n a = 1;\n}\n")
}

func TestNamesAreFoundWhereTheyFirstStand(t *testing.T) {
	list := []string{"b", "a", "b", "c", "a", "a", "b"}
	var procs []impl.Proc
	for i, name := range list {
		procs = append(procs, proc(name, skips(i)...))
	}
	for name, want := range map[string]int{"b": 0, "a": 1, "c": 3, "d": -1, "": -1, "A": -1, "aa": -1, "ab": -1, "b ": -1, " b": -1, "b, a": -1, "main": -1} {
		wantPlaceOf(t, list, name, want)
		wantProcAt(t, prog(nil, nil, procs...), name, want)
		wantProcAt(t, prog([]string{"d", "main"}, []string{"d", "ab", ""}, procs...), name, want)
	}
	for at := range list {
		// What stands ahead of where one begins to look is not looked at.
		wantPlaceOf(t, list[at:], list[at], 0)
		wantProcAt(t, prog(nil, nil, procs[at:]...), list[at], 0)
	}
}

func TestNamesAtTheLastPlace(t *testing.T) {
	for many := 1; many <= impl.MaxProcs+1; many++ {
		names := namesOf("p", many)
		for at, name := range names {
			wantPlaceOf(t, names, name, at)
			wantProcAt(t, prog(nil, nil, procsOf(many)...), name, at)
		}
		wantPlaceOf(t, names, "p"+strconv.Itoa(many), -1)
		wantProcAt(t, prog(nil, nil, procsOf(many)...), "p"+strconv.Itoa(many), -1)
	}
	wantPlaceOf(t, namesOf("n", 100000), "n99999", 99999)
	wantPlaceOf(t, namesOf("n", 100000), "n100000", -1)
	wantProcAt(t, prog(nil, nil, procsOf(100000)...), "p99999", 99999)
	wantProcAt(t, prog(nil, nil, procsOf(100000)...), "p", -1)
}

// What lies in the spare room behind a list does not stand in it.
func TestNamesInListsThatAreEmpty(t *testing.T) {
	full := []string{"x", "", "y"}
	procs := []impl.Proc{proc("x"), proc(""), proc("y")}
	for _, name := range []string{"x", "", "y", "main"} {
		for _, none := range append(emptyLists[string](), full[:0]) {
			wantPlaceOf(t, none, name, -1)
		}
		for _, none := range append(emptyLists[impl.Proc](), procs[:0]) {
			wantProcAt(t, prog(full, full, none...), name, -1)
			wantProcAt(t, prog(nil, nil, none...), name, -1)
		}
	}
	wantPlaceOf(t, full[:2], "y", -1)
	wantProcAt(t, prog(nil, nil, procs[:2]...), "y", -1)
}

// A list is looked through whether it is right or not.
func TestNamesThatAreNone(t *testing.T) {
	list := append([]string{"x", "\xff", "far too long a name to be one"}, wrongNames()...)
	list = append(list, list...)
	var procs []impl.Proc
	for i, name := range list {
		procs = append(procs, proc(name, wrongStmts()[i]))
	}
	for at, name := range list[:len(list)/2] {
		wantPlaceOf(t, list, name, at)
		wantProcAt(t, prog(nil, nil, procs...), name, at)
	}
	for _, name := range []string{"\xfe", "\x00\x00", "e", "É", "far too long a name", "y"} {
		wantPlaceOf(t, list, name, -1)
		wantProcAt(t, prog(list, list, procs...), name, -1)
	}
	wantPlaceOf(t, []string{"", ""}, "", 0)
	wantPlaceOf(t, []string{"x", ""}, "", 1)
	wantProcAt(t, prog(nil, nil, proc(""), proc("")), "", 0)
	wantProcAt(t, prog(nil, nil, proc("x"), proc("")), "", 1)
	wantProcAt(t, ordinaryProg(), "", -1)
}

func TestSameProgOfEachPart(t *testing.T) {
	base := ordinaryProg()
	for i, change := range []func(p *impl.Prog){
		func(p *impl.Prog) { p.Globals[0] = "z" },
		func(p *impl.Prog) { p.Globals[1] = "x" },
		func(p *impl.Prog) { p.Globals[1] = "" },
		func(p *impl.Prog) { p.Globals = p.Globals[:1] },
		func(p *impl.Prog) { p.Globals = p.Globals[1:] },
		func(p *impl.Prog) { p.Globals = nil },
		func(p *impl.Prog) { p.Globals = append(p.Globals, "z") },
		func(p *impl.Prog) { p.Globals = append(p.Globals, "") },
		func(p *impl.Prog) { slices.Reverse(p.Globals) },
		func(p *impl.Prog) { p.Locks[0] = "z" },
		func(p *impl.Prog) { p.Locks[1] = "a" },
		func(p *impl.Prog) { p.Locks = p.Locks[:1] },
		func(p *impl.Prog) { p.Locks = nil },
		func(p *impl.Prog) { p.Locks = append(p.Locks, "c") },
		func(p *impl.Prog) { slices.Reverse(p.Locks) },
		func(p *impl.Prog) { p.Globals, p.Locks = p.Locks, p.Globals },
		func(p *impl.Prog) { p.Globals, p.Locks = []string{"x", "y", "a"}, p.Locks[1:] },
		func(p *impl.Prog) { p.Procs[0].Name = "go1" },
		func(p *impl.Prog) { p.Procs[2].Name = "" },
		func(p *impl.Prog) { p.Procs[0].Name, p.Procs[1].Name = p.Procs[1].Name, p.Procs[0].Name },
		func(p *impl.Prog) { p.Procs[0].Body, p.Procs[1].Body = p.Procs[1].Body, p.Procs[0].Body },
		func(p *impl.Prog) { p.Procs[0].Body = p.Procs[0].Body[:2] },
		func(p *impl.Prog) { p.Procs[0].Body = nil },
		func(p *impl.Prog) { p.Procs[0].Body[2].Term.Num = 1 },
		func(p *impl.Prog) { p.Procs[1].Body[1].Body[0].Term.Kids[1].Num = 2 },
		func(p *impl.Prog) { p.Procs[1].Body[1].Kind = impl.StIf },
		func(p *impl.Prog) { slices.Reverse(p.Procs[1].Body) },
		func(p *impl.Prog) { p.Procs[2].Body = skips(1) },
		func(p *impl.Prog) { p.Procs[2].Body = []impl.Stmt{{}} },
		func(p *impl.Prog) { p.Procs = p.Procs[:2] },
		func(p *impl.Prog) { p.Procs = p.Procs[1:] },
		func(p *impl.Prog) { p.Procs = nil },
		func(p *impl.Prog) { p.Procs = append(p.Procs, impl.Proc{}) },
		func(p *impl.Prog) { p.Procs = append(p.Procs, proc("idle")) },
		func(p *impl.Prog) { slices.Reverse(p.Procs) },
		func(p *impl.Prog) { *p = impl.Prog{} },
	} {
		changed := copyOfProg(base)
		wantSameProg(t, base, changed, true)
		change(&changed)
		if impl.SameProg(base, changed) || impl.SameProg(changed, base) {
			t.Errorf("change %d makes no difference", i)
		}
		wantSameProg(t, changed, copyOfProg(changed), true)
	}
}

func TestSameProgOfEmptyListsAndNil(t *testing.T) {
	full := ordinaryProg()
	for _, none := range emptyLists[string]() {
		for _, noProcs := range emptyLists[impl.Proc]() {
			wantSameProg(t, prog(none, none, noProcs...), impl.Prog{}, true)
			wantSameProg(t, prog(none, full.Locks, noProcs...), prog(nil, full.Locks), true)
			wantSameProg(t, prog(full.Globals, none, noProcs...), prog(full.Globals, []string{}), true)
			wantSameProg(t, prog(none, none, noProcs...), prog([]string{""}, none), false)
			wantSameProg(t, prog(none, none, noProcs...), prog(none, []string{""}), false)
			wantSameProg(t, prog(none, none, noProcs...), prog(none, none, impl.Proc{}), false)
		}
		wantSameProg(t, prog(none, none, full.Procs...), prog(nil, []string{}, full.Procs...), true)
	}
	for _, empty := range emptyLists[impl.Stmt]() {
		wantSameProg(t, prog(nil, nil, proc("p", empty...)), prog(nil, nil, proc("p")), true)
		wantSameProg(t, prog(nil, nil, proc("p", while(num(1), empty...))), prog(nil, nil, proc("p", while(num(1)))), true)
		wantSameProg(t, prog(nil, nil, proc("p", empty...)), prog(nil, nil, proc("p", impl.Stmt{})), false)
		wantSameProg(t, prog(nil, nil, proc("p", empty...)), prog(nil, nil), false)
	}
}

// Programs are held against each other whether they are right or not.
func TestSameProgOfProgsThatAreNotRight(t *testing.T) {
	var list []impl.Prog
	for _, name := range append(wrongNames(), "x", strings.Repeat("x", 13)) {
		list = append(list, prog([]string{name}, nil), prog([]string{name, name}, nil), prog(nil, []string{name}), prog(nil, nil, proc(name)), prog(nil, nil, proc(name, impl.Stmt{})))
	}
	for i, s := range wrongStmts() {
		if i%9 == 0 {
			list = append(list, prog(nil, nil, proc("p", s)), prog(nil, nil, proc("p", while(num(1), s))))
		}
	}
	for _, many := range []int{impl.MaxProcs, impl.MaxProcs + 1, 1000} {
		list = append(list, prog(namesOf("n", many), nil), prog(nil, namesOf("n", many)), prog(nil, nil, procsOf(many)...), prog(nil, nil, proc("p", skips(10*many)...)))
	}
	all := make([]string, len(list))
	for i, p := range list {
		all[i] = allOfProg(p)
	}
	for i := range list {
		wantSameProg(t, list[i], copyOfProg(list[i]), true)
		for j := range i {
			wantSameProg(t, list[i], list[j], all[i] == all[j])
		}
	}
}

func TestProgsWithBodiesThatShareTheirLists(t *testing.T) {
	double := func(s impl.Stmt) impl.Stmt {
		list := []impl.Stmt{s}
		return orElse(when(num(1), list...), list...)
	}
	if p := prog(nil, nil, procsOf(8, nested(4, skip, double))...); !impl.ProgOk(p) {
		t.Error("eight procedures with one and the same Body of 31 statements are not right")
	}
	for _, deep := range []int{5, 60, 1000} {
		p := prog(nil, nil, procsOf(3, nested(deep, skip, double))...)
		wantWrongProg(t, p, "what shares its lists")
		wantSameProg(t, p, prog(nil, nil, procsOf(3, nested(deep, skip, double))...), true)
		wantSameProg(t, p, prog(nil, nil, procsOf(3, nested(deep, set("x", num(2)), double))...), false)
	}
}

func TestProgsWithBodiesThatStandWithinThemselves(t *testing.T) {
	for _, kind := range []int{impl.StIf, impl.StWhile, impl.StSkip, 0} {
		for _, inElse := range []bool{false, true} {
			p := prog(nil, nil, proc("main"), proc("p", knottedStmts(2, inElse, kind)...))
			if impl.ProgOk(p) || impl.ProgText(p) != "" {
				t.Error("a program with a Body that stands within itself is right")
			}
			wantProcAt(t, p, "p", 1)
			wantSameProg(t, p, prog(nil, nil, proc("main"), proc("p", knottedStmts(3, inElse, kind)...)), true)
			wantSameProg(t, p, prog(nil, nil, proc("main"), proc("p", knottedStmts(2, !inElse, kind)...)), false)
			wantSameProg(t, p, prog(nil, nil, proc("main"), proc("q", knottedStmts(2, inElse, kind)...)), false)
		}
	}
	p := prog(nil, nil, proc("p", set("x", knotted(impl.TmAdd, 2, 1))))
	if impl.ProgOk(p) || impl.ProgText(p) != "" {
		t.Error("a program with a term that stands within itself is right")
	}
	wantSameProg(t, p, prog(nil, nil, proc("p", set("x", knotted(impl.TmAdd, 3, 1)))), true)
	wantSameProg(t, p, prog(nil, nil, proc("p", set("x", knotted(impl.TmAdd, 3, 2)))), false)
}

// A program picked by a number that is multiplied on; now and then it is wrong by a name, or by one too many.
func anyProg(seed *int) impl.Prog {
	next := func(below int) int {
		*seed = (*seed*1103 + 12345) % 1000003
		return *seed / 7 % below
	}
	anyName := func() string {
		if next(150) == 0 {
			return wrongNames()[next(len(wrongNames()))]
		}
		return []string{"x", "yy", "z1", "main", "abcdefghijkl"}[next(5)]
	}
	anyNames := func(many int) []string {
		var names []string
		for range many {
			names = append(names, anyName())
		}
		return names
	}
	p := prog(anyNames(next(16)*next(16)/32), anyNames(next(16)*next(16)/32))
	for range next(4) * next(4) {
		p.Procs = append(p.Procs, proc(anyName(), anyStmts(seed, next(6), next(4))...))
	}
	return p
}

func progOkByRule(p impl.Prog) bool {
	names := slices.Concat(p.Globals, p.Locks)
	for _, one := range p.Procs {
		names = append(names, one.Name)
		if len(flatStmts(one.Body)) > 60 {
			return false
		}
		for _, s := range one.Body {
			if !rightByParts(s) {
				return false
			}
		}
	}
	for _, name := range names {
		if !impl.IsName(name) {
			return false
		}
	}
	return len(p.Globals) <= 6 && len(p.Locks) <= 6 && len(p.Procs) <= 8
}

// The text of a program that is right, as long as it may be, sign by sign.
func progTextByRule(p impl.Prog) string {
	text := ""
	for i, list := range [][]string{p.Globals, p.Locks} {
		text += []string{"globals", "locks"}[i]
		for j, name := range list {
			if j == 0 {
				text += " " + name
			} else {
				text += ", " + name
			}
		}
		text += ";\n"
	}
	for _, one := range p.Procs {
		text += "proc " + one.Name + " {\n"
		lines, blanks := linesByRule(one.Body, 1)
		for i, line := range lines {
			text += strings.Repeat(" ", blanks[i]) + line + "\n"
		}
		text += "}\n"
	}
	return text
}

func TestProgTextByItsRule(t *testing.T) {
	right, wrong := 0, 0
	for seed := range 6000 {
		at := seed
		p := anyProg(&at)
		ok := progOkByRule(p)
		if impl.ProgOk(p) != ok {
			t.Fatalf("ProgOk of %s is %v", allOfProg(p), !ok)
		}
		if !ok {
			wrong++
			wantWrongProg(t, p, "program by "+strconv.Itoa(seed))
			continue
		}
		right++
		want := progTextByRule(p)
		if len(want) > 6000 {
			want = ""
		}
		wantProgText(t, p, want)
	}
	if right < 500 || wrong < 500 {
		t.Errorf("only %d right and %d wrong programs were met", right, wrong)
	}
}

func TestNamesAreFoundInAnyProgram(t *testing.T) {
	twice, nowhere := 0, 0
	for seed := range 3000 {
		at := seed
		p := anyProg(&at)
		var procs []string
		for _, one := range p.Procs {
			procs = append(procs, one.Name)
		}
		for _, name := range append(wrongNames(), "x", "yy", "z1", "main", "abcdefghijkl") {
			for i, list := range [][]string{p.Globals, p.Locks, procs} {
				want, met := -1, 0
				for place := len(list) - 1; place >= 0; place-- {
					if list[place] == name {
						want = place
						met++
					}
				}
				wantPlaceOf(t, list, name, want)
				if i == 2 {
					wantProcAt(t, p, name, want)
				}
				if met > 1 {
					twice++
				}
				if met == 0 {
					nowhere++
				}
			}
		}
	}
	if twice < 1000 || nowhere < 1000 {
		t.Errorf("only %d names that stand twice and %d that stand nowhere were met", twice, nowhere)
	}
}

// Programs with a text are the same just when their texts are.
func TestSameProgOfAnyPrograms(t *testing.T) {
	var before []impl.Prog
	for seed := range 1500 {
		at := seed
		p := anyProg(&at)
		wantSameProg(t, p, copyOfProg(p), true)
		for _, other := range before {
			same := allOfProg(p) == allOfProg(other)
			wantSameProg(t, p, other, same)
			if text := impl.ProgText(p); text != "" && (text == impl.ProgText(other)) != same {
				t.Errorf("the text of %s and that of %s are the same", allOfProg(p), allOfProg(other))
			}
		}
		before = append(before[max(0, len(before)-9):], p)
	}
}

func TestProgsAreNotWrittenInto(t *testing.T) {
	for seed := range 300 {
		at := seed
		all := anyProg(&at)
		all.Globals = append(all.Globals, "g1", "g2", "g3")
		all.Locks = append(all.Locks, "l1", "l2", "l3")
		all.Procs = append(all.Procs, proc("p1", skip), proc("p2", skip), proc("p3"))
		before := copyOfProg(all)
		p := prog(all.Globals[:len(all.Globals)-3], all.Locks[:len(all.Locks)-3], all.Procs[:len(all.Procs)-3]...)
		for _, part := range []impl.Prog{p, all} {
			impl.ProgOk(part)
			impl.ProgText(part)
			impl.SameProg(part, before)
			for _, name := range []string{"x", "main", "l1", "p3", ""} {
				impl.ProcAt(part, name)
				impl.PlaceOf(part.Globals, name)
				impl.PlaceOf(part.Locks, name)
			}
		}
		if allOfProg(all) != allOfProg(before) {
			t.Fatalf("%s was changed", allOfProg(before))
		}
	}
}
