package tests

import (
	"math"
	"slices"
	"strconv"
	"strings"
	"testing"

	"loop.example/g00966/impl"
)

var allOps = []int{impl.OpSet, impl.OpTest, impl.OpJump, impl.OpCall, impl.OpSpawn, impl.OpLock, impl.OpUnlock, impl.OpSkip, impl.OpEnd}

var noOps = []int{0, -1, -2, -9, 10, 11, 100, math.MinInt, math.MaxInt}

// The most instructions of a code.
const mostIns = 1500

func insSet(arg int, term impl.Term) impl.Ins {
	return impl.Ins{Op: impl.OpSet, Arg: arg, Term: term}
}

func insTest(term impl.Term, to int) impl.Ins {
	return impl.Ins{Op: impl.OpTest, Term: term, To: to}
}

func insJump(to int) impl.Ins {
	return impl.Ins{Op: impl.OpJump, To: to}
}

func insNamed(op int, arg int) impl.Ins {
	return impl.Ins{Op: op, Arg: arg}
}

var insSkip, insEnd = impl.Ins{Op: impl.OpSkip}, impl.Ins{Op: impl.OpEnd}

// A code in which each Op stands, in the procedure ahead of another one or in that.
func ordinaryCode() impl.Code {
	return impl.Code{
		Globals: []string{"x", "y"}, Locks: []string{"a", "b", "c"}, Procs: []string{"p", "main"}, Entry: []int{0, 9},
		Ins: []impl.Ins{
			insNamed(impl.OpSpawn, 1),
			insTest(pair(impl.TmLess, read("x"), num(3)), 5),
			insNamed(impl.OpLock, 2),
			insSet(1, pair(impl.TmAdd, read("x"), num(1))),
			insJump(1),
			insNamed(impl.OpUnlock, 1),
			insNamed(impl.OpCall, 0),
			insSkip,
			insEnd,
			insTest(not(read("y")), 12),
			insSet(0, num(7)),
			insJump(13),
			insNamed(impl.OpCall, 1),
			insEnd,
		},
	}
}

// The lines of ordinaryCode.
var ordinaryLines = []string{
	"0 spawn main", "1 test (x < 3) else 5", "2 lock c", "3 set y = (x + 1)", "4 jump 1", "5 unlock b", "6 call p", "7 skip", "8 end",
	"9 test (not y) else 12", "10 set x = 7", "11 jump 13", "12 call main", "13 end",
}

func copyOfCode(k impl.Code) impl.Code {
	list := make([]impl.Ins, 0, len(k.Ins)+3)
	for _, in := range k.Ins {
		list = append(list, impl.Ins{Op: in.Op, Arg: in.Arg, Term: copyOf(in.Term), To: in.To})
	}
	return impl.Code{Globals: slices.Clone(k.Globals), Locks: slices.Clone(k.Locks), Procs: slices.Clone(k.Procs), Entry: slices.Clone(k.Entry), Ins: list}
}

// A writing of all that is in a code, right or not.
func allOfCode(k impl.Code) string {
	all := ""
	for _, list := range [][]string{k.Globals, k.Locks, k.Procs} {
		for _, name := range list {
			all += strconv.Quote(name) + ","
		}
		all += ";"
	}
	for _, entry := range k.Entry {
		all += strconv.Itoa(entry) + ","
	}
	for _, in := range k.Ins {
		all += "\n" + strconv.Itoa(in.Op) + "/" + strconv.Itoa(in.Arg) + "/" + strconv.Itoa(in.To) + "/" + allOf(in.Term)
	}
	return all
}

// Of a code that is right each place and each procedure is told, and of what is none nothing.
func wantRightCode(t *testing.T, k impl.Code, what string) {
	t.Helper()
	if !impl.CodeOk(k) {
		t.Errorf("%s is not right:\n%.2000s", what, allOfCode(k))
		return
	}
	proc := 0
	for at, in := range k.Ins {
		if got := impl.ProcOf(k, at); got != proc {
			t.Errorf("%s: ProcOf %d is %d; want %d", what, at, got, proc)
		}
		if got, want := impl.InsLine(k, at), lineByRule(k, at); got != want {
			t.Errorf("%s: InsLine %d is %q; want %q", what, at, got, want)
		}
		if in.Op == impl.OpEnd {
			if got := impl.EndOf(k, proc); got != at {
				t.Errorf("%s: EndOf %d is %d; want %d", what, proc, got, at)
			}
			proc++
		}
	}
	wantNoneThere(t, k, []int{-1, -2, math.MinInt, len(k.Ins), len(k.Ins) + 1, math.MaxInt}, what)
	for _, none := range []int{-1, -2, math.MinInt, proc, proc + 1, math.MaxInt} {
		if got := impl.EndOf(k, none); got != -1 {
			t.Errorf("%s: EndOf %d of %d procedures is %d", what, none, proc, got)
		}
	}
}

// Of a code that is not right nothing is told.
func wantWrongCode(t *testing.T, k impl.Code, what string) {
	t.Helper()
	if impl.CodeOk(k) {
		t.Errorf("%s is right:\n%.2000s", what, allOfCode(k))
	}
	wantNoneThere(t, k, []int{0, 1, 2, 9, len(k.Ins) - 1, len(k.Ins), -1, math.MinInt, math.MaxInt}, what)
	for _, proc := range []int{0, 1, 2, len(k.Entry) - 1, len(k.Entry), -1, math.MinInt, math.MaxInt} {
		if got := impl.EndOf(k, proc); got != -1 {
			t.Errorf("%s: EndOf %d is %d", what, proc, got)
		}
	}
}

func wantNoneThere(t *testing.T, k impl.Code, places []int, what string) {
	t.Helper()
	for _, at := range places {
		if got := impl.ProcOf(k, at); got != -1 {
			t.Errorf("%s: ProcOf %d is %d; want -1", what, at, got)
		}
		if got := impl.InsLine(k, at); got != "" {
			t.Errorf("%s: InsLine %d is %q; want nothing", what, at, got)
		}
	}
}

func wantCode(t *testing.T, p impl.Prog, want impl.Code, what string) {
	t.Helper()
	k, ok := impl.CodeOf(p)
	if !ok || allOfCode(k) != allOfCode(want) {
		t.Errorf("CodeOf %s is %v and\n%s\nwant\n%s", what, ok, allOfCode(k), allOfCode(want))
	}
	wantRightCode(t, k, what)
}

// That a program with one procedure, named main, and these statements has these instructions, the last of them ahead of its OpEnd.
func wantInsOfMain(t *testing.T, stmts string, want ...impl.Ins) {
	t.Helper()
	p, fault := impl.ReadProg("globals x, y; locks a, b; proc main {" + stmts + "}")
	if fault != (impl.Fault{}) {
		t.Fatalf("%q is not read: %v", stmts, fault)
	}
	wantCode(t, p, impl.Code{Globals: p.Globals, Locks: p.Locks, Procs: []string{"main"}, Entry: []int{0}, Ins: append(slices.Clone(want), insEnd)}, stmts)
}

func wantLinesOf(t *testing.T, text string, entry []int, want ...string) {
	t.Helper()
	p, fault := impl.ReadProg(text)
	k, ok := impl.CodeOf(p)
	if fault != (impl.Fault{}) || !ok || !slices.Equal(k.Entry, entry) || len(k.Ins) != len(want) {
		t.Fatalf("of %q: %v, %v, entries %v, %d instructions", text, fault, ok, k.Entry, len(k.Ins))
	}
	wantRightCode(t, k, text)
	for at, line := range want {
		if got := impl.InsLine(k, at); got != line {
			t.Errorf("InsLine %d of %q is %q; want %q", at, text, got, line)
		}
	}
}

func wantNoCode(t *testing.T, p impl.Prog, what string) {
	t.Helper()
	if k, ok := impl.CodeOf(p); ok || allOfCode(k) != allOfCode(impl.Code{}) {
		t.Errorf("CodeOf %s is %v and\n%.2000s", what, ok, allOfCode(k))
	}
}

func TestCodeConstants(t *testing.T) {
	for i, op := range allOps {
		if op != i+1 {
			t.Errorf("the Op with the number %d is %d", i+1, op)
		}
	}
}

func TestCodeOfAnOrdinaryProgram(t *testing.T) {
	p := ordinaryProg()
	wantCode(t, p, impl.Code{
		Globals: p.Globals, Locks: p.Locks, Procs: []string{"main", "go1", "idle"}, Entry: []int{0, 4, 10},
		Ins: []impl.Ins{
			insNamed(impl.OpSpawn, 1), insNamed(impl.OpCall, 1), insSet(1, num(0)), insEnd,
			insNamed(impl.OpLock, 0), insTest(pair(impl.TmLess, read("x"), num(3)), 8), insSet(0, pair(impl.TmAdd, read("x"), num(1))), insJump(5), insNamed(impl.OpUnlock, 0), insEnd,
			insEnd,
		},
	}, "an ordinary program")
}

func TestCodeOfEachStatementAlone(t *testing.T) {
	x := read("x")
	wantInsOfMain(t, "")
	wantInsOfMain(t, "skip;", insSkip)
	wantInsOfMain(t, "x = 1;", insSet(0, num(1)))
	wantInsOfMain(t, "y = (x - (not y));", insSet(1, pair(impl.TmSub, x, not(read("y")))))
	wantInsOfMain(t, "lock a;", insNamed(impl.OpLock, 0))
	wantInsOfMain(t, "lock b;", insNamed(impl.OpLock, 1))
	wantInsOfMain(t, "unlock a;", insNamed(impl.OpUnlock, 0))
	wantInsOfMain(t, "unlock b;", insNamed(impl.OpUnlock, 1))
	wantInsOfMain(t, "call main;", insNamed(impl.OpCall, 0))
	wantInsOfMain(t, "spawn main;", insNamed(impl.OpSpawn, 0))
	wantInsOfMain(t, "while x { skip; }", insTest(x, 3), insSkip, insJump(0))
	wantInsOfMain(t, "if x { skip; }", insTest(x, 2), insSkip)
	wantInsOfMain(t, "if x { skip; } else { lock b; }", insTest(x, 3), insSkip, insJump(4), insNamed(impl.OpLock, 1))
}

// Each test and jump where a Body has nothing, and where there is no Else.
func TestCodeOfStatementsWithoutABody(t *testing.T) {
	x, one := read("x"), num(1)
	wantInsOfMain(t, "if x { }", insTest(x, 1))
	wantInsOfMain(t, "if x { } skip;", insTest(x, 1), insSkip)
	wantInsOfMain(t, "while x { }", insTest(x, 2), insJump(0))
	wantInsOfMain(t, "while x { } skip;", insTest(x, 2), insJump(0), insSkip)
	wantInsOfMain(t, "if x { } else { skip; }", insTest(x, 2), insJump(3), insSkip)
	wantInsOfMain(t, "if x { } else { if 1 { } }", insTest(x, 2), insJump(3), insTest(one, 3))
	wantInsOfMain(t, "if x { } else { while 1 { } }", insTest(x, 2), insJump(4), insTest(one, 4), insJump(2))
	wantInsOfMain(t, "while x { while 1 { } }", insTest(x, 4), insTest(one, 3), insJump(1), insJump(0))
	wantInsOfMain(t, "if x { if 1 { } }", insTest(x, 2), insTest(one, 2))
	wantInsOfMain(t, "while x { if 1 { } }", insTest(x, 3), insTest(one, 2), insJump(0))
	wantInsOfMain(t, "if x { while 1 { } }", insTest(x, 3), insTest(one, 3), insJump(1))
	wantInsOfMain(t, "if x { } if x { } while x { } if 1 { }", insTest(x, 1), insTest(x, 2), insTest(x, 4), insJump(2), insTest(one, 5))
	for _, none := range emptyLists[impl.Stmt]() {
		// An Else that is a list without statements is none.
		s := impl.Stmt{Kind: impl.StIf, Term: x, Body: none, Else: none}
		loop := impl.Stmt{Kind: impl.StWhile, Term: x, Body: none, Else: none}
		wantCode(t, prog([]string{"x"}, nil, proc("main", s, loop)),
			impl.Code{Globals: []string{"x"}, Procs: []string{"main"}, Entry: []int{0}, Ins: []impl.Ins{insTest(x, 1), insTest(x, 3), insJump(1), insEnd}}, "statements without others")
	}
}

func TestCodeOfStatementsWithinOthers(t *testing.T) {
	x, y, one := read("x"), read("y"), num(1)
	wantInsOfMain(t, "while x { if y { x = 1; } else { y = 1; } skip; } skip;",
		insTest(x, 7), insTest(y, 4), insSet(0, one), insJump(5), insSet(1, one), insSkip, insJump(0), insSkip)
	wantInsOfMain(t, "while x { if y { x = 1; } else { y = 1; } }",
		insTest(x, 6), insTest(y, 4), insSet(0, one), insJump(5), insSet(1, one), insJump(0))
	wantInsOfMain(t, "skip; while x { skip; while y { skip; } skip; }",
		insSkip, insTest(x, 8), insSkip, insTest(y, 6), insSkip, insJump(3), insSkip, insJump(1))
	wantInsOfMain(t, "if x { while y { skip; } } else { while 1 { skip; } skip; }",
		insTest(x, 5), insTest(y, 4), insSkip, insJump(1), insJump(9), insTest(one, 8), insSkip, insJump(5), insSkip)
	wantInsOfMain(t, "if x { if y { skip; } else { lock a; } } else { if 1 { lock b; } else { unlock a; } }",
		insTest(x, 6), insTest(y, 4), insSkip, insJump(5), insNamed(impl.OpLock, 0), insJump(10), insTest(one, 9), insNamed(impl.OpLock, 1), insJump(10), insNamed(impl.OpUnlock, 0))
	wantInsOfMain(t, "if x { skip; if y { skip; } } if y { skip; }",
		insTest(x, 4), insSkip, insTest(y, 4), insSkip, insTest(y, 6), insSkip)
}

func TestLinesOfSeveralProcedures(t *testing.T) {
	wantLinesOf(t, "globals x, y; locks a, b; proc main { spawn p; lock a; x = (x + 1); unlock a; y = 1; } proc p { lock a; x = 2; unlock a; call q; } proc q { y = x; }", []int{0, 6, 11},
		"0 spawn p", "1 lock a", "2 set x = (x + 1)", "3 unlock a", "4 set y = 1", "5 end", "6 lock a", "7 set x = 2", "8 unlock a", "9 call q", "10 end", "11 set y = x", "12 end")
	wantLinesOf(t, "globals x; locks; proc p { while x { skip; } } proc main { if 1 { } else { x = 1; } } proc q { }", []int{0, 4, 8},
		"0 test x else 3", "1 skip", "2 jump 0", "3 end", "4 test 1 else 6", "5 jump 7", "6 set x = 1", "7 end", "8 end")
	wantLinesOf(t, "globals; locks; proc main { }", []int{0}, "0 end")
	wantLinesOf(t, "globals; locks; proc p { } proc q { } proc main { }", []int{0, 1, 2}, "0 end", "1 end", "2 end")
	wantLinesOf(t, "globals; locks; proc q { call main; while 0 { spawn q; } } proc main { if 1 { call q; } else { call main; } }", []int{0, 5},
		"0 call main", "1 test 0 else 4", "2 spawn q", "3 jump 1", "4 end", "5 test 1 else 8", "6 call q", "7 jump 9", "8 call main", "9 end")
	wantLinesOf(t, "globals n, main; locks main, n; proc n { n = main; lock n; } proc main { main = n; unlock main; call n; spawn main; }", []int{0, 3},
		"0 set n = main", "1 lock n", "2 end", "3 set main = n", "4 unlock main", "5 call n", "6 spawn main", "7 end")
}

func TestCodeOfListsWithoutNames(t *testing.T) {
	full := ordinaryProg()
	for _, none := range emptyLists[string]() {
		wantCode(t, prog(none, none, proc("main", skip)), impl.Code{Procs: []string{"main"}, Entry: []int{0}, Ins: []impl.Ins{insSkip, insEnd}}, "a program without globals and locks")
		wantCode(t, prog(none, full.Locks, proc("main", word(impl.StLock, "b"))), impl.Code{Locks: full.Locks, Procs: []string{"main"}, Entry: []int{0}, Ins: []impl.Ins{insNamed(impl.OpLock, 1), insEnd}}, "a program without globals")
		wantCode(t, prog(full.Globals, none, proc("main", set("y", num(1)))), impl.Code{Globals: full.Globals, Procs: []string{"main"}, Entry: []int{0}, Ins: []impl.Ins{insSet(1, num(1)), insEnd}}, "a program without locks")
		for _, noStmts := range emptyLists[impl.Stmt]() {
			wantCode(t, prog(none, none, proc("main", noStmts...), proc("p", noStmts...)), impl.Code{Procs: []string{"main", "p"}, Entry: []int{0, 1}, Ins: []impl.Ins{insEnd, insEnd}}, "a program without statements")
		}
	}
}

// As many names, procedures and statements as may be: their code is right, although there is no text of it.
func TestCodeOfTheGreatestPrograms(t *testing.T) {
	globals, locks := namesOf("abcdefghijk", impl.MaxGlobals), namesOf("l", impl.MaxLocks)
	last := globals[impl.MaxGlobals-1]
	for body, size := range map[*impl.Stmt]int{
		{Kind: impl.StSet, Name: last, Term: num(impl.MaxNumber)}:      1,
		{Kind: impl.StLock, Name: locks[impl.MaxLocks-1]}:              1,
		{Kind: impl.StWhile, Term: read(last)}:                         2,
		{Kind: impl.StIf, Term: read(last)}:                            1,
		{Kind: impl.StCall, Name: "p" + strconv.Itoa(impl.MaxProcs-2)}: 1,
	} {
		procs := append(procsOf(impl.MaxProcs-1), proc("main"))
		for i := range procs {
			procs[i].Body = slices.Repeat([]impl.Stmt{*body}, impl.MaxStmts)
		}
		p := prog(globals, locks, procs...)
		wantCode(t, p, codeByRule(p), "a great program")
		if k, _ := impl.CodeOf(p); len(k.Ins) != impl.MaxProcs*(size*impl.MaxStmts+1) {
			t.Errorf("the code of a great program has %d instructions", len(k.Ins))
		}
	}
	for i, body := range bodiesOf(impl.MaxStmts) {
		p := prog([]string{"x"}, nil, append(procsOf(impl.MaxProcs-1, body...), proc("main", body...))...)
		wantCode(t, p, codeByRule(p), "body "+strconv.Itoa(i))
	}
	for i, around := range aroundStmtWays() {
		deep := nested(impl.MaxDeep, set("x", nested(impl.MaxDeep, read("x"), not)), around)
		p := prog([]string{"x"}, []string{"a"}, proc("p", deep), proc("main", skip, deep, skip))
		wantCode(t, p, codeByRule(p), "statements as deep as may be, way "+strconv.Itoa(i))
	}
}

func TestNoCodeOfAProgramWithAFault(t *testing.T) {
	for text, fault := range map[string]int{
		"globals x, x; locks; proc main { }":          impl.PrTwice,
		"globals; locks a, a; proc main { }":          impl.PrTwice,
		"globals; locks; proc main { } proc main { }": impl.PrTwice,
		"globals; locks; proc main { x = 1; }":        impl.PrName,
		"globals x; locks; proc main { x = y; }":      impl.PrName,
		"globals x; locks; proc main { while y { } }": impl.PrName,
		"globals x; locks; proc main { lock x; }":     impl.PrName,
		"globals; locks; proc main { unlock a; }":     impl.PrName,
		"globals; locks; proc main { call q; }":       impl.PrName,
		"globals; locks; proc main { spawn q; }":      impl.PrName,
		"globals; locks; proc p { }":                  impl.PrMain,
		"globals; locks;":                             impl.PrMain,
	} {
		p, _ := impl.ReadProg(text)
		if impl.ProgFault(p) != fault {
			t.Fatalf("ProgFault of %q is not %d", text, fault)
		}
		wantNoCode(t, p, text)
	}
	wantNoCode(t, impl.Prog{}, "the zero program")
	for i, wrong := range wrongStmts() {
		wantNoCode(t, prog([]string{"x"}, []string{"a"}, proc("main", skip, wrong), proc("p")), "wrong statement "+strconv.Itoa(i))
		wantNoCode(t, prog([]string{"x"}, []string{"a"}, proc("main"), proc("p", while(num(1), wrong))), "wrong statement "+strconv.Itoa(i)+" within another")
	}
	for _, name := range wrongNames() {
		wantNoCode(t, prog([]string{name}, nil, proc("main")), "a global "+strconv.Quote(name))
		wantNoCode(t, prog(nil, []string{name}, proc("main")), "a lock "+strconv.Quote(name))
		wantNoCode(t, prog(nil, nil, proc("main"), proc(name)), "a procedure "+strconv.Quote(name))
	}
	for _, around := range aroundStmtWays() {
		wantNoCode(t, prog([]string{"x"}, []string{"a"}, proc("main", nested(impl.MaxDeep+1, skip, around))), "statements one too deep")
	}
	for _, body := range bodiesOf(impl.MaxStmts + 1) {
		wantNoCode(t, prog([]string{"x"}, []string{"a"}, proc("main", body...)), "a statement too many")
	}
	wantNoCode(t, prog(namesOf("g", impl.MaxGlobals+1), nil, proc("main")), "a global too many")
	wantNoCode(t, prog(nil, namesOf("l", impl.MaxLocks+1), proc("main")), "a lock too many")
	wantNoCode(t, prog(nil, nil, append(procsOf(impl.MaxProcs), proc("main"))...), "a procedure too many")
	wantNoCode(t, prog(nil, nil, proc("main", knottedStmts(2, true, impl.StIf)...)), "statements within themselves")
	wantNoCode(t, prog([]string{"x"}, nil, proc("main", set("x", knotted(impl.TmAdd, 2, 1)))), "a term within itself")
}

func TestLinesOfAnOrdinaryCode(t *testing.T) {
	k := ordinaryCode()
	wantRightCode(t, k, "an ordinary code")
	for at, line := range ordinaryLines {
		if got := impl.InsLine(k, at); got != line {
			t.Errorf("InsLine %d is %q; want %q", at, got, line)
		}
	}
	for at := range k.Ins {
		want := 0
		if at >= 9 {
			want = 1
		}
		if got := impl.ProcOf(k, at); got != want {
			t.Errorf("ProcOf %d is %d; want %d", at, got, want)
		}
	}
	if impl.EndOf(k, 0) != 8 || impl.EndOf(k, 1) != 13 {
		t.Errorf("EndOf both procedures is %d and %d", impl.EndOf(k, 0), impl.EndOf(k, 1))
	}
}

func TestLineOfEachTerm(t *testing.T) {
	k := impl.Code{Globals: []string{"abcdefghijkl", "x"}, Procs: []string{"main"}, Entry: []int{0}}
	for _, term := range []impl.Term{num(0), num(impl.MaxNumber), read("x"), read("abcdefghijkl"), not(not(read("x"))), pair(impl.TmAnd, pair(impl.TmMul, read("x"), num(2)), pair(impl.TmSame, num(1), read("x")))} {
		k.Ins = []impl.Ins{insSet(0, term), insTest(term, 0), insTest(term, 3), insEnd}
		wantRightCode(t, k, "a code of one term")
		text := impl.TermText(term)
		for at, line := range []string{"0 set abcdefghijkl = " + text, "1 test " + text + " else 0", "2 test " + text + " else 3", "3 end"} {
			if got := impl.InsLine(k, at); got != line {
				t.Errorf("InsLine %d is %q; want %q", at, got, line)
			}
		}
	}
}

// A code with as many instructions, in as many procedures of which the last one is main; all but the last have one alone.
func codeOfSize(size int, procs int) impl.Code {
	k := impl.Code{Procs: append(namesOf("p", procs-1), "main")}
	for i := range procs - 1 {
		k.Entry, k.Ins = append(k.Entry, i), append(k.Ins, insEnd)
	}
	k.Entry = append(k.Entry, procs-1)
	k.Ins = append(k.Ins, slices.Repeat([]impl.Ins{insSkip}, size-procs)...)
	k.Ins = append(k.Ins, insEnd)
	return k
}

func TestCodeAtItsLimits(t *testing.T) {
	for _, procs := range []int{1, 2, impl.MaxProcs} {
		for _, size := range []int{procs, procs + 1, mostIns - 1, mostIns} {
			wantRightCode(t, codeOfSize(size, procs), strconv.Itoa(size)+" instructions")
		}
		for _, size := range []int{mostIns + 1, mostIns + 2, 100000} {
			wantWrongCode(t, codeOfSize(size, procs), strconv.Itoa(size)+" instructions")
		}
		far := codeOfSize(mostIns, procs)
		far.Ins[procs-1], far.Ins[mostIns-2] = insJump(mostIns-1), insTest(num(1), procs-1)
		wantRightCode(t, far, "jumps as far as may be")
		if got, want := impl.InsLine(far, procs-1), strconv.Itoa(procs-1)+" jump 1499"; got != want {
			t.Errorf("InsLine is %q; want %q", got, want)
		}
	}
	for many := range impl.MaxGlobals + 1 {
		k := ordinaryCode()
		k.Globals = append(k.Globals, namesOf("g", many)...)
		k.Locks = append(k.Locks, namesOf("l", many)...)
		if ok := many <= impl.MaxGlobals-2 && many <= impl.MaxLocks-3; impl.CodeOk(k) != ok {
			t.Errorf("with %d globals and %d locks it is %v", len(k.Globals), len(k.Locks), !ok)
		}
	}
	for _, names := range [][2]int{{impl.MaxGlobals, impl.MaxLocks}, {impl.MaxGlobals, 0}, {0, impl.MaxLocks}, {0, 0}} {
		k := codeOfSize(10, impl.MaxProcs)
		k.Globals, k.Locks = namesOf("g", names[0]), namesOf("l", names[1])
		wantRightCode(t, k, "as many names as may be")
		for _, more := range []int{1, 2, 1000} {
			k.Globals, k.Locks = namesOf("g", impl.MaxGlobals+more), namesOf("l", names[1])
			wantWrongCode(t, k, "globals too many")
			k.Globals, k.Locks = namesOf("g", names[0]), namesOf("l", impl.MaxLocks+more)
			wantWrongCode(t, k, "locks too many")
			wantWrongCode(t, codeOfSize(1200, impl.MaxProcs+more), "procedures too many")
		}
	}
}

// An Arg is a number of its own kind of names, up to the last one.
func TestCodeWithEachArg(t *testing.T) {
	sizes := map[int]int{impl.OpSet: 2, impl.OpLock: 3, impl.OpUnlock: 3, impl.OpCall: 4, impl.OpSpawn: 4}
	for _, op := range allOps {
		for _, arg := range []int{math.MinInt, -4, -3, -2, -1, 0, 1, 2, 3, 4, 5, 6, 7, math.MaxInt} {
			k := impl.Code{Globals: namesOf("g", 2), Locks: namesOf("l", 3), Procs: []string{"p0", "p1", "p2", "main"}, Entry: []int{0, 1, 2, 3}, Ins: []impl.Ins{insEnd, insEnd, insEnd, {Op: op, Arg: arg}, insEnd}}
			in := &k.Ins[3]
			switch op {
			case impl.OpSet:
				in.Term = num(1)
			case impl.OpTest:
				in.Term, in.To = num(1), 4
			case impl.OpJump:
				in.To = 3
			case impl.OpEnd:
				k.Ins = k.Ins[:4]
			}
			if size, ok := sizes[op]; arg == 0 || ok && arg > 0 && arg < size {
				wantRightCode(t, k, "Arg "+strconv.Itoa(arg)+" of Op "+strconv.Itoa(op))
			} else {
				wantWrongCode(t, k, "Arg "+strconv.Itoa(arg)+" of Op "+strconv.Itoa(op))
			}
		}
	}
	for _, op := range []int{impl.OpSet, impl.OpLock, impl.OpUnlock} {
		k := impl.Code{Procs: []string{"main"}, Entry: []int{0}, Ins: []impl.Ins{{Op: op}, insEnd}}
		if op == impl.OpSet {
			k.Ins[0].Term = num(1)
		}
		wantWrongCode(t, k, "Arg 0 of Op "+strconv.Itoa(op)+" without such a name")
	}
}

// A To is a place of the same procedure, from its entry to its OpEnd; where there is to be none, 0.
func TestCodeWithEachTo(t *testing.T) {
	bounds := [][2]int{{0, 8}, {9, 13}}
	for at := range ordinaryCode().Ins {
		for _, to := range []int{math.MinInt, -9, -1, 0, 1, 4, 7, 8, 9, 10, 12, 13, 14, 15, 1499, 1500, math.MaxInt} {
			k := ordinaryCode()
			in := &k.Ins[at]
			in.To = to
			proc := bounds[at/9]
			right := to == 0
			if in.Op == impl.OpTest || in.Op == impl.OpJump {
				right = to >= proc[0] && to <= proc[1]
			}
			if what := "To " + strconv.Itoa(to) + " at " + strconv.Itoa(at); right {
				wantRightCode(t, k, what)
			} else {
				wantWrongCode(t, k, what)
			}
		}
	}
	// Procedures in a row, each with a jump to each place.
	for from := range 3 {
		for to := -1; to <= 7; to++ {
			k := impl.Code{Procs: []string{"p", "main", "q"}, Entry: []int{0, 2, 4}, Ins: []impl.Ins{insSkip, insEnd, insSkip, insEnd, insSkip, insEnd}}
			k.Ins[2*from] = insJump(to)
			if ok := to == 2*from || to == 2*from+1; impl.CodeOk(k) != ok {
				t.Errorf("a jump from %d to %d is %v", 2*from, to, !ok)
			}
			k.Ins[2*from] = insTest(num(1), to)
			if ok := to == 2*from || to == 2*from+1; impl.CodeOk(k) != ok {
				t.Errorf("a test from %d to %d is %v", 2*from, to, !ok)
			}
		}
	}
}

// A Term is right, and reads globals alone, where there is to be one; else it is the zero one.
func TestCodeWithEachTerm(t *testing.T) {
	right := []impl.Term{num(0), num(impl.MaxNumber), read("x"), read("y"), not(read("y")), pair(impl.TmAnd, read("x"), not(read("x"))), nested(impl.MaxDeep, read("y"), not)}
	wrong := append(wrongTerms(), nested(impl.MaxDeep+1, read("x"), not), knotted(impl.TmAdd, 1, 1), knotted(impl.TmNot, 3, 1), nested(100000, num(1), not),
		impl.Term{Kind: impl.TmAdd, Kids: slices.Repeat([]impl.Term{num(1)}, 100000)},
		// Names that are there, but of no global.
		read("a"), read("p"), read("main"), read("none"), read("x1"), not(read("a")), pair(impl.TmAdd, read("x"), read("z")), pair(impl.TmAdd, read("z"), read("x")),
		nested(impl.MaxDeep, read("b"), func(m impl.Term) impl.Term { return pair(impl.TmLess, num(1), m) }))
	for at, in := range ordinaryCode().Ins {
		has := in.Op == impl.OpSet || in.Op == impl.OpTest
		for i, term := range slices.Concat(right, wrong) {
			k := ordinaryCode()
			k.Ins[at].Term = term
			if has && i < len(right) || !has && impl.SameTerm(term, impl.Term{}) {
				wantRightCode(t, k, "term "+strconv.Itoa(i)+" at "+strconv.Itoa(at))
			} else if impl.CodeOk(k) || impl.InsLine(k, at) != "" || impl.ProcOf(k, at) != -1 || impl.EndOf(k, 0) != -1 {
				t.Errorf("with term %d at %d it is right", i, at)
			}
		}
		k := ordinaryCode()
		for _, kids := range emptyLists[impl.Term]() {
			k.Ins[at].Term.Kids = kids
			if ok := !has || k.Ins[at].Term.Kind == impl.TmNum; impl.CodeOk(k) != ok {
				t.Errorf("with kids that are none at %d it is %v", at, !ok)
			}
		}
	}
	none := ordinaryCode()
	none.Globals = nil
	wantWrongCode(t, none, "terms that read what is not there")
	one := ordinaryCode()
	one.Globals = []string{"y", "x"}
	wantRightCode(t, one, "globals the other way round")
}

func TestCodeWithOpsThatAreNone(t *testing.T) {
	for at, in := range ordinaryCode().Ins {
		for _, op := range noOps {
			k := ordinaryCode()
			k.Ins[at] = impl.Ins{Op: op}
			wantWrongCode(t, k, "Op "+strconv.Itoa(op)+" at "+strconv.Itoa(at))
			k.Ins[at] = in
			k.Ins[at].Op = op
			wantWrongCode(t, k, "Op "+strconv.Itoa(op)+" with the rest of another at "+strconv.Itoa(at))
		}
		for _, op := range allOps {
			k := ordinaryCode()
			k.Ins[at].Op = op
			if ok := codeOkByRule(k); impl.CodeOk(k) != ok {
				t.Errorf("with Op %d at %d it is %v", op, at, !ok)
			}
		}
	}
}

func TestCodeWithWrongNames(t *testing.T) {
	for _, name := range wrongNames() {
		for list := range 3 {
			for at := range 2 {
				k := ordinaryCode()
				[][]string{k.Globals, k.Locks, k.Procs}[list][at] = name
				wantWrongCode(t, k, "a name "+strconv.Quote(name)+" in list "+strconv.Itoa(list))
			}
		}
	}
	for list := range 3 {
		k := ordinaryCode()
		[][]string{k.Globals, k.Locks, k.Procs}[list][0] = strings.Repeat("a", impl.MaxName+1)
		wantWrongCode(t, k, "a name that is too long")
	}
	for many := 2; many <= impl.MaxProcs; many++ {
		for second := range many {
			for first := range second {
				names := namesOf("n", many)
				names[second] = names[first]
				k := ordinaryCode()
				if many <= impl.MaxGlobals-2 {
					k.Globals = append(k.Globals, names...)
					wantWrongCode(t, k, "a global that stands twice")
					k = ordinaryCode()
				}
				if many <= impl.MaxLocks {
					k.Locks = names
					wantWrongCode(t, k, "a lock that stands twice")
				}
				k = codeOfSize(mostIns, many)
				k.Procs[second] = k.Procs[first]
				wantWrongCode(t, k, "a procedure that stands twice")
				k.Procs[first], k.Procs[second] = "main", "main"
				wantWrongCode(t, k, "a procedure main that stands twice")
			}
		}
	}
	// The same name in two or three lists is none too many.
	k := ordinaryCode()
	k.Locks = []string{"x", "main", "y"}
	wantRightCode(t, k, "locks that are globals and procedures")
	k.Procs = []string{"y", "main"}
	wantRightCode(t, k, "a procedure that is a global and a lock")
	k.Globals = []string{"x", "y", "main"}
	wantRightCode(t, k, "a global that is a procedure")
}

func TestCodeWithoutMain(t *testing.T) {
	for _, name := range []string{"mai", "main1", "mains", "m", "x", "a"} {
		k := ordinaryCode()
		k.Procs[1] = name
		wantWrongCode(t, k, "a code with "+name+" in place of main")
		k.Globals, k.Locks = append(k.Globals, "main"), append(k.Locks, "main")
		wantWrongCode(t, k, "a code with a global and a lock main")
	}
	k := ordinaryCode()
	k.Procs = []string{"main", "p"}
	wantRightCode(t, k, "a code with main ahead")
	wantWrongCode(t, impl.Code{}, "the zero code")
	wantWrongCode(t, impl.Code{Globals: []string{"x"}, Locks: []string{"a"}}, "a code without procedures")
	wantWrongCode(t, impl.Code{Ins: []impl.Ins{insEnd}}, "an OpEnd without a procedure")
	wantWrongCode(t, impl.Code{Procs: []string{"main"}}, "a code without entries and instructions")
	wantWrongCode(t, impl.Code{Procs: []string{"main"}, Entry: []int{0}}, "a code without instructions")
	wantWrongCode(t, impl.Code{Procs: []string{"main"}, Ins: []impl.Ins{insEnd}}, "a code without entries")
}

func TestCodeWithWrongEntries(t *testing.T) {
	// Procedures of 2, 1 and 3 instructions.
	base := func() impl.Code {
		return impl.Code{Procs: []string{"p", "q", "main"}, Entry: []int{0, 2, 3}, Ins: []impl.Ins{insSkip, insEnd, insEnd, insSkip, insSkip, insEnd}}
	}
	wantRightCode(t, base(), "a code of three procedures")
	for _, entry := range [][]int{
		nil, {}, {0}, {0, 2}, {0, 3}, {2, 3},
		{0, 2, 3, 6}, {0, 2, 3, 3}, {0, 0, 2, 3}, {0, 2, 3, 4}, {-1, 0, 2, 3}, {0, 2, 3, 5}, {0, 2, 3, 0}, {0, 2, 3, 7}, slices.Repeat([]int{0}, 1000),
		{1, 2, 3}, {-1, 2, 3}, {2, 2, 3}, {3, 2, 3}, {math.MinInt, 2, 3},
		{0, 3, 2}, {2, 0, 3}, {0, 2, 2}, {0, 3, 3}, {0, 0, 3}, {0, 0, 0}, {3, 2, 0}, {0, 2, 0},
		{0, 1, 3}, {0, 2, 4}, {0, 2, 5}, {0, 2, 6}, {0, 2, 7}, {0, 2, -1}, {0, -2, 3}, {0, 2, math.MaxInt}, {0, math.MinInt, 3}, {0, 3, 6},
	} {
		k := base()
		k.Entry = entry
		wantWrongCode(t, k, "entries "+strings.Join(strings.Fields(allOfCode(impl.Code{Entry: entry})), ""))
	}
	for _, procs := range [][]string{{"p", "main"}, {"main"}, {"p", "q", "r", "main"}, {"main", "p"}, nil} {
		k := base()
		k.Procs = procs
		wantWrongCode(t, k, strconv.Itoa(len(procs))+" procedures and three entries")
	}
	for at := range base().Ins {
		k := base()
		if k.Ins[at].Op == impl.OpEnd {
			k.Ins[at] = insSkip
			wantWrongCode(t, k, "an OpEnd that lacks at "+strconv.Itoa(at))
		} else {
			k.Ins[at] = insEnd
			wantWrongCode(t, k, "an OpEnd too many at "+strconv.Itoa(at))
		}
		less := base()
		less.Ins = less.Ins[:at]
		wantWrongCode(t, less, strconv.Itoa(at)+" of its instructions")
		more := base()
		more.Ins = slices.Insert(more.Ins, at, insEnd)
		wantWrongCode(t, more, "an OpEnd put in at "+strconv.Itoa(at))
	}
	for _, in := range []impl.Ins{insEnd, insSkip} {
		k := base()
		k.Ins = append(k.Ins, in)
		wantWrongCode(t, k, "an instruction behind all procedures")
	}
}

// What lies in the spare room behind a list does not stand in it.
func TestCodeWithSpareRoom(t *testing.T) {
	k := ordinaryCode()
	part := impl.Code{Globals: k.Globals[:1], Locks: k.Locks[:1], Procs: []string{"main", "main"}[:1], Entry: []int{0, 0}[:1], Ins: []impl.Ins{insNamed(impl.OpLock, 0), insSet(0, num(1)), insEnd, insEnd, {}}[:3]}
	wantRightCode(t, part, "a code with spare room")
	wantNoneThere(t, part, []int{3, 4}, "a code with spare room")
	part.Ins = part.Ins[:4]
	wantWrongCode(t, part, "a code with less spare room")
	part.Ins = part.Ins[:2]
	wantWrongCode(t, part, "a code with more spare room")
	stmts := []impl.Stmt{skip, set("z", num(1)), {}}
	wantCode(t, prog([]string{"x", "x"}[:1], []string{"a", "a"}[:1], []impl.Proc{proc("main", stmts[:1]...), proc("main")}[:1]...),
		impl.Code{Globals: []string{"x"}, Locks: []string{"a"}, Procs: []string{"main"}, Entry: []int{0}, Ins: []impl.Ins{insSkip, insEnd}}, "a program with spare room")
}

// The line of an instruction, told from a table of what its Op has.
func lineByRule(k impl.Code, at int) string {
	in := k.Ins[at]
	name := func(names []string) string {
		if in.Arg < 0 || in.Arg >= len(names) {
			return "none"
		}
		return names[in.Arg]
	}
	term := impl.TermText(in.Term)
	return strconv.Itoa(at) + " " + map[int]string{
		impl.OpSet: "set " + name(k.Globals) + " = " + term, impl.OpTest: "test " + term + " else " + strconv.Itoa(in.To), impl.OpJump: "jump " + strconv.Itoa(in.To),
		impl.OpCall: "call " + name(k.Procs), impl.OpSpawn: "spawn " + name(k.Procs), impl.OpLock: "lock " + name(k.Locks), impl.OpUnlock: "unlock " + name(k.Locks),
		impl.OpSkip: "skip", impl.OpEnd: "end",
	}[in.Op]
}

// Whether a code is right, told procedure by procedure as its OpEnds part it.
func codeOkByRule(k impl.Code) bool {
	for i, names := range [][]string{k.Globals, k.Locks, k.Procs} {
		met := map[string]bool{}
		for _, name := range names {
			if met[name] || !impl.IsName(name) {
				return false
			}
			met[name] = true
		}
		if len(names) > []int{6, 6, 8}[i] {
			return false
		}
	}
	if !slices.Contains(k.Procs, "main") || len(k.Ins) > 1500 || len(k.Entry) != len(k.Procs) {
		return false
	}
	begin := 0
	for _, entry := range k.Entry {
		size := 1 + slices.IndexFunc(k.Ins[begin:], func(in impl.Ins) bool { return in.Op == impl.OpEnd })
		if entry != begin || size == 0 {
			return false
		}
		for at := begin; at < begin+size; at++ {
			if !insOkByRule(k, k.Ins[at], begin, begin+size) {
				return false
			}
		}
		begin += size
	}
	return begin == len(k.Ins)
}

// Whether an instruction of a procedure that lies from begin on, and below end, is right.
func insOkByRule(k impl.Code, in impl.Ins, begin int, end int) bool {
	rightTerm := impl.TermOk(in.Term) && !slices.ContainsFunc(impl.ReadsOf(in.Term), func(name string) bool { return !slices.Contains(k.Globals, name) })
	noTerm, rightTo := allOf(in.Term) == allOf(impl.Term{}), in.To >= begin && in.To < end
	among := func(names []string) bool { return in.Arg >= 0 && in.Arg < len(names) }
	switch in.Op {
	case impl.OpSet:
		return among(k.Globals) && rightTerm && in.To == 0
	case impl.OpTest:
		return in.Arg == 0 && rightTerm && rightTo
	case impl.OpJump:
		return in.Arg == 0 && noTerm && rightTo
	case impl.OpCall, impl.OpSpawn:
		return among(k.Procs) && noTerm && in.To == 0
	case impl.OpLock, impl.OpUnlock:
		return among(k.Locks) && noTerm && in.To == 0
	case impl.OpSkip, impl.OpEnd:
		return in.Arg == 0 && noTerm && in.To == 0
	}
	return false
}

// The code of a program without a fault, told line by line of its text; what is still open lies on a pile.
func codeByRule(p impl.Prog) impl.Code {
	k := impl.Code{Globals: p.Globals, Locks: p.Locks}
	for _, one := range p.Procs {
		k.Procs = append(k.Procs, one.Name)
	}
	for _, one := range p.Procs {
		k.Entry = append(k.Entry, len(k.Ins))
		var open []int
		lines, _ := linesByRule(one.Body, 0)
		for _, line := range lines {
			at, last := len(k.Ins), len(open)-1
			head, rest, _ := strings.Cut(line, " ")
			switch head {
			case "while", "if":
				term, _ := impl.ReadTerm(strings.TrimSuffix(rest, " {"))
				// A place below 0 is one to which a jump leads back.
				open, k.Ins = append(open, map[string]int{"while": -1 - at, "if": at}[head]), append(k.Ins, insTest(term, 0))
			case "}":
				if place := open[last]; place < 0 {
					k.Ins, open[last] = append(k.Ins, insJump(-1-place)), -1-place
				}
				if rest == "else {" {
					k.Ins = append(k.Ins, insJump(0))
				}
				k.Ins[open[last]].To, open[last] = len(k.Ins), at
				if rest == "" {
					open = open[:last]
				}
			default:
				k.Ins = append(k.Ins, plainByRule(k, head, strings.TrimSuffix(rest, ";")))
			}
		}
		k.Ins = append(k.Ins, insEnd)
	}
	return k
}

// The instruction of a line without braces.
func plainByRule(k impl.Code, head string, rest string) impl.Ins {
	switch head {
	case "skip;":
		return insSkip
	case "call", "spawn":
		return insNamed(map[string]int{"call": 4, "spawn": 5}[head], slices.Index(k.Procs, rest))
	case "lock", "unlock":
		return insNamed(map[string]int{"lock": 6, "unlock": 7}[head], slices.Index(k.Locks, rest))
	}
	term, _ := impl.ReadTerm(strings.TrimPrefix(rest, "= "))
	return insSet(slices.Index(k.Globals, head), term)
}

// A program picked by a number that is multiplied on, most often without a fault.
func anySoundProg(seed *int) impl.Prog {
	p := prog([]string{"yy", "x", "z1"}, []string{"z1", "yy", "x"}, proc("x"), proc("main"), proc("z1"), proc("yy"))
	for i := range p.Procs {
		*seed = (*seed*1103 + 12345) % 1000003
		p.Procs[i].Body = anyStmts(seed, *seed/7%4, *seed/29%4)
	}
	return p
}

func TestCodeByItsRule(t *testing.T) {
	right, wrong := 0, 0
	for seed := range 6000 {
		at := seed
		p := anySoundProg(&at)
		if seed%5 == 0 {
			p = anyNamedProg(&at)
		}
		if impl.ProgFault(p) != 0 {
			wrong++
			wantNoCode(t, p, allOfProg(p))
			continue
		}
		right++
		wantCode(t, p, codeByRule(p), allOfProg(p))
	}
	if right < 1000 || wrong < 1000 {
		t.Errorf("only %d programs with a code and %d without one were met", right, wrong)
	}
}

// What is done when tests come out as told, until none is told any more; each test is told with how it comes out.
type doing struct {
	outcomes []bool
	done     []string
}

// Does what stands in the list; false when no outcome is left.
func (d *doing) stmts(list []impl.Stmt) bool {
	for _, s := range list {
		switch s.Kind {
		case impl.StWhile:
			for {
				holds, ok := d.test(s.Term)
				if !ok || holds && !d.stmts(s.Body) {
					return false
				}
				if !holds {
					break
				}
			}
		case impl.StIf:
			holds, ok := d.test(s.Term)
			list := s.Body
			if !holds {
				list = s.Else
			}
			if !ok || !d.stmts(list) {
				return false
			}
		default:
			d.done = append(d.done, strings.TrimSuffix(impl.StmtsText([]impl.Stmt{s}, 0), ";\n"))
		}
	}
	return true
}

func (d *doing) test(term impl.Term) (holds bool, ok bool) {
	if len(d.outcomes) == 0 {
		return false, false
	}
	holds, d.outcomes = d.outcomes[0], d.outcomes[1:]
	d.done = append(d.done, impl.TermText(term)+" "+strconv.FormatBool(holds))
	return holds, true
}

// Goes through the instructions of a procedure, likewise.
func (d *doing) code(k impl.Code, proc int) bool {
	at := k.Entry[proc]
	for steps := 0; at != impl.EndOf(k, proc); steps++ {
		if impl.ProcOf(k, at) != proc || steps > 100000 {
			d.done = append(d.done, "astray at "+strconv.Itoa(at))
			return false
		}
		switch in := k.Ins[at]; in.Op {
		case impl.OpJump:
			at = in.To
		case impl.OpTest:
			holds, ok := d.test(in.Term)
			if !ok {
				return false
			}
			at++
			if !holds {
				at = in.To
			}
		default:
			_, line, _ := strings.Cut(impl.InsLine(k, at), " ")
			d.done = append(d.done, strings.TrimPrefix(line, "set "))
			at++
		}
	}
	return true
}

// Whatever comes out of the tests, the code does what the statements do, and ends just when they do.
func TestCodeDoesWhatItsProgramDoes(t *testing.T) {
	ended, stopped := 0, 0
	for seed := range 3000 {
		at := seed
		p := anySoundProg(&at)
		k, ok := impl.CodeOf(p)
		if !ok {
			continue
		}
		for proc, one := range p.Procs {
			for way := range 8 {
				outcomes := make([]bool, 25)
				for i := range outcomes {
					at = (at*1103 + 12345) % 1000003
					outcomes[i] = at/7%8 < way
				}
				byStmts, byCode := doing{outcomes: outcomes}, doing{outcomes: outcomes}
				end := byStmts.stmts(one.Body)
				if byCode.code(k, proc) != end || !slices.Equal(byCode.done, byStmts.done) {
					t.Fatalf("of %s procedure %d does %q; want %q", allOfProg(p), proc, byCode.done, byStmts.done)
				}
				if end {
					ended++
				} else {
					stopped++
				}
			}
		}
	}
	if ended < 1000 || stopped < 300 {
		t.Errorf("only %d ways that end and %d that do not were met", ended, stopped)
	}
}

// Changes one thing or more of a code, picked by a number that is multiplied on.
func spoilCode(k *impl.Code, seed *int) {
	next := func(below int) int {
		*seed = (*seed*1103 + 12345) % 1000003
		return *seed / 7 % below
	}
	at, list := next(len(k.Ins)), []*[]string{&k.Globals, &k.Locks, &k.Procs}[next(3)]
	in := &k.Ins[at]
	near := []int{-1, 0, 1, 2, 3, at, at + 1, len(k.Ins) - 1, len(k.Ins)}[next(9)]
	switch next(12) {
	case 0:
		in.Op = next(11)
	case 1:
		in.Arg = near
	case 2, 3:
		in.To = near
	case 4:
		in.Term = termBy(seed, next(3), []string{"x", "yy", "z1"})
	case 5:
		in.Term = impl.Term{Num: next(2)}
	case 6:
		k.Ins = slices.Insert(k.Ins, at, impl.Ins{Op: next(10)})
	case 7:
		k.Ins = slices.Delete(k.Ins, at, at+1)
	case 8:
		k.Entry[next(len(k.Entry))] = near
	case 9:
		k.Entry = append(k.Entry, near)
	case 10:
		*list = append(*list, []string{"x", "more", "main", "if"}[next(4)])
	case 11:
		*list = slices.Delete(*list, 0, min(1, len(*list)))
	}
}

func TestCodesThatAreRightByTheRule(t *testing.T) {
	right, wrong := 0, 0
	for seed := range 12000 {
		at := seed
		k, ok := impl.CodeOf(anySoundProg(&at))
		if !ok {
			continue
		}
		for range 1 + seed%3 {
			if len(k.Ins) > 0 && len(k.Entry) > 0 {
				spoilCode(&k, &at)
			}
		}
		if codeOkByRule(k) {
			right++
			wantRightCode(t, k, "a spoilt code")
		} else {
			wrong++
			wantWrongCode(t, k, "a spoilt code")
		}
	}
	if right < 300 || wrong < 1000 {
		t.Errorf("only %d codes that are right and %d that are not were met", right, wrong)
	}
}

// A program of which each list may be spoilt, and whose statements share their terms.
func sharingProg() impl.Prog {
	kids := []impl.Term{read("x"), not(num(1))}
	term := impl.Term{Kind: impl.TmAdd, Kids: kids}
	body := []impl.Stmt{set("y", term), while(term, set("x", pair(impl.TmMul, term, term)))}
	return prog([]string{"x", "y"}, []string{"a", "b"}, proc("main", body...), proc("p", append(body, word(impl.StLock, "b"))...))
}

// The code shares no memory with the program: what is done to one is not seen in the other.
func TestCodeSharesNothingWithItsProgram(t *testing.T) {
	p := sharingProg()
	before := allOfProg(p)
	k, _ := impl.CodeOf(p)
	all := allOfCode(k)
	if all != allOfCode(codeByRule(p)) {
		t.Error("the code of a program that shares its terms is another")
	}
	p.Globals[0], p.Locks[1], p.Procs[0].Name = "spoilt", "spoilt", "spoilt"
	p.Procs[0].Body[0].Term.Kids[0], p.Procs[0].Body[0].Term.Kids[1].Kids[0] = num(5), num(6)
	if allOfCode(k) != all {
		t.Error("a code was changed with its program")
	}
	p = sharingProg()
	k, _ = impl.CodeOf(p)
	k.Globals[0], k.Locks[0], k.Procs[0], k.Entry[0] = "spoilt", "spoilt", "spoilt", 7
	for at := range k.Ins {
		spoilTerm(k.Ins[at].Term)
		k.Ins[at] = impl.Ins{Op: 77}
	}
	spoilBehindCode(k)
	if allOfProg(p) != before {
		t.Error("a program was changed with its code")
	}
}

func spoilTerm(m impl.Term) {
	for i := range m.Kids {
		spoilTerm(m.Kids[i])
		m.Kids[i] = impl.Term{Kind: 77}
	}
}

// Fills the spare room behind each list of a code.
func spoilBehindCode(k impl.Code) {
	for _, names := range [][]string{k.Globals, k.Locks, k.Procs} {
		_ = append(names, slices.Repeat([]string{"spoilt"}, cap(names)-len(names))...)
	}
	for _, in := range k.Ins {
		spoilBehindTerms(in.Term.Kids)
	}
	_ = append(k.Entry, slices.Repeat([]int{77}, cap(k.Entry)-len(k.Entry))...)
	_ = append(k.Ins, slices.Repeat([]impl.Ins{{Op: 77}}, cap(k.Ins)-len(k.Ins))...)
}

// No two lists of a code share memory, also where those of its program do.
func TestListsOfACodeShareNothing(t *testing.T) {
	p := sharingProg()
	names := []string{"x", "y", "b"}
	p.Globals, p.Locks = names, names
	k, _ := impl.CodeOf(p)
	all := allOfCode(k)
	spoilBehindCode(k)
	if allOfCode(k) != all {
		t.Error("lists of a code lie in each other's spare room")
	}
	for at := range k.Ins {
		one, _ := impl.CodeOf(p)
		want := copyOfCode(one)
		spoilTerm(one.Ins[at].Term)
		spoilTerm(want.Ins[at].Term)
		one.Globals[0], want.Globals[0] = "spoilt", "spoilt"
		if allOfCode(one) != allOfCode(want) {
			t.Errorf("the term at %d shares memory with another", at)
		}
	}
}

// A code is new each time, and hangs on nothing that was asked before.
func TestCodeIsNewEachTime(t *testing.T) {
	for seed := range 300 {
		at := seed
		p := anySoundProg(&at)
		first, ok := impl.CodeOf(p)
		all := allOfCode(first)
		for _, other := range []impl.Prog{{}, ordinaryProg(), sharingProg(), prog(nil, nil, proc("p"))} {
			impl.CodeOf(other)
			again, same := impl.CodeOf(p)
			if same != ok || allOfCode(again) != all {
				t.Fatalf("the code of %s is another one later", allOfProg(p))
			}
			again.Ins = append(again.Ins[:0], insEnd)
			spoilBehindCode(again)
		}
		if allOfCode(first) != all {
			t.Fatalf("the code of %s was changed with another", allOfProg(p))
		}
	}
}

// Nothing is written into an argument, nor into the spare room behind it.
func TestCodeAndProgramAreNotWrittenInto(t *testing.T) {
	for seed := range 300 {
		at := seed
		p := anySoundProg(&at)
		p.Globals, p.Locks, p.Procs = append(p.Globals, "g1", "g2", "g3"), append(p.Locks, "l1", "l2", "l3"), append(p.Procs, proc("p1"), proc("p2"))
		all := allOfProg(p)
		part := prog(p.Globals[:3], p.Locks[:3], p.Procs[:4]...)
		k, ok := impl.CodeOf(part)
		if allOfProg(p) != all {
			t.Fatalf("%s was changed", all)
		}
		if !ok {
			continue
		}
		full := copyOfCode(k)
		full.Globals, full.Locks, full.Procs = append(full.Globals, "g"), append(full.Locks, "l"), append(full.Procs, "q", "r")
		full.Entry, full.Ins = append(full.Entry, 5, 6, 7), append(full.Ins, insSkip, insEnd, insJump(3))
		whole := allOfCode(full)
		cut := impl.Code{Globals: full.Globals[:3], Locks: full.Locks[:3], Procs: full.Procs[:4], Entry: full.Entry[:4], Ins: full.Ins[:len(k.Ins)]}
		for _, one := range []impl.Code{cut, full} {
			impl.CodeOk(one)
			impl.ProcOf(one, 1)
			impl.EndOf(one, 3)
			impl.InsLine(one, 0)
		}
		if allOfCode(full) != whole {
			t.Fatalf("a code of %s was changed", all)
		}
	}
}
