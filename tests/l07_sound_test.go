package tests

import (
	"slices"
	"strconv"
	"strings"
	"testing"

	"loop.example/g00966/impl"
)

// What chapter 7 tells of a program; the names of each list with a blank between them.
type soundness struct {
	fault           int
	unknown, unused string
}

// Tells nothing but that the program is not right.
var notRight = soundness{fault: impl.PrForm}

func soundnessOf(p impl.Prog) soundness {
	return soundness{impl.ProgFault(p), strings.Join(impl.UnknownIn(p), " "), strings.Join(impl.UnusedIn(p), " ")}
}

func wantSoundness(t *testing.T, p impl.Prog, want soundness, what string) {
	t.Helper()
	if got := soundnessOf(p); got != want {
		t.Errorf("of %.300s is told %v; want %v", what, got, want)
	}
}

func wantSoundnessOfText(t *testing.T, text string, want soundness) {
	t.Helper()
	p, fault := impl.ReadProg(text)
	if fault != (impl.Fault{}) {
		t.Fatalf("%q is not read: %v", text, fault)
	}
	wantSoundness(t, p, want, text)
}

// Of a program with one procedure, named main, with these statements.
func wantSoundnessOfMain(t *testing.T, globals string, locks string, stmts string, want soundness) {
	t.Helper()
	wantSoundnessOfText(t, "globals "+globals+"; locks "+locks+"; proc main { "+stmts+" }", want)
}

// An ordinary program, each of whose names a statement has.
func usedProg() impl.Prog {
	p := copyOfProg(ordinaryProg())
	withLast(&p, word(impl.StLock, "b"))
	return p
}

// Puts the statements behind all others of the last procedure.
func withLast(p *impl.Prog, list ...impl.Stmt) {
	p.Procs[len(p.Procs)-1].Body = append(p.Procs[len(p.Procs)-1].Body, list...)
}

func TestSoundConstants(t *testing.T) {
	if impl.PrForm != 1 || impl.PrTwice != 2 || impl.PrName != 3 || impl.PrMain != 4 {
		t.Error("a code of chapter 7 is not the document's")
	}
}

func TestProgramsWithoutAFault(t *testing.T) {
	wantSoundness(t, ordinaryProg(), soundness{0, "", "b"}, "an ordinary program")
	wantSoundness(t, usedProg(), soundness{}, "an ordinary program of which all is used")
	for _, text := range []string{
		"globals; locks; proc main { }",
		"globals; locks; proc main { skip; }",
		"globals; locks; proc p { } proc main { }",
		"globals; locks; proc main { call main; spawn main; }",
		"globals; locks; proc p { call q; } proc q { spawn main; } proc main { call p; }",
		"globals x; locks a; proc main { lock a; x = (x + 1); unlock a; }",
		"globals x, y; locks a, b; proc main { if (x < y) { lock a; } else { unlock b; } }",
		"globals n; locks n; proc n { n = (not n); lock n; unlock n; call n; spawn n; } proc main { }",
		"globals main; locks main; proc main { main = main; lock main; call main; }",
	} {
		wantSoundnessOfText(t, text, soundness{})
	}
	wantSoundnessOfText(t, "globals x, y; locks a, b; proc main { }", soundness{0, "", "x y a b"})
}

// As many names of each sort as may be, all of them there, and each had by a statement.
func TestProgramsOfTheMostNamesWithoutAFault(t *testing.T) {
	var body []impl.Stmt
	for _, name := range namesOf("g", impl.MaxGlobals) {
		body = append(body, set(name, read(name)))
	}
	for _, name := range namesOf("l", impl.MaxLocks) {
		body = append(body, word(impl.StLock, name), word(impl.StUnlock, name))
	}
	for _, name := range namesOf("p", impl.MaxProcs-1) {
		body = append(body, word(impl.StCall, name), word(impl.StSpawn, name))
	}
	procs := append(procsOf(impl.MaxProcs-1, body...), proc("main", body...))
	p := prog(namesOf("g", impl.MaxGlobals), namesOf("l", impl.MaxLocks), procs...)
	wantSoundness(t, p, soundness{}, "a program of as many names as may be")
	for at := range procs {
		p.Procs = slices.Concat(procs[:at], procs[at+1:])
		want := soundness{impl.PrName, "p" + strconv.Itoa(at), ""}
		if at == len(procs)-1 {
			want = soundness{fault: impl.PrMain}
		}
		wantSoundness(t, p, want, "a program without procedure "+strconv.Itoa(at))
	}
}

func TestProgramsWithEachFaultAlone(t *testing.T) {
	p := ordinaryProg()
	p.Globals[1] = "Y"
	wantSoundness(t, p, notRight, "a program with a global `Y`")
	for text, want := range map[string]soundness{
		"globals x, x; locks; proc main { x = 1; }":                        {fault: impl.PrTwice},
		"globals; locks a, b, a; proc main { lock a; unlock b; }":          {fault: impl.PrTwice},
		"globals; locks; proc main { } proc p { } proc p { skip; }":        {fault: impl.PrTwice},
		"globals; locks; proc main { } proc main { }":                      {fault: impl.PrTwice},
		"globals x; locks; proc main { x = 1; y = 1; }":                    {impl.PrName, "y", ""},
		"globals x; locks; proc main { x = (x + y); }":                     {impl.PrName, "y", ""},
		"globals; locks a; proc main { lock a; lock b; }":                  {impl.PrName, "b", ""},
		"globals; locks a; proc main { lock a; unlock b; }":                {impl.PrName, "b", ""},
		"globals; locks; proc main { call p; }":                            {impl.PrName, "p", ""},
		"globals; locks; proc main { spawn p; }":                           {impl.PrName, "p", ""},
		"globals; locks;":                                                  {fault: impl.PrMain},
		"globals x; locks a; proc p { x = 1; lock a; call p; }":            {fault: impl.PrMain},
		"globals; locks; proc main1 { } proc mai { } proc main2 { }":       {fault: impl.PrMain},
		"globals main; locks main; proc p { main = 1; lock main; call p;}": {fault: impl.PrMain},
	} {
		wantSoundnessOfText(t, text, want)
	}
}

// A way to give a program a fault, and the name for which it would be PrName.
type spoiler struct {
	spoil   func(p *impl.Prog)
	unknown string
}

// Ways by their faults; none of them takes another fault away, in whatever order they come.
func spoilers() map[int][]spoiler {
	stmt := func(s impl.Stmt) func(p *impl.Prog) { return func(p *impl.Prog) { withLast(p, s) } }
	return map[int][]spoiler{
		impl.PrForm: {
			{spoil: func(p *impl.Prog) { p.Globals = append(p.Globals, "if") }},
			{spoil: func(p *impl.Prog) { p.Globals = append(p.Globals, namesOf("g", impl.MaxGlobals)...) }},
			{spoil: func(p *impl.Prog) { p.Locks = append([]string{""}, p.Locks...) }},
			{spoil: func(p *impl.Prog) { p.Locks = append(p.Locks, namesOf("l", impl.MaxLocks)...) }},
			{spoil: func(p *impl.Prog) { p.Procs = append([]impl.Proc{proc("1x")}, p.Procs...) }},
			{spoil: func(p *impl.Prog) { p.Procs = append(procsOf(impl.MaxProcs), p.Procs...) }},
			{spoil: stmt(impl.Stmt{})},
			{spoil: stmt(set("X", num(1)))},
			{spoil: func(p *impl.Prog) { withLast(p, skips(impl.MaxStmts+1)...) }},
		},
		impl.PrTwice: {
			{spoil: func(p *impl.Prog) { p.Globals = append(p.Globals, p.Globals[0]) }},
			{spoil: func(p *impl.Prog) { p.Locks = append([]string{"b"}, p.Locks...) }},
			{spoil: func(p *impl.Prog) { p.Procs = append([]impl.Proc{proc("idle", skip)}, p.Procs...) }},
		},
		impl.PrName: {
			{stmt(set("none", num(1))), "none"},
			{stmt(set("y", read("a"))), "a"},
			{stmt(while(num(1), orElse(when(num(1)), word(impl.StLock, "x")))), "x"},
			{stmt(word(impl.StUnlock, "idle")), "idle"},
			{stmt(word(impl.StCall, "a")), "a"},
			{stmt(word(impl.StSpawn, "none")), "none"},
		},
		impl.PrMain: {
			{spoil: func(p *impl.Prog) { renameProcs(p, "main", "start") }},
			{spoil: func(p *impl.Prog) { renameProcs(p, "main", "main1") }},
		},
	}
}

func renameProcs(p *impl.Prog, from string, to string) {
	for i := range p.Procs {
		if p.Procs[i].Name == from {
			p.Procs[i].Name = to
		}
	}
}

// The one with this number of all ways to pick one of each fault or none.
func pickSpoilers(n int) (picked map[int]spoiler, isOne bool) {
	picked = map[int]spoiler{}
	for code := impl.PrForm; code <= impl.PrMain; code++ {
		ways := spoilers()[code]
		if at := n % (len(ways) + 1); at < len(ways) {
			picked[code] = ways[at]
		}
		n /= len(ways) + 1
	}
	return picked, n == 0
}

// Of several faults the one that is listed first is told, wherever it stands.
func TestTheOrderOfFaults(t *testing.T) {
	met := map[string]int{}
	for n := 0; ; n++ {
		picked, isOne := pickSpoilers(n)
		if !isOne {
			break
		}
		for _, order := range [][]int{{1, 2, 3, 4}, {4, 3, 2, 1}, {3, 1, 4, 2}} {
			p, want, all := usedProg(), soundness{}, ""
			for _, code := range order {
				if way, ok := picked[code]; ok {
					way.spoil(&p)
				}
			}
			for code := impl.PrMain; code >= impl.PrForm; code-- {
				if way, ok := picked[code]; ok {
					want.fault, want.unknown = code, want.unknown+way.unknown
					all = strconv.Itoa(code) + all
				}
			}
			if want.fault == impl.PrForm {
				want = notRight
			}
			wantSoundness(t, p, want, "the program in which all is used, spoilt by "+all+" as "+strconv.Itoa(n)+" tells")
			met[all]++
		}
	}
	if len(met) != 16 {
		t.Errorf("only these faults were met together: %v", met)
	}
}

func TestNamesThatStandTwice(t *testing.T) {
	for many := 2; many <= impl.MaxProcs; many++ {
		for second := range many {
			for first := range second {
				what := "names " + strconv.Itoa(first) + " and " + strconv.Itoa(second) + " of " + strconv.Itoa(many)
				names := namesOf("n", many)
				names[second] = names[first]
				unused := strings.Join(names, " ")
				if many <= impl.MaxGlobals {
					wantSoundness(t, prog(names, nil, proc("main")), soundness{impl.PrTwice, "", unused}, "globals with "+what)
					wantSoundness(t, prog(nil, names, proc("main")), soundness{impl.PrTwice, "", unused}, "locks with "+what)
				}
				procs := procsOf(many)
				procs[second].Name = procs[first].Name
				wantSoundness(t, prog(nil, nil, procs...), soundness{fault: impl.PrTwice}, "procedures with "+what)
				procs[second].Name, procs[first].Name = "main", "main"
				wantSoundness(t, prog(nil, nil, procs...), soundness{fault: impl.PrTwice}, "procedures named main with "+what)
			}
		}
	}
}

// That a name stands in two lists, once in each, is no fault.
func TestNamesThatStandInTwoLists(t *testing.T) {
	for many := 1; many <= impl.MaxGlobals; many++ {
		names := namesOf("p", many)
		unused := strings.Join(names, " ")
		procs := append(procsOf(many), proc("main"))
		wantSoundness(t, prog(names, names, proc("main")), soundness{0, "", unused + " " + unused}, "globals that are locks")
		wantSoundness(t, prog(names, nil, procs...), soundness{0, "", unused}, "globals that are procedures")
		wantSoundness(t, prog(nil, names, procs...), soundness{0, "", unused}, "locks that are procedures")
		wantSoundness(t, prog(names, names, procs...), soundness{0, "", unused + " " + unused}, "globals that are locks and procedures")
	}
}

// Statements in which the name is to be one of globals, of locks, of procedures; g is a global.
func stmtsWithName(name string) [3][]impl.Stmt {
	deep := nested(impl.MaxDeep, read(name), func(m impl.Term) impl.Term { return pair(impl.TmLess, num(1), m) })
	return [3][]impl.Stmt{
		{
			set(name, num(1)), set("g", read(name)), set("g", pair(impl.TmAdd, num(1), not(read(name)))), set("g", deep), set(name, read(name)),
			when(read(name)), when(deep, skip), orElse(when(pair(impl.TmSub, read(name), num(1))), skip), while(read(name)), while(deep, skip),
		},
		{word(impl.StLock, name), word(impl.StUnlock, name)},
		{word(impl.StCall, name), word(impl.StSpawn, name)},
	}
}

// Each name where one of each sort is wanted, alone and within others: what is there as one of another sort is not there.
func TestNamesThatAreThereOrNot(t *testing.T) {
	globals, locks := []string{"x", "g", "all"}, []string{"a", "l", "all"}
	procs := []string{"main", "p", "all"}
	for _, name := range []string{"x", "g", "a", "l", "main", "p", "all", "none", "abcdefghijkl"} {
		for sort, list := range [][]string{globals, locks, procs} {
			for _, s := range stmtsWithName(name)[sort] {
				for _, around := range aroundStmtWays() {
					for deep := range impl.MaxDeep {
						p := prog(globals, locks, proc("main", skip), proc("p", skip, nested(deep, s, around), skip), proc("all"))
						fault, unknown := 0, ""
						if !slices.Contains(list, name) {
							fault, unknown = impl.PrName, name
						}
						if got := soundnessOf(p); got.fault != fault || got.unknown != unknown {
							t.Errorf("of %q where one of %q is wanted is told %v", name, list, got)
						}
					}
				}
			}
		}
	}
}

func TestNamesThatAreMissingAtTheMostDeep(t *testing.T) {
	for _, around := range aroundStmtWays() {
		for _, s := range slices.Concat([]impl.Stmt{set("none", num(1)), set("x", read("none"))}, stmtsWithName("none")[1], stmtsWithName("none")[2]) {
			p := prog([]string{"x"}, []string{"a"}, proc("main", nested(impl.MaxDeep, s, around)))
			if got := soundnessOf(p); got.fault != impl.PrName || got.unknown != "none" {
				t.Errorf("of what is within %d is told %v", impl.MaxDeep, got)
			}
		}
	}
}

func TestNamesThatAreMissingInEachProcedure(t *testing.T) {
	for at := range impl.MaxProcs {
		for _, kind := range []int{impl.StCall, impl.StSpawn, impl.StLock, impl.StUnlock} {
			procs := procsOf(impl.MaxProcs)
			procs[(at+1)%impl.MaxProcs].Name = "main"
			procs[at].Body = []impl.Stmt{word(kind, "none")}
			wantSoundness(t, prog(nil, nil, procs...), soundness{impl.PrName, "none", ""}, "procedure "+strconv.Itoa(at)+" with a name that is not there")
		}
	}
}

func TestUnknownInTellsNamesInOrder(t *testing.T) {
	for stmts, unknown := range map[string]string{
		"z = y;":                            "z y",
		"z = (y + (x * w));":                "z y x w",
		"z = ((d and (not c)) - (b == a));": "z d c b a",
		"lock l; call c; spawn s; unlock u; b = 1; a = 1;":                              "l c s u b a",
		"while t { s = r; } q = 1;":                                                     "t s r q",
		"if t { s = r; } q = 1;":                                                        "t s r q",
		"if (t < s) { r = q; } else { lock p; o = n; } m = 1;":                          "t s r q p o n m",
		"while z { if y { while x { w = v; } u = 1; } else { call t; } s = 1; } r = 1;": "z y x w v u t s r",
		"if 1 { } else { if b { } else { a = 1; } }":                                    "b a",
	} {
		wantSoundnessOfMain(t, "", "", stmts, soundness{impl.PrName, unknown, ""})
		wantSoundnessOfMain(t, "g", "k", "g = 1; lock k;"+stmts+" call main;", soundness{impl.PrName, unknown, ""})
	}
	wantSoundnessOfText(t, "globals; locks; proc z { y = x; } proc main { w = v; lock z; } proc a { u = w; }", soundness{impl.PrName, "y x w v z u", ""})
	wantSoundnessOfText(t, "globals; locks; proc z { call z1; } proc a { call a1; } proc main { call a; call z; }", soundness{impl.PrName, "z1 a1", ""})
}

func TestUnknownInTellsEachNameOnce(t *testing.T) {
	for stmts, unknown := range map[string]string{
		"n = n;": "n",
		"n = (n + n); n = 1; if n { n = n; } else { n = 0; }": "n",
		"lock n; unlock n; lock n;":                           "n",
		"call n; spawn n; call n;":                            "n",
		"n = 1; lock n;":                                      "n",
		"lock n; n = 1;":                                      "n",
		"call n; unlock n; while n { spawn n; }":              "n",
		"b = a; a = b;":                                       "b a",
		"call b; a = b; lock a; c = (a + b); call c;":         "b a c",
	} {
		wantSoundnessOfMain(t, "", "", stmts, soundness{impl.PrName, unknown, ""})
		wantSoundnessOfText(t, "globals; locks; proc p { "+stmts+" } proc main { "+stmts+" }", soundness{impl.PrName, unknown, ""})
	}
}

// A name is told once also when it is there as one sort and missing as two others.
func TestUnknownInOfNamesThatAreThereAsAnotherSort(t *testing.T) {
	all := "n = n; lock n; unlock n; call n; spawn n;"
	wantSoundnessOfMain(t, "n", "", all, soundness{impl.PrName, "n", ""})
	wantSoundnessOfMain(t, "", "n", all, soundness{impl.PrName, "n", ""})
	wantSoundnessOfMain(t, "n", "n", all, soundness{impl.PrName, "n", ""})
	wantSoundnessOfText(t, "globals; locks; proc main { } proc n { "+all+" }", soundness{impl.PrName, "n", ""})
	wantSoundnessOfText(t, "globals n; locks; proc main { } proc n { "+all+" }", soundness{impl.PrName, "n", ""})
	wantSoundnessOfText(t, "globals; locks n; proc main { } proc n { "+all+" }", soundness{impl.PrName, "n", ""})
	wantSoundnessOfText(t, "globals n; locks n; proc main { } proc n { "+all+" }", soundness{})
	// Where it is right it is not told; the order is that of the places where it is not.
	wantSoundnessOfMain(t, "n, m", "", "n = m; lock m; call n;", soundness{impl.PrName, "m n", ""})
	wantSoundnessOfMain(t, "", "n, m", "lock n; lock m; m = n;", soundness{impl.PrName, "m n", ""})
}

// What is missing is told also of a program in which names stand twice, or that has no main.
func TestUnknownInOfProgramsWithOtherFaults(t *testing.T) {
	wantSoundnessOfText(t, "globals x, x; locks; proc p { y = x; } proc p { z = 1; }", soundness{impl.PrTwice, "y z", ""})
	wantSoundnessOfText(t, "globals; locks a, a; proc main { lock b; } proc p { lock b; lock a; }", soundness{impl.PrTwice, "b", ""})
	wantSoundnessOfText(t, "globals; locks; proc p { call main; spawn q; }", soundness{impl.PrName, "main q", ""})
	wantSoundnessOfText(t, "globals; locks; proc p { call p; }", soundness{fault: impl.PrMain})
}

func TestUnknownInAtTheMostNames(t *testing.T) {
	var procs []impl.Proc
	var want []string
	for i := range impl.MaxProcs {
		names := namesOf("p"+strconv.Itoa(i)+"n", impl.MaxStmts)
		var body []impl.Stmt
		for j, name := range names {
			switch other := name + "x"; {
			case j%3 == 0:
				body = append(body, word([]int{impl.StCall, impl.StSpawn, impl.StLock, impl.StUnlock}[j/3%4], name))
				want = append(want, name)
			default:
				body = append(body, set(name, pair(impl.TmMul, read(other), read(name))))
				want = append(want, name, other)
			}
		}
		procs = append(procs, proc("q"+strconv.Itoa(i), body...))
	}
	wantSoundness(t, prog(nil, nil, procs...), soundness{impl.PrName, strings.Join(want, " "), ""}, "a program of as many names as may be, none of them there")
	wide := treeOf(namesOf("w", 64))
	wantSoundness(t, prog(nil, nil, proc("main", when(wide))), soundness{impl.PrName, strings.Join(namesOf("w", 64), " "), ""}, "a term of as many names as may be")
}

func TestUnusedInTellsGlobalsAndThenLocks(t *testing.T) {
	for _, row := range []struct{ globals, locks, stmts, unused string }{
		{"z, y, x", "c, b, a", "", "z y x c b a"},
		{"z, y, x", "c, b, a", "y = 1; lock b;", "z x c a"},
		{"z, y, x", "c, b, a", "unlock a; if x { } else { lock c; }", "z y b"},
		{"z, y, x", "c, b, a", "z = (y + x); lock a; lock b; lock c;", ""},
		{"z, y, x", "", "y = 1;", "z x"},
		{"", "c, b, a", "lock b;", "c a"},
		{"x", "a", "skip; call main; spawn main;", "x a"},
	} {
		wantSoundnessOfMain(t, row.globals, row.locks, row.stmts, soundness{0, "", row.unused})
		wantSoundnessOfText(t, "globals "+row.globals+"; locks "+row.locks+"; proc main { } proc p { "+row.stmts+" }", soundness{0, "", row.unused})
	}
}

// One place where a statement has the name is enough, wherever it stands.
func TestUnusedInOfNamesThatAreHadOnce(t *testing.T) {
	globals, locks := []string{"x", "g", "n"}, []string{"a", "l", "n1"}
	for sort, name := range []string{"n", "n1"} {
		for _, s := range stmtsWithName(name)[sort] {
			for _, around := range aroundStmtWays() {
				for deep := range impl.MaxDeep {
					p := prog(globals, locks, proc("p", nested(deep, s, around)), proc("main"))
					unused := impl.UnusedIn(p)
					if slices.Contains(unused, name) || !slices.Contains(unused, []string{"n1", "n"}[sort]) {
						t.Errorf("of a program that has %q UnusedIn tells %q", name, unused)
					}
				}
			}
		}
	}
	wantSoundnessOfMain(t, "x", "", "x = 1;", soundness{})
	wantSoundnessOfMain(t, "x", "", "if x { }", soundness{})
	wantSoundnessOfMain(t, "x", "", "while (1 < x) { }", soundness{})
	wantSoundnessOfMain(t, "x, y", "", "x = y;", soundness{})
	wantSoundnessOfMain(t, "", "a", "lock a;", soundness{})
	wantSoundnessOfMain(t, "", "a", "unlock a;", soundness{})
}

// What is called or started is no global and no lock; but a name that a StSet, a StLock, a StUnlock or a term has is had, whichever it is.
func TestUnusedInOfNamesOfSeveralSorts(t *testing.T) {
	wantSoundnessOfText(t, "globals n; locks n; proc n { } proc main { call n; spawn n; }", soundness{0, "", "n n"})
	wantSoundnessOfText(t, "globals n, m; locks m; proc n { } proc main { call n; lock m; }", soundness{0, "", "n"})
	wantSoundnessOfMain(t, "n", "n", "n = 1;", soundness{})
	wantSoundnessOfMain(t, "n", "n", "if n { }", soundness{})
	wantSoundnessOfMain(t, "n", "n", "lock n;", soundness{})
	wantSoundnessOfMain(t, "n", "n", "unlock n;", soundness{})
	wantSoundnessOfMain(t, "n", "", "lock n;", soundness{impl.PrName, "n", ""})
	wantSoundnessOfMain(t, "", "n", "n = 1;", soundness{impl.PrName, "n", ""})
	wantSoundnessOfMain(t, "n", "n", "call n; spawn n;", soundness{impl.PrName, "n", "n n"})
}

// A name that stands twice in a list is told as often, when no statement has it.
func TestUnusedInOfNamesThatStandTwice(t *testing.T) {
	wantSoundnessOfMain(t, "x, y, x", "a, a", "", soundness{impl.PrTwice, "", "x y x a a"})
	wantSoundnessOfMain(t, "x, y, x", "a, a", "x = 1; lock a;", soundness{impl.PrTwice, "", "y"})
	wantSoundnessOfMain(t, "x, y, x", "x, a, a", "y = 1; lock a;", soundness{impl.PrTwice, "", "x x x"})
}

// What is missing does not make what is there used, nor what is unused missing.
func TestUnusedInOfProgramsWithOtherFaults(t *testing.T) {
	wantSoundnessOfMain(t, "x, u", "a", "z = x; call q;", soundness{impl.PrName, "z q", "u a"})
	wantSoundnessOfText(t, "globals x, y; locks a; proc p { y = 1; }", soundness{impl.PrMain, "", "x a"})
	wantSoundnessOfText(t, "globals x, y; locks a;", soundness{impl.PrMain, "", "x y a"})
}

func TestSoundnessOfListsWithoutNames(t *testing.T) {
	full := ordinaryProg()
	for _, none := range emptyLists[string]() {
		wantSoundness(t, prog(none, full.Locks, full.Procs...), soundness{impl.PrName, "y x", "b"}, "a program without globals")
		wantSoundness(t, prog(full.Globals, none, full.Procs...), soundness{impl.PrName, "a", ""}, "a program without locks")
		wantSoundness(t, prog(none, none, full.Procs...), soundness{impl.PrName, "y a x", ""}, "a program without globals and locks")
		for _, noProcs := range emptyLists[impl.Proc]() {
			wantSoundness(t, prog(full.Globals, full.Locks, noProcs...), soundness{impl.PrMain, "", "x y a b"}, "a program without procedures")
			wantSoundness(t, prog(none, none, noProcs...), soundness{fault: impl.PrMain}, "a program without anything")
		}
		for _, noStmts := range emptyLists[impl.Stmt]() {
			wantSoundness(t, prog(none, none, proc("main", noStmts...)), soundness{}, "a program without statements")
			wantSoundness(t, prog(full.Globals, none, proc("main", noStmts...), proc("p", noStmts...)), soundness{0, "", "x y"}, "a program with globals and no statements")
			wantSoundness(t, prog(none, none, proc("main", when(num(1), noStmts...), while(num(0), noStmts...))), soundness{}, "a program of statements without statements")
		}
	}
	wantSoundness(t, impl.Prog{}, soundness{fault: impl.PrMain}, "the zero program")
}

// What lies in the spare room behind a list does not stand in it.
func TestSoundnessWithSpareRoom(t *testing.T) {
	names := []string{"x", "x", "y"}
	body := []impl.Stmt{set("x", num(1)), set("z", num(1))}
	procs := []impl.Proc{proc("main", body[:1]...), proc("main")}
	wantSoundness(t, prog(names[:1], nil, procs[:1]...), soundness{}, "a program with spare room")
	wantSoundness(t, prog(names[:2], nil, procs[:1]...), soundness{fault: impl.PrTwice}, "a program with less spare room")
	wantSoundness(t, prog(names[:1], nil, procs...), soundness{fault: impl.PrTwice}, "a program with no spare room behind its procedures")
	wantSoundness(t, prog(names[:1], nil, procs[:0]...), soundness{impl.PrMain, "", "x"}, "a program with spare room alone")
}

func TestSoundnessOfNamesThatAreNone(t *testing.T) {
	for _, wrong := range wrongNames() {
		for _, p := range []impl.Prog{
			prog([]string{wrong}, nil, proc("main")),
			prog([]string{"x", "x", wrong}, nil, proc("main")),
			prog([]string{"x"}, []string{wrong, wrong}, proc("main", set("y", num(1)))),
			prog(nil, nil, proc("main"), proc(wrong)),
			prog(nil, nil, proc(wrong, word(impl.StCall, "p")), proc(wrong)),
			prog(nil, nil, proc("main", set(wrong, num(1)))),
			prog(nil, nil, proc("main", set("x", read(wrong)))),
			prog([]string{wrong}, []string{wrong}, proc("main", word(impl.StLock, wrong))),
			prog(nil, nil, proc("main", word(impl.StCall, wrong))),
		} {
			wantSoundness(t, p, notRight, "a program with a name "+strconv.Quote(wrong))
		}
	}
}

func TestSoundnessOfProgramsOfTooManyNames(t *testing.T) {
	for _, more := range []int{1, 2, 1000} {
		for _, p := range []impl.Prog{
			prog(namesOf("g", impl.MaxGlobals+more), nil, proc("main")),
			prog(nil, namesOf("l", impl.MaxLocks+more), proc("main", set("x", num(1)))),
			prog([]string{"x"}, []string{"a"}, append([]impl.Proc{proc("main")}, procsOf(impl.MaxProcs-1+more)...)...),
			prog(slices.Repeat([]string{"x"}, impl.MaxGlobals+more), nil),
			prog(nil, slices.Repeat([]string{"a"}, impl.MaxLocks+more)),
			prog(nil, nil, slices.Repeat([]impl.Proc{proc("main")}, impl.MaxProcs+more)...),
		} {
			wantSoundness(t, p, notRight, "a program of too many names, by "+strconv.Itoa(more))
		}
	}
}

func TestSoundnessOfStatementsThatAreWrong(t *testing.T) {
	for i, wrong := range wrongStmts() {
		what := "a program with wrong statement " + strconv.Itoa(i)
		wantSoundness(t, prog([]string{"x"}, []string{"a"}, proc("main", wrong)), notRight, what)
		wantSoundness(t, prog([]string{"x", "x"}, nil, proc("p", set("none", num(1)), wrong)), notRight, what)
		for j, around := range aroundStmtWays() {
			wantSoundness(t, prog([]string{"x"}, []string{"a"}, proc("main"), proc("p", skip, nested(1+i%(impl.MaxDeep-1), wrong, around))), notRight, what+" within way "+strconv.Itoa(j))
		}
	}
	for i, body := range bodiesOf(impl.MaxStmts) {
		wantSoundness(t, prog([]string{"x"}, nil, proc("main", body...)), soundness{0, "", "x"}, "as many statements as may be, body "+strconv.Itoa(i))
	}
	for i, body := range append(bodiesOf(impl.MaxStmts+1), skips(100000), append(skips(impl.MaxStmts), set("none", num(1)))) {
		wantSoundness(t, prog([]string{"x"}, nil, proc("main", body...)), notRight, "too many statements, body "+strconv.Itoa(i))
	}
	for i, around := range aroundStmtWays() {
		wantSoundness(t, prog([]string{"x"}, []string{"a"}, proc("main", nested(impl.MaxDeep+1, skip, around))), notRight, "one too deep, way "+strconv.Itoa(i))
	}
}

func TestSoundnessOfBodiesThatStandWithinThemselves(t *testing.T) {
	for _, kind := range []int{impl.StIf, impl.StWhile, impl.StSet, impl.StSkip, 0} {
		for _, inElse := range []bool{false, true} {
			for _, around := range []int{1, 2, 5} {
				p := prog([]string{"x"}, nil, proc("main", set("none", num(1))), proc("p", knottedStmts(around, inElse, kind)...))
				wantSoundness(t, p, notRight, "a program with a Body that stands within itself")
			}
		}
	}
	wantSoundness(t, prog([]string{"x"}, nil, proc("main", set("x", knotted(impl.TmAdd, 2, 1)))), notRight, "a program with a term that stands within itself")
	double := func(s impl.Stmt) impl.Stmt {
		list := []impl.Stmt{s}
		return orElse(when(num(1), list...), list...)
	}
	wantSoundness(t, prog(nil, nil, proc("main", nested(1000, skip, double))), notRight, "a program that shares its lists")
	wantSoundness(t, prog(nil, nil, proc("main", nested(4, set("n", read("n")), double))), soundness{impl.PrName, "n", ""}, "a program that shares its lists, as many as may be")
}

// The names of a program that is right by the signs of its lines: those behind `lock` and `unlock`, behind `call` and `spawn`, and all others; each with its sort ahead.
func usesByRule(p impl.Prog) []string {
	var uses []string
	for _, one := range p.Procs {
		lines, _ := linesByRule(one.Body, 0)
		for _, line := range lines {
			sort := "global "
			for _, sign := range textsOfSigns(line) {
				switch {
				case sign == "lock" || sign == "unlock":
					sort = "lock "
				case sign == "call" || sign == "spawn":
					sort = "proc "
				case impl.IsName(sign):
					uses = append(uses, sort+sign)
				}
			}
		}
	}
	return uses
}

func soundnessByRule(p impl.Prog) soundness {
	if !progOkByRule(p) {
		return notRight
	}
	there := map[string]int{}
	for _, name := range p.Globals {
		there["global "+name]++
	}
	for _, name := range p.Locks {
		there["lock "+name]++
	}
	for _, one := range p.Procs {
		there["proc "+one.Name]++
	}
	met, had := map[string]bool{}, map[string]bool{}
	var unknown, unused []string
	for _, use := range usesByRule(p) {
		sort, name, _ := strings.Cut(use, " ")
		if there[use] == 0 && !met[name] {
			met[name] = true
			unknown = append(unknown, name)
		}
		had[name] = had[name] || sort != "proc"
	}
	for _, name := range slices.Concat(p.Globals, p.Locks) {
		if !had[name] {
			unused = append(unused, name)
		}
	}
	fault := 0
	if there["proc main"] == 0 {
		fault = impl.PrMain
	}
	if len(unknown) > 0 {
		fault = impl.PrName
	}
	for _, many := range there {
		if many > 1 {
			fault = impl.PrTwice
		}
	}
	return soundness{fault, strings.Join(unknown, " "), strings.Join(unused, " ")}
}

// A program picked by a number that is multiplied on, of few names, each there with some luck as a sort, and now and then twice.
func anyNamedProg(seed *int) impl.Prog {
	next := func(below int) int {
		*seed = (*seed*1103 + 12345) % 1000003
		return *seed / 7 % below
	}
	anyOf := func(most int, names ...string) []string {
		var list []string
		for _, name := range names {
			for next(8) != 0 && len(list) < most {
				list = append(list, name)
				if next(25) != 0 {
					break
				}
			}
		}
		return list
	}
	p := prog(anyOf(impl.MaxGlobals, "yy", "x", "z1", "u"), anyOf(impl.MaxLocks, "z1", "x", "yy"))
	for _, name := range anyOf(impl.MaxProcs, "z1", "x", "main", "yy") {
		p.Procs = append(p.Procs, proc(name, anyStmts(seed, next(3), next(3))...))
	}
	return p
}

func TestAProgramWhoseNamesAreNotThereIsToldSo(t *testing.T) {
	met := map[int]int{}
	for seed := range 12000 {
		at := seed
		p := anyNamedProg(&at)
		if seed%4 == 0 {
			p = anyProg(&at)
		}
		want := soundnessByRule(p)
		met[want.fault]++
		if got := soundnessOf(p); got != want {
			t.Fatalf("of %s is told %v; want %v", allOfProg(p), got, want)
		}
	}
	for fault := range impl.PrMain + 1 {
		if met[fault] < 100 {
			t.Errorf("only %d programs with fault %d were met", met[fault], fault)
		}
	}
}

// A program is without a fault just when each list has what stands in it once, main is there, and nothing is missing; a name more is then no fault.
func TestANameMoreOrLess(t *testing.T) {
	met := 0
	for seed := range 3000 {
		at := seed
		p := anyNamedProg(&at)
		if impl.ProgFault(p) != 0 {
			continue
		}
		met++
		more := copyOfProg(p)
		more.Globals, more.Locks, more.Procs = append(more.Globals, "more"), append(more.Locks, "more"), append(more.Procs, proc("more"))
		wantSoundness(t, more, soundness{0, "", strings.Join(slices.Concat(impl.UnusedIn(prog(p.Globals, nil, p.Procs...)), []string{"more"}, impl.UnusedIn(prog(nil, p.Locks, p.Procs...)), []string{"more"}), " ")}, allOfProg(more))
		for i := range p.Globals {
			less := copyOfProg(p)
			less.Globals = slices.Delete(less.Globals, i, i+1)
			wantSoundness(t, less, soundnessByRule(less), allOfProg(less))
		}
		for i := range p.Locks {
			less := copyOfProg(p)
			less.Locks = slices.Delete(less.Locks, i, i+1)
			wantSoundness(t, less, soundnessByRule(less), allOfProg(less))
		}
		for i := range p.Procs {
			less := copyOfProg(p)
			less.Procs = slices.Delete(less.Procs, i, i+1)
			wantSoundness(t, less, soundnessByRule(less), allOfProg(less))
		}
	}
	if met < 300 {
		t.Errorf("only %d programs without a fault were met", met)
	}
}

func TestSoundnessIsNewEachTime(t *testing.T) {
	p, _ := impl.ReadProg("globals x, u, v; locks a, b; proc main { z = x; call q; lock w; }")
	others := []impl.Prog{{}, ordinaryProg(), prog([]string{"1"}, nil), prog([]string{"z", "z"}, nil, proc("q", set("y", num(1))))}
	for _, other := range others {
		first, second := impl.UnknownIn(p), impl.UnusedIn(p)
		soundnessOf(other)
		_, _ = append(first[:1], "spoilt"), append(second[:1], "spoilt")
		first[0], second[0] = "spoilt", "spoilt"
		_, _ = append(first, "spoilt"), append(second, "spoilt")
		wantSoundness(t, p, soundness{impl.PrName, "z q w", "u v a b"}, "the program whose answers were spoilt")
	}
	// Also where the answer has all of a list.
	all := prog([]string{"x", "y"}, nil, proc("main"))
	impl.UnusedIn(all)[0] = "spoilt"
	wantSoundness(t, all, soundness{0, "", "x y"}, "the program of which all was told")
}

func TestSoundnessIsNotWrittenInto(t *testing.T) {
	for seed := range 300 {
		at := seed
		all := anyNamedProg(&at)
		if seed%3 == 0 {
			all = anyProg(&at)
		}
		all.Globals = append(all.Globals, "g1", "g2", "g3", "g4", "g5", "g6")
		all.Locks = append(all.Locks, "l1", "l2", "l3", "l4", "l5", "l6")
		all.Procs = append(all.Procs, proc("p1", skip), proc("p2", skip), proc("p3"))
		before := copyOfProg(all)
		part := prog(all.Globals[:len(all.Globals)-6], all.Locks[:len(all.Locks)-6], all.Procs[:len(all.Procs)-3]...)
		for _, p := range []impl.Prog{part, all} {
			soundnessOf(p)
			_ = append(impl.UnknownIn(p), "w")
			_ = append(impl.UnusedIn(p), "w")
		}
		if allOfProg(all) != allOfProg(before) {
			t.Fatalf("%s was changed", allOfProg(before))
		}
	}
}
