package tests

import (
	"fmt"
	"maps"
	"slices"
	"strconv"
	"strings"
	"testing"

	"loop.example/g00966/impl"
)

func insCall(proc int) impl.Ins {
	return insNamed(impl.OpCall, proc)
}

func insSpawn(proc int) impl.Ins {
	return insNamed(impl.OpSpawn, proc)
}

func callLine(proc int, calls []int, starts []int, from []int, callers []int, sites []int, returns bool) string {
	return fmt.Sprintf("%d calls %v starts %v from %v callers %v sites %v returns %v", proc, calls, starts, from, callers, sites, returns)
}

// What chapter 10 tells of a code: a line for each procedure.
func callLines(k impl.Code) []string {
	var lines []string
	for proc := range k.Entry {
		lines = append(lines, callLine(proc, impl.CallsOf(k, proc), impl.SpawnsOf(k, proc), impl.CallsFrom(k, proc), impl.CallersOf(k, proc), impl.SitesOf(k, proc), impl.Returns(k, proc)))
	}
	return lines
}

// What is told of each procedure of a code, by the lines of its instructions.
type callRule struct {
	next    [][]int
	word    []string
	named   []int
	live    [][]int
	entries []int
}

func callRuleOf(k impl.Code) callRule {
	r := callRule{next: make([][]int, len(k.Ins)), word: make([]string, len(k.Ins)), named: make([]int, len(k.Ins)), entries: k.Entry}
	for at := range k.Ins {
		words := strings.Fields(impl.InsLine(k, at))
		r.next[at], r.word[at] = nextByRule(k, at), words[1]
		if words[1] == "call" || words[1] == "spawn" {
			r.named[at] = slices.Index(k.Procs, words[2])
		}
	}
	for _, entry := range k.Entry {
		r.live = append(r.live, itselfAnd(reachBySteps(r.next, entry), entry))
	}
	return r
}

// A number and others, rising, each once.
func itselfAnd(others []int, itself int) []int {
	return slices.Compact(slices.Sorted(slices.Values(append(others, itself))))
}

// The procedures that this word names in a procedure, where one may come to it.
func (r callRule) namedIn(proc int, word string) []int {
	named := map[int]bool{}
	for _, at := range r.live[proc] {
		if r.word[at] == word {
			named[r.named[at]] = true
		}
	}
	return slices.Sorted(maps.Keys(named))
}

// Whether a procedure comes to its end if just those return of which the bits are set.
func (r callRule) ends(proc int, answer int) bool {
	next := make([][]int, len(r.next))
	for at := range next {
		if r.word[at] != "call" || answer>>r.named[at]&1 == 1 {
			next[at] = r.next[at]
		}
	}
	places := itselfAnd(reachBySteps(next, r.entries[proc]), r.entries[proc])
	return slices.ContainsFunc(places, func(at int) bool { return r.word[at] == "end" })
}

// Of all answers, written as bits, that agree with what is told if they are right, the one which is in all others.
func (r callRule) leastReturns() int {
	least := 1<<len(r.entries) - 1
	for answer := range 1 << len(r.entries) {
		agrees := true
		for proc := range r.entries {
			agrees = agrees && r.ends(proc, answer) == (answer>>proc&1 == 1)
		}
		if agrees {
			least &= answer
		}
	}
	return least
}

func callLinesByRule(k impl.Code) []string {
	r := callRuleOf(k)
	calls, callers, sites := make([][]int, len(k.Entry)), make([][]int, len(k.Entry)), make([][]int, len(k.Entry))
	for proc := range k.Entry {
		calls[proc] = r.namedIn(proc, "call")
		for _, called := range calls[proc] {
			callers[called] = append(callers[called], proc)
		}
		for _, at := range r.live[proc] {
			if r.word[at] == "call" {
				sites[r.named[at]] = append(sites[r.named[at]], at)
			}
		}
	}
	returns := r.leastReturns()
	var lines []string
	for proc := range k.Entry {
		lines = append(lines, callLine(proc, calls[proc], r.namedIn(proc, "spawn"), itselfAnd(reachBySteps(calls, proc), proc), callers[proc], sites[proc], returns>>proc&1 == 1))
	}
	return lines
}

// That a code that is right has these lines, and nothing is told of procedures that it has not.
func wantCalls(t *testing.T, k impl.Code, what string, want ...string) {
	t.Helper()
	if !impl.CodeOk(k) {
		t.Fatalf("%s is not right:\n%.2000s", what, allOfCode(k))
	}
	if got := callLines(k); !slices.Equal(got, want) {
		t.Errorf("%s: got\n%.2000s\nwant\n%.2000s\nof\n%.2000s", what, strings.Join(got, "\n"), strings.Join(want, "\n"), allOfCode(k))
	}
	wantNoCallsAt(t, k, nonesOf(len(k.Entry)), what)
}

func wantCallsByRule(t *testing.T, k impl.Code, what string) {
	t.Helper()
	if !impl.CodeOk(k) {
		t.Fatalf("%s is not right:\n%.2000s", what, allOfCode(k))
	}
	wantCalls(t, k, what, callLinesByRule(k)...)
}

// That a code has these lines, and that these are the ones that the rule has.
func wantCallsBoth(t *testing.T, k impl.Code, what string, want ...string) {
	t.Helper()
	wantCalls(t, k, what, want...)
	wantCallsByRule(t, k, what+", by the rule")
}

func wantNoCallsAt(t *testing.T, k impl.Code, procs []int, what string) {
	t.Helper()
	for _, proc := range procs {
		calls, starts, from, callers, sites, returns := impl.CallsOf(k, proc), impl.SpawnsOf(k, proc), impl.CallsFrom(k, proc), impl.CallersOf(k, proc), impl.SitesOf(k, proc), impl.Returns(k, proc)
		if len(calls)+len(starts)+len(from)+len(callers)+len(sites) > 0 || returns {
			t.Errorf("%s: got %s; want nothing", what, callLine(proc, calls, starts, from, callers, sites, returns))
		}
	}
}

// Of a code that is not right nothing is told, whatever is asked of it.
func wantNoCalls(t *testing.T, k impl.Code, what string) {
	t.Helper()
	if impl.CodeOk(k) {
		t.Fatalf("%s is right:\n%.2000s", what, allOfCode(k))
	}
	procs := nonesOf(len(k.Entry))
	for proc := range max(len(k.Entry), len(k.Procs)) {
		procs = append(procs, proc)
	}
	wantNoCallsAt(t, k, procs, what)
}

func TestCallsOfAnOrdinaryCode(t *testing.T) {
	wantCallsBoth(t, ordinaryCode(), "an ordinary code",
		"0 calls [0] starts [1] from [0] callers [0] sites [6] returns false",
		"1 calls [1] starts [] from [1] callers [1] sites [12] returns true")
}

func TestCallsOfPrograms(t *testing.T) {
	for text, want := range map[string][]string{
		"proc main { }": {"0 calls [] starts [] from [0] callers [] sites [] returns true"},
		"proc main { spawn p; lock a; x = (x + 1); unlock a; y = 1; } proc p { lock a; x = 2; unlock a; call q; } proc q { y = x; }": {
			"0 calls [] starts [1] from [0] callers [] sites [] returns true",
			"1 calls [2] starts [] from [1 2] callers [] sites [] returns true",
			"2 calls [] starts [] from [2] callers [1] sites [9] returns true"},
		// One that is called from two places of one procedure is told once, and so is the caller; the places are told both.
		"proc main { call p; call p; } proc p { }": {
			"0 calls [1] starts [] from [0 1] callers [] sites [] returns true",
			"1 calls [] starts [] from [1] callers [0] sites [0 1] returns true"},
		"proc main { spawn p; if x { spawn p; } else { spawn q; spawn p; } } proc p { } proc q { }": {
			"0 calls [] starts [1 2] from [0] callers [] sites [] returns true",
			"1 calls [] starts [] from [1] callers [] sites [] returns true",
			"2 calls [] starts [] from [2] callers [] sites [] returns true"},
		"proc main { call p; spawn p; } proc p { }": {
			"0 calls [1] starts [1] from [0 1] callers [] sites [] returns true",
			"1 calls [] starts [] from [1] callers [0] sites [0] returns true"},
		// Places rise over the procedures, whichever of them calls which first.
		"proc q { } proc main { call r; call q; } proc r { call q; while x { call q; skip; call s; } } proc s { skip; if y { } else { call q; } }": {
			"0 calls [] starts [] from [0] callers [1 2 3] sites [2 4 6 14] returns true",
			"1 calls [0 2] starts [] from [0 1 2 3] callers [] sites [] returns true",
			"2 calls [0 3] starts [] from [0 2 3] callers [1] sites [1] returns true",
			"3 calls [0] starts [] from [0 3] callers [2] sites [8] returns true"},
		// Calls go over several procedures, and back; what is started is not called.
		"proc r { call p; } proc p { call main; spawn s; } proc s { call t; } proc t { } proc main { while x { call r; } }": {
			"0 calls [1] starts [] from [0 1 4] callers [4] sites [9] returns true",
			"1 calls [4] starts [2] from [0 1 4] callers [0] sites [0] returns true",
			"2 calls [3] starts [] from [2 3] callers [] sites [] returns true",
			"3 calls [] starts [] from [3] callers [2] sites [5] returns true",
			"4 calls [0] starts [] from [0 1 4] callers [1] sites [2] returns true"},
	} {
		wantCallsBoth(t, codeOfText(t, "globals x, y; locks a; "+text), text, want...)
	}
}

func TestCallsOfProceduresThatCallThemselves(t *testing.T) {
	for text, want := range map[string][]string{
		"proc main { call main; }": {"0 calls [0] starts [] from [0] callers [0] sites [0] returns false"},
		"proc main { skip; call main; call p; } proc p { }": {
			"0 calls [0 1] starts [] from [0 1] callers [0] sites [1] returns false",
			"1 calls [] starts [] from [1] callers [0] sites [2] returns true"},
		"proc main { if x { call main; } else { skip; call main; } }": {"0 calls [0] starts [] from [0] callers [0] sites [1 4] returns false"},
		"proc main { if x { call main; } else { skip; } }":            {"0 calls [0] starts [] from [0] callers [0] sites [1] returns true"},
		"proc main { if x { call main; } call main; }":                {"0 calls [0] starts [] from [0] callers [0] sites [1 2] returns false"},
		"proc main { while x { call main; } }":                        {"0 calls [0] starts [] from [0] callers [0] sites [1] returns true"},
		"proc main { while x { } call main; }":                        {"0 calls [0] starts [] from [0] callers [0] sites [2] returns false"},
		"proc main { spawn main; }":                                   {"0 calls [] starts [0] from [0] callers [] sites [] returns true"},
		"proc main { spawn main; call main; }":                        {"0 calls [0] starts [0] from [0] callers [0] sites [1] returns false"},
	} {
		wantCallsBoth(t, codeOfText(t, "globals x; locks; "+text), text, want...)
	}
}

func TestCallsOfTwoThatCallEachOther(t *testing.T) {
	for text, want := range map[string][]string{
		"proc main { call p; } proc p { call main; }": {
			"0 calls [1] starts [] from [0 1] callers [1] sites [2] returns false",
			"1 calls [0] starts [] from [0 1] callers [0] sites [0] returns false"},
		"proc main { call p; } proc p { if x { call main; } }": {
			"0 calls [1] starts [] from [0 1] callers [1] sites [3] returns true",
			"1 calls [0] starts [] from [0 1] callers [0] sites [0] returns true"},
		"proc main { if x { call p; } else { skip; } } proc p { call main; }": {
			"0 calls [1] starts [] from [0 1] callers [1] sites [5] returns true",
			"1 calls [0] starts [] from [0 1] callers [0] sites [1] returns true"},
		"proc main { while x { call p; } } proc p { while x { call main; } }": {
			"0 calls [1] starts [] from [0 1] callers [1] sites [5] returns true",
			"1 calls [0] starts [] from [0 1] callers [0] sites [1] returns true"},
		// A way out of one that leads over a call of one which is not gone on from is none.
		"proc main { if x { call p; } else { call main; } } proc p { if x { call main; } else { call p; } }": {
			"0 calls [0 1] starts [] from [0 1] callers [0 1] sites [3 6] returns false",
			"1 calls [0 1] starts [] from [0 1] callers [0 1] sites [1 8] returns false"},
	} {
		wantCallsBoth(t, codeOfText(t, "globals x; locks; "+text), text, want...)
	}
}

func TestCallsOfWhatDoesNotReturn(t *testing.T) {
	for text, want := range map[string][]string{
		"proc main { call p; } proc p { call p; }": {
			"0 calls [1] starts [] from [0 1] callers [] sites [] returns false",
			"1 calls [1] starts [] from [1] callers [0 1] sites [0 2] returns false"},
		"proc main { if x { call p; } else { skip; call p; } } proc p { call p; }": {
			"0 calls [1] starts [] from [0 1] callers [] sites [] returns false",
			"1 calls [1] starts [] from [1] callers [0 1] sites [1 4 6] returns false"},
		"proc main { if x { call p; } skip; } proc p { call p; }": {
			"0 calls [1] starts [] from [0 1] callers [] sites [] returns true",
			"1 calls [1] starts [] from [1] callers [0 1] sites [1 4] returns false"},
		// What is started is gone on from, whether or not it comes to its end.
		"proc main { spawn p; skip; } proc p { call p; }": {
			"0 calls [] starts [1] from [0] callers [] sites [] returns true",
			"1 calls [1] starts [] from [1] callers [1] sites [3] returns false"},
		// What stands behind a call of what does not return is told of all the same: one comes to it within the procedure.
		"proc main { call p; call q; spawn r; } proc p { call p; } proc q { } proc r { }": {
			"0 calls [1 2] starts [3] from [0 1 2] callers [] sites [] returns false",
			"1 calls [1] starts [] from [1] callers [0 1] sites [0 4] returns false",
			"2 calls [] starts [] from [2] callers [0] sites [1] returns true",
			"3 calls [] starts [] from [3] callers [] sites [] returns true"},
		"proc main { if x { call p; call q; } else { call q; } } proc p { call p; } proc q { if x { call p; } }": {
			"0 calls [1 2] starts [] from [0 1 2] callers [] sites [] returns true",
			"1 calls [1] starts [] from [1] callers [0 1 2] sites [1 6 9] returns false",
			"2 calls [1] starts [] from [1 2] callers [0] sites [2 4] returns true"},
	} {
		wantCallsBoth(t, codeOfText(t, "globals x; locks; "+text), text, want...)
	}
}

// Ends that are behind a round without a way out; programs have none such, as each of their tests leads two ways.
func TestReturnsOfProceduresWithoutAWayToTheirEnd(t *testing.T) {
	x := read("x")
	none := "0 calls [] starts [] from [0] callers [] sites [] returns false"
	some := strings.Replace(none, "false", "true", 1)
	for _, one := range []struct {
		what string
		body []impl.Ins
		want string
	}{
		{"an OpEnd alone", nil, some},
		{"a jump to itself", []impl.Ins{insJump(0)}, none},
		{"a jump to itself behind another place", []impl.Ins{insSkip, insJump(1), insSkip}, none},
		{"a round of jumps", []impl.Ins{insJump(2), insJump(3), insJump(1)}, some},
		{"a round of jumps without a way out", []impl.Ins{insJump(2), insSkip, insJump(1)}, none},
		{"a test with a way out of a round", []impl.Ins{insSkip, insTest(x, 3), insJump(0)}, some},
		{"a test to itself", []impl.Ins{insTest(x, 0)}, some},
		{"a test whose ways both lead into a round", []impl.Ins{insTest(x, 2), insJump(1), insJump(2)}, none},
		{"a test whose ways are both the end", []impl.Ins{insTest(x, 1)}, some},
		{"a jump to the end", []impl.Ins{insJump(3), insJump(1), insJump(2)}, some},
	} {
		wantCallsBoth(t, codeOfProcs(one.body), one.what, one.want)
	}
	// Who calls one that goes round for ever does not return, who starts it does.
	wantCallsBoth(t, codeOfProcs([]impl.Ins{insJump(0)}, []impl.Ins{insCall(0)}, []impl.Ins{insSpawn(0), insSpawn(1)}, []impl.Ins{insTest(x, 9), insCall(1)}), "an endless round that is called and started",
		"0 calls [] starts [] from [0] callers [1] sites [2] returns false",
		"1 calls [0] starts [] from [0 1] callers [3] sites [8] returns false",
		"2 calls [] starts [0 1] from [2] callers [] sites [] returns true",
		"3 calls [1] starts [] from [0 1 3] callers [] sites [] returns true")
}

// Calls at places that nothing leads to are told by none.
func TestCallsWhereNothingComes(t *testing.T) {
	wantCallsBoth(t, codeOfProcs(nil, []impl.Ins{insJump(4), insCall(0), insSpawn(0)}), "a call and a start that are jumped over",
		"0 calls [] starts [] from [0] callers [] sites [] returns true",
		"1 calls [] starts [] from [1] callers [] sites [] returns true")
	wantCallsBoth(t, codeOfProcs(nil, []impl.Ins{insSkip, insJump(2), insCall(0), insCall(1), insSpawn(1)}), "a call behind an endless round",
		"0 calls [] starts [] from [0] callers [] sites [] returns true",
		"1 calls [] starts [] from [1] callers [] sites [] returns false")
	wantCallsBoth(t, codeOfProcs(nil, []impl.Ins{insJump(3), insCall(0), insCall(0), insSpawn(0)}), "a call that is jumped over, and one that is not",
		"0 calls [] starts [] from [0] callers [1] sites [3] returns true",
		"1 calls [0] starts [0] from [0 1] callers [] sites [] returns true")
	// The first of these calls main, but nothing comes to the call of it.
	wantCallsBoth(t, codeOfProcs([]impl.Ins{insCall(2)}, []impl.Ins{insJump(4), insCall(0)}, []impl.Ins{insCall(1)}), "a call in one that is called where nothing comes",
		"0 calls [2] starts [] from [0 1 2] callers [] sites [] returns true",
		"1 calls [] starts [] from [1] callers [2] sites [5] returns true",
		"2 calls [1] starts [] from [1 2] callers [0] sites [0] returns true")
	// A call of itself that is jumped over keeps nothing from its end.
	wantCallsBoth(t, codeOfProcs([]impl.Ins{insJump(2), insCall(0)}), "a call of itself that is jumped over",
		"0 calls [] starts [] from [0] callers [] sites [] returns true")
}

// As many procedures as may be: each calls the one behind it, or ahead of it, in a round or not, or all of them.
func TestCallsOfTheMostProcedures(t *testing.T) {
	most, x := impl.MaxProcs, read("x")
	bodies := func(body func(proc int) []impl.Ins) [][]impl.Ins {
		list := make([][]impl.Ins, most)
		for proc := range list {
			list[proc] = body(proc)
		}
		return list
	}
	down := func(proc int) []impl.Ins { return []impl.Ins{insCall(proc + 1)} }
	up := func(proc int) []impl.Ins { return []impl.Ins{insCall(proc - 1)} }
	round := func(proc int) []impl.Ins { return []impl.Ins{insCall((proc + 1) % most)} }
	backRound := func(proc int) []impl.Ins { return []impl.Ins{insCall((proc + most - 1) % most)} }
	butAt := func(one int, body func(int) []impl.Ins, other []impl.Ins) func(int) []impl.Ins {
		return func(proc int) []impl.Ins {
			if proc == one {
				return other
			}
			return body(proc)
		}
	}
	all := func(from int) func(int) []impl.Ins {
		return func(int) []impl.Ins {
			var list []impl.Ins
			for proc := range most - from {
				list = append(list, insCall(from+proc), insSpawn(proc))
			}
			return list
		}
	}
	last := most - 1
	for what, one := range map[string]struct {
		bodies  [][]impl.Ins
		returns int
	}{
		"down to an empty one":            {bodies(butAt(last, down, nil)), most},
		"up to an empty one":              {bodies(butAt(0, up, nil)), most},
		"down to an endless one":          {bodies(butAt(last, down, []impl.Ins{insJump(2 * last)})), 0},
		"up to an endless one":            {bodies(butAt(0, up, []impl.Ins{insJump(0)})), 0},
		"a round":                         {bodies(round), 0},
		"a round back":                    {bodies(backRound), 0},
		"a round with one way out":        {bodies(butAt(3, round, []impl.Ins{insTest(x, 8), insCall(4)})), most},
		"a round back with one way out":   {bodies(butAt(3, backRound, []impl.Ins{insTest(x, 8), insCall(2)})), most},
		"a way out of it that is cut off": {bodies(butAt(3, round, []impl.Ins{insTest(x, 8), insCall(4), insCall(2)})), 0},
		"each calls all":                  {bodies(all(0)), 0},
		"each but one calls all others":   {bodies(butAt(0, all(0), nil)), 1},
		"nobody calls any":                {bodies(func(proc int) []impl.Ins { return []impl.Ins{insSpawn(proc)} }), most},
	} {
		k := codeOfProcs(one.bodies...)
		wantCallsByRule(t, k, what)
		returns := 0
		for proc := range most {
			if impl.Returns(k, proc) {
				returns++
			}
		}
		if returns != one.returns {
			t.Errorf("%s: %d procedures return; want %d", what, returns, one.returns)
		}
	}
}

// As many instructions as may be, each a call, or a call that is jumped over.
func TestCallsOfTheLongestCodes(t *testing.T) {
	last := mostIns - 1
	k := codeOfSize(mostIns, impl.MaxProcs)
	entry := k.Entry[impl.MaxProcs-1]
	for at := entry; at < last; at++ {
		k.Ins[at] = insCall(at % (impl.MaxProcs - 1))
	}
	wantCallsByRule(t, k, "a long code of calls")
	calls := 0
	for proc := range impl.MaxProcs {
		calls += len(impl.SitesOf(k, proc))
	}
	if calls != last-entry {
		t.Errorf("%d calls are told of %d", calls, last-entry)
	}
	k.Ins[entry] = insJump(last - 1)
	wantCallsByRule(t, k, "a long code of calls that are jumped over")
	if got := len(impl.CallsOf(k, impl.MaxProcs-1)); got != 1 {
		t.Errorf("%d procedures are called at one place", got)
	}
	one := codeOfSize(mostIns, 1)
	for at := range last {
		one.Ins[at] = insTest(num(1), last)
		if at%2 == 1 {
			one.Ins[at] = insCall(0)
		}
	}
	wantCallsByRule(t, one, "a long code of tests and calls of itself")
}

// All codes of two procedures, of as many instructions, that call, start, skip, jump or test.
func TestCallsOfAllSmallCodes(t *testing.T) {
	for _, sizes := range [][]int{{0, 0}, {0, 1}, {1, 0}, {1, 1}, {0, 2}, {1, 2}, {2, 1}, {2, 2}} {
		var ways [2][]impl.Ins
		for proc := range ways {
			begin := proc * (sizes[0] + 1)
			ways[proc] = []impl.Ins{insCall(0), insCall(1), insSpawn(0), insSpawn(1), insSkip}
			for to := begin; to <= begin+sizes[proc]; to++ {
				ways[proc] = append(ways[proc], insJump(to), insTest(num(1), to))
			}
		}
		for n := range powerOf(len(ways[0]), sizes[0]) * powerOf(len(ways[1]), sizes[1]) {
			bodies := [][]impl.Ins{make([]impl.Ins, sizes[0]), make([]impl.Ins, sizes[1])}
			for proc, body := range bodies {
				for i := range body {
					body[i] = ways[proc][n%len(ways[proc])]
					n /= len(ways[proc])
				}
			}
			k := codeOfProcs(bodies...)
			if got, want := callLines(k), callLinesByRule(k); !slices.Equal(got, want) {
				t.Fatalf("of %s\ngot\n%s\nwant\n%s", allOfCode(k), strings.Join(got, "\n"), strings.Join(want, "\n"))
			}
		}
	}
}

// A code that is right, picked by a number that is multiplied on, most of which calls, with jumps and tests between.
func anyCallCode(seed *int) impl.Code {
	next := func(below int) int {
		*seed = (*seed*1103 + 12345) % 1000003
		return *seed / 7 % below
	}
	bodies := make([][]impl.Ins, 1+next(6))
	begin := 0
	for i := range bodies {
		size := next(6)
		for range size {
			to := begin + next(size+1)
			in := []impl.Ins{insCall(next(len(bodies))), insTest(read("x"), to), insCall(next(len(bodies))), insTest(num(1), begin+size), insSpawn(next(len(bodies))), insJump(to), insSkip}[next(7)]
			bodies[i] = append(bodies[i], in)
		}
		begin += size + 1
	}
	return codeOfProcs(bodies...)
}

func TestCallsByTheirRule(t *testing.T) {
	returns, stay, both, far, dead := 0, 0, 0, 0, 0
	for seed := range 4000 {
		at := seed
		k := anyCallCode(&at)
		switch seed % 4 {
		case 0:
			k = anyFlowCode(&at)
		case 1:
			if sound, ok := impl.CodeOf(anySoundProg(&at)); ok {
				k = sound
			}
		}
		wantCallsByRule(t, k, "code "+strconv.Itoa(seed))
		for proc := range k.Entry {
			if impl.Returns(k, proc) {
				returns++
			} else {
				stay++
			}
			calls, callers := impl.CallsOf(k, proc), impl.CallersOf(k, proc)
			if slices.ContainsFunc(calls, func(called int) bool { return called != proc && slices.Contains(callers, called) }) {
				both++
			}
			if len(impl.CallsFrom(k, proc)) > len(calls)+1 {
				far++
			}
		}
		for place, in := range k.Ins {
			if in.Op == impl.OpCall && !slices.Contains(impl.SitesOf(k, in.Arg), place) {
				dead++
			}
		}
	}
	if returns < 1000 || stay < 1000 || both < 500 || far < 500 || dead < 500 {
		t.Errorf("only %d procedures that return, %d that do not, %d that call each other, %d that call others from afar and %d calls where nothing comes were met", returns, stay, both, far, dead)
	}
}

// Promise 10: who is called has its caller, and each caller what it calls; what is called from one calls nothing else.
func TestWhoIsCalledHasItsCaller(t *testing.T) {
	for seed := range 3000 {
		at := seed
		k := anyCallCode(&at)
		for proc := range k.Entry {
			calls, callers, from := impl.CallsOf(k, proc), impl.CallersOf(k, proc), impl.CallsFrom(k, proc)
			for other := range k.Entry {
				if slices.Contains(calls, other) != slices.Contains(impl.CallersOf(k, other), proc) || slices.Contains(callers, other) != slices.Contains(impl.CallsOf(k, other), proc) {
					t.Fatalf("%d calls %v and is called by %v, %d calls %v and is called by %v, in\n%s", proc, calls, callers, other, impl.CallsOf(k, other), impl.CallersOf(k, other), allOfCode(k))
				}
			}
			if !slices.Contains(from, proc) {
				t.Fatalf("from %d one comes to %v, in\n%s", proc, from, allOfCode(k))
			}
			for _, one := range from {
				for _, called := range append(impl.CallsOf(k, one), impl.CallsFrom(k, one)...) {
					if !slices.Contains(from, called) {
						t.Fatalf("from %d one comes to %v, and from %d to %d, in\n%s", proc, from, one, called, allOfCode(k))
					}
				}
			}
			wantSitesOfCalls(t, k, proc)
		}
	}
}

// That the places at which a procedure is called are OpCalls of it, in those that call it alone, each of which has one.
func wantSitesOfCalls(t *testing.T, k impl.Code, proc int) {
	t.Helper()
	var callers []int
	sites := impl.SitesOf(k, proc)
	for i, at := range sites {
		if k.Ins[at].Op != impl.OpCall || k.Ins[at].Arg != proc || i > 0 && sites[i-1] >= at {
			t.Fatalf("%d is called at %v, in\n%s", proc, sites, allOfCode(k))
		}
		callers = append(callers, impl.ProcOf(k, at))
	}
	if got := impl.CallersOf(k, proc); !slices.Equal(slices.Compact(callers), got) {
		t.Fatalf("%d is called at %v, and by %v, in\n%s", proc, sites, got, allOfCode(k))
	}
}

func TestNoCallsOfWrongCodes(t *testing.T) {
	wantOfSpoiltCodes(t, anyCallCode, wantCallsByRule, wantNoCalls)
}

// Of the first and the last procedure something is told, of one below 0 and one past the end nothing.
func TestCallsAtTheEdges(t *testing.T) {
	body := func(begin int, called int, started int) []impl.Ins {
		return []impl.Ins{insTest(num(1), begin+2), insCall(called), insSpawn(started)}
	}
	for many := 1; many <= impl.MaxProcs; many++ {
		last := many - 1
		bodies := make([][]impl.Ins, many)
		bodies[0] = body(0, last, 0)
		if last > 0 {
			bodies[last] = body(many+2, 0, last)
		}
		k := codeOfProcs(bodies...)
		wantCallsByRule(t, k, strconv.Itoa(many)+" procedures")
		for _, proc := range []int{0, last} {
			if len(impl.CallsOf(k, proc)) != 1 || len(impl.SpawnsOf(k, proc)) != 1 || len(impl.CallsFrom(k, proc)) != min(many, 2) || len(impl.CallersOf(k, proc)) != 1 || len(impl.SitesOf(k, proc)) != 1 || !impl.Returns(k, proc) {
				t.Errorf("of %d procedures: %s", many, callLines(k)[proc])
			}
		}
		wantNoCallsAt(t, k, []int{-1, many}, "one past the edges")
	}
}

// What lies in the spare room behind a code is none of it.
func TestCallsOfCodesWithSpareRoom(t *testing.T) {
	k := ordinaryCode()
	k.Procs, k.Entry, k.Ins = append(k.Procs, "q")[:2], append(k.Entry, 14)[:2], append(k.Ins, insCall(0), insEnd)[:14]
	wantCalls(t, k, "a code with spare room", callLines(ordinaryCode())...)
}

// Each list is new: what is done to one is seen in no other, and not in the code.
func TestCallsShareNothing(t *testing.T) {
	for seed := range 300 {
		at := seed
		k := anyCallCode(&at)
		full := copyOfCode(k)
		full.Procs, full.Entry, full.Ins = append(full.Procs, "q", "r"), append(full.Entry, 5, 6, 7), append(full.Ins, insSkip, insEnd, insCall(3))
		whole := allOfCode(full)
		cut := full
		cut.Procs, cut.Entry, cut.Ins = full.Procs[:len(k.Procs)], full.Entry[:len(k.Entry)], full.Ins[:len(k.Ins)]
		lines := callLines(cut)
		var lists [][]int
		for proc := range cut.Entry {
			lists = append(lists, impl.CallsOf(cut, proc), impl.SpawnsOf(cut, proc), impl.CallsFrom(cut, proc), impl.CallersOf(cut, proc), impl.SitesOf(cut, proc))
		}
		wantApart(t, lists, whole)
		if allOfCode(full) != whole || !slices.Equal(callLines(cut), lines) {
			t.Fatalf("%s was changed, or what is told of it", whole)
		}
	}
}

// What is told hangs on the code alone, however often it is asked for.
func TestCallsAreTheSameEachTime(t *testing.T) {
	for seed := range 60 {
		at := seed
		k := anyCallCode(&at)
		first := callLines(k)
		for range 20 {
			if again := callLines(copyOfCode(k)); !slices.Equal(again, first) {
				t.Fatalf("first\n%s\nthen\n%s\nof\n%s", strings.Join(first, "\n"), strings.Join(again, "\n"), allOfCode(k))
			}
		}
	}
}
