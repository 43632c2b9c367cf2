package tests

import (
	"fmt"
	"maps"
	"math"
	"slices"
	"strconv"
	"strings"
	"testing"

	"loop.example/g00966/impl"
)

// A code with these instructions in its procedures, each of which ends with an OpEnd; the last one is main.
func codeOfProcs(bodies ...[]impl.Ins) impl.Code {
	k := impl.Code{Globals: []string{"x", "y"}, Locks: []string{"a", "b"}, Procs: append(namesOf("p", len(bodies)-1), "main")}
	for _, body := range bodies {
		k.Entry = append(k.Entry, len(k.Ins))
		k.Ins = append(append(k.Ins, body...), insEnd)
	}
	return k
}

func codeOfText(t *testing.T, text string) impl.Code {
	t.Helper()
	p, fault := impl.ReadProg(text)
	k, ok := impl.CodeOf(p)
	if fault != (impl.Fault{}) || !ok {
		t.Fatalf("%q has no code: %v, %d", text, fault, impl.ProgFault(p))
	}
	return k
}

func flowLine(at int, next []int, ahead []int, reach []int, loops bool) string {
	return fmt.Sprintf("%d next %v ahead %v reach %v loops %v", at, next, ahead, reach, loops)
}

// What chapter 9 tells of a code: a line for each place, and one for each procedure.
func flowLines(k impl.Code) []string {
	var lines []string
	for at := range k.Ins {
		lines = append(lines, flowLine(at, impl.NextOf(k, at), impl.AheadOf(k, at), impl.ReachIn(k, at), impl.InLoop(k, at)))
	}
	for proc := range k.Entry {
		lines = append(lines, fmt.Sprint("live ", impl.LiveIn(k, proc)))
	}
	return lines
}

// The places that may come next, as the line of the instruction tells it.
func nextByRule(k impl.Code, at int) []int {
	words := strings.Fields(impl.InsLine(k, at))
	last, _ := strconv.Atoi(words[len(words)-1])
	switch words[1] {
	case "end":
		return nil
	case "jump":
		return []int{last}
	case "test":
		return slices.Compact([]int{at + 1, last})
	}
	return []int{at + 1}
}

// The places that one comes to from this one, a step of all that were just come to at a time.
func reachBySteps(next [][]int, at int) []int {
	reached := map[int]bool{}
	for step := next[at]; len(step) > 0; {
		var behind []int
		for _, place := range step {
			if !reached[place] {
				reached[place] = true
				behind = append(behind, next[place]...)
			}
		}
		step = behind
	}
	return slices.Sorted(maps.Keys(reached))
}

func flowLinesByRule(k impl.Code) []string {
	next, ahead := make([][]int, len(k.Ins)), make([][]int, len(k.Ins))
	for at := range k.Ins {
		next[at] = nextByRule(k, at)
		for _, to := range next[at] {
			ahead[to] = append(ahead[to], at)
		}
	}
	var lines []string
	for at := range k.Ins {
		reach := reachBySteps(next, at)
		lines = append(lines, flowLine(at, next[at], ahead[at], reach, slices.Contains(reach, at)))
	}
	for _, entry := range k.Entry {
		live := append(reachBySteps(next, entry), entry)
		slices.Sort(live)
		lines = append(lines, fmt.Sprint("live ", slices.Compact(live)))
	}
	return lines
}

// That a code that is right has these lines, and nothing is told of what it has not.
func wantFlow(t *testing.T, k impl.Code, what string, want ...string) {
	t.Helper()
	if !impl.CodeOk(k) {
		t.Fatalf("%s is not right:\n%.2000s", what, allOfCode(k))
	}
	got := flowLines(k)
	if len(got) != len(want) {
		t.Fatalf("%s has %d lines; want %d", what, len(got), len(want))
	}
	for i, line := range want {
		if got[i] != line {
			t.Errorf("%s: got\n%.300s\nwant\n%.300s", what, got[i], line)
		}
	}
	wantNoFlowAt(t, k, nonesOf(len(k.Ins)), nonesOf(len(k.Entry)), what)
}

func wantFlowByRule(t *testing.T, k impl.Code, what string) {
	t.Helper()
	if !impl.CodeOk(k) {
		t.Fatalf("%s is not right:\n%.2000s", what, allOfCode(k))
	}
	wantFlow(t, k, what, flowLinesByRule(k)...)
}

// Numbers that are none of so many.
func nonesOf(many int) []int {
	return []int{-1, -2, math.MinInt, many, many + 1, math.MaxInt}
}

// That nothing is told of these places and these procedures.
func wantNoFlowAt(t *testing.T, k impl.Code, places []int, procs []int, what string) {
	t.Helper()
	for _, at := range places {
		next, ahead, reach, loops := impl.NextOf(k, at), impl.AheadOf(k, at), impl.ReachIn(k, at), impl.InLoop(k, at)
		if len(next)+len(ahead)+len(reach) > 0 || loops {
			t.Errorf("%s: got %s; want nothing", what, flowLine(at, next, ahead, reach, loops))
		}
	}
	for _, proc := range procs {
		if live := impl.LiveIn(k, proc); len(live) > 0 {
			t.Errorf("%s: LiveIn %d is %v; want nothing", what, proc, live)
		}
	}
}

// Of a code that is not right nothing is told, whatever is asked of it.
func wantNoFlow(t *testing.T, k impl.Code, what string) {
	t.Helper()
	if impl.CodeOk(k) {
		t.Fatalf("%s is right:\n%.2000s", what, allOfCode(k))
	}
	places, procs := nonesOf(len(k.Ins)), nonesOf(len(k.Entry))
	for at := range min(len(k.Ins), 20) {
		places = append(places, at, len(k.Ins)-1-at)
	}
	for proc := range max(len(k.Entry), len(k.Procs)) {
		procs = append(procs, proc)
	}
	wantNoFlowAt(t, k, places, procs, what)
}

func TestFlowOfAnOrdinaryCode(t *testing.T) {
	wantFlow(t, ordinaryCode(), "an ordinary code",
		"0 next [1] ahead [] reach [1 2 3 4 5 6 7 8] loops false",
		"1 next [2 5] ahead [0 4] reach [1 2 3 4 5 6 7 8] loops true",
		"2 next [3] ahead [1] reach [1 2 3 4 5 6 7 8] loops true",
		"3 next [4] ahead [2] reach [1 2 3 4 5 6 7 8] loops true",
		"4 next [1] ahead [3] reach [1 2 3 4 5 6 7 8] loops true",
		"5 next [6] ahead [1] reach [6 7 8] loops false",
		"6 next [7] ahead [5] reach [7 8] loops false",
		"7 next [8] ahead [6] reach [8] loops false",
		"8 next [] ahead [7] reach [] loops false",
		"9 next [10 12] ahead [] reach [10 11 12 13] loops false",
		"10 next [11] ahead [9] reach [11 13] loops false",
		"11 next [13] ahead [10] reach [13] loops false",
		"12 next [13] ahead [9] reach [13] loops false",
		"13 next [] ahead [11 12] reach [] loops false",
		"live [0 1 2 3 4 5 6 7 8]",
		"live [9 10 11 12 13]")
}

// Each Op alone, ahead of an OpEnd: but for jumps and tests, the next place comes next, also behind what calls and starts.
func TestFlowOfEachOp(t *testing.T) {
	one := num(1)
	for _, in := range []impl.Ins{insSet(1, one), insNamed(impl.OpCall, 0), insNamed(impl.OpSpawn, 0), insNamed(impl.OpLock, 1), insNamed(impl.OpUnlock, 1), insSkip, insTest(one, 1), insJump(1)} {
		wantFlow(t, codeOfProcs([]impl.Ins{in}), "Op "+strconv.Itoa(in.Op)+" alone",
			"0 next [1] ahead [] reach [1] loops false", "1 next [] ahead [0] reach [] loops false", "live [0 1]")
	}
	wantFlow(t, codeOfProcs(nil), "an OpEnd alone", "0 next [] ahead [] reach [] loops false", "live [0]")
}

func TestFlowOfStatements(t *testing.T) {
	for text, want := range map[string][]string{
		"": {"0 next [] ahead [] reach [] loops false", "live [0]"},
		"while x { skip; } y = 1;": {
			"0 next [1 3] ahead [2] reach [0 1 2 3 4] loops true", "1 next [2] ahead [0] reach [0 1 2 3 4] loops true", "2 next [0] ahead [1] reach [0 1 2 3 4] loops true",
			"3 next [4] ahead [0] reach [4] loops false", "4 next [] ahead [3] reach [] loops false", "live [0 1 2 3 4]"},
		"while x { }": {
			"0 next [1 2] ahead [1] reach [0 1 2] loops true", "1 next [0] ahead [0] reach [0 1 2] loops true", "2 next [] ahead [0] reach [] loops false", "live [0 1 2]"},
		"if x { skip; } lock a;": {
			"0 next [1 2] ahead [] reach [1 2 3] loops false", "1 next [2] ahead [0] reach [2 3] loops false", "2 next [3] ahead [0 1] reach [3] loops false",
			"3 next [] ahead [2] reach [] loops false", "live [0 1 2 3]"},
		// What follows is where both ways of the test lead to; it is told once.
		"if x { } skip;": {
			"0 next [1] ahead [] reach [1 2] loops false", "1 next [2] ahead [0] reach [2] loops false", "2 next [] ahead [1] reach [] loops false", "live [0 1 2]"},
		"if x { skip; } else { lock a; }": {
			"0 next [1 3] ahead [] reach [1 2 3 4] loops false", "1 next [2] ahead [0] reach [2 4] loops false", "2 next [4] ahead [1] reach [4] loops false",
			"3 next [4] ahead [0] reach [4] loops false", "4 next [] ahead [2 3] reach [] loops false", "live [0 1 2 3 4]"},
		"if x { } else { skip; }": {
			"0 next [1 2] ahead [] reach [1 2 3] loops false", "1 next [3] ahead [0] reach [3] loops false", "2 next [3] ahead [0] reach [3] loops false",
			"3 next [] ahead [1 2] reach [] loops false", "live [0 1 2 3]"},
		"skip; while x { if y { call main; } } spawn main;": {
			"0 next [1] ahead [] reach [1 2 3 4 5 6] loops false", "1 next [2 5] ahead [0 4] reach [1 2 3 4 5 6] loops true", "2 next [3 4] ahead [1] reach [1 2 3 4 5 6] loops true",
			"3 next [4] ahead [2] reach [1 2 3 4 5 6] loops true", "4 next [1] ahead [2 3] reach [1 2 3 4 5 6] loops true", "5 next [6] ahead [1] reach [6] loops false",
			"6 next [] ahead [5] reach [] loops false", "live [0 1 2 3 4 5 6]"},
		"if x { while y { } } else { skip; }": {
			"0 next [1 4] ahead [] reach [1 2 3 4 5] loops false", "1 next [2 3] ahead [0 2] reach [1 2 3 5] loops true", "2 next [1] ahead [1] reach [1 2 3 5] loops true",
			"3 next [5] ahead [1] reach [5] loops false", "4 next [5] ahead [0] reach [5] loops false", "5 next [] ahead [3 4] reach [] loops false", "live [0 1 2 3 4 5]"},
		"while x { while y { } }": {
			"0 next [1 4] ahead [3] reach [0 1 2 3 4] loops true", "1 next [2 3] ahead [0 2] reach [0 1 2 3 4] loops true", "2 next [1] ahead [1] reach [0 1 2 3 4] loops true",
			"3 next [0] ahead [1] reach [0 1 2 3 4] loops true", "4 next [] ahead [0] reach [] loops false", "live [0 1 2 3 4]"},
	} {
		wantFlow(t, codeOfText(t, "globals x, y; locks a; proc main {"+text+"}"), text, want...)
	}
}

// Nothing leads from one procedure into another, not where one begins or ends, and not by calls.
func TestFlowOfSeveralProcedures(t *testing.T) {
	wantFlow(t, codeOfText(t, "globals x; locks a; proc p { call main; spawn q; } proc q { } proc main { while x { call p; } call q; } proc r { lock a; }"), "four procedures",
		"0 next [1] ahead [] reach [1 2] loops false", "1 next [2] ahead [0] reach [2] loops false", "2 next [] ahead [1] reach [] loops false",
		"3 next [] ahead [] reach [] loops false",
		"4 next [5 7] ahead [6] reach [4 5 6 7 8] loops true", "5 next [6] ahead [4] reach [4 5 6 7 8] loops true", "6 next [4] ahead [5] reach [4 5 6 7 8] loops true",
		"7 next [8] ahead [4] reach [8] loops false", "8 next [] ahead [7] reach [] loops false",
		"9 next [10] ahead [] reach [10] loops false", "10 next [] ahead [9] reach [] loops false",
		"live [0 1 2]", "live [3]", "live [4 5 6 7 8]", "live [9 10]")
	ends := make([][]impl.Ins, impl.MaxProcs)
	var want, live []string
	for at := range ends {
		want, live = append(want, flowLine(at, nil, nil, nil, false)), append(live, fmt.Sprint("live ", []int{at}))
	}
	wantFlow(t, codeOfProcs(ends...), "procedures that are an OpEnd alone", append(want, live...)...)
}

// That a procedure of these instructions and an OpEnd, which lies between two others and begins at 2, has these lines.
func wantFlowBetween(t *testing.T, what string, body []impl.Ins, want ...string) {
	t.Helper()
	k := codeOfProcs([]impl.Ins{insSkip}, body, []impl.Ins{insSkip})
	wantFlowByRule(t, k, what)
	lines, begin, end := flowLines(k), 2, 3+len(body)
	got := append(lines[begin:end:end], lines[len(k.Ins)+1])
	if !slices.Equal(got, want) {
		t.Errorf("%s: got\n%s\nwant\n%s", what, strings.Join(got, "\n"), strings.Join(want, "\n"))
	}
}

func TestFlowOfTestsThatLeadAnywhere(t *testing.T) {
	x := read("x")
	wantFlowBetween(t, "a test to the next place", []impl.Ins{insSkip, insTest(x, 4), insSkip},
		"2 next [3] ahead [] reach [3 4 5] loops false", "3 next [4] ahead [2] reach [4 5] loops false", "4 next [5] ahead [3] reach [5] loops false", "5 next [] ahead [4] reach [] loops false", "live [2 3 4 5]")
	wantFlowBetween(t, "a test to a place ahead of it", []impl.Ins{insSkip, insTest(x, 2), insSkip},
		"2 next [3] ahead [3] reach [2 3 4 5] loops true", "3 next [4 2] ahead [2] reach [2 3 4 5] loops true", "4 next [5] ahead [3] reach [5] loops false", "5 next [] ahead [4] reach [] loops false", "live [2 3 4 5]")
	wantFlowBetween(t, "a test to itself", []impl.Ins{insSkip, insTest(x, 3), insSkip},
		"2 next [3] ahead [] reach [3 4 5] loops false", "3 next [4 3] ahead [2 3] reach [3 4 5] loops true", "4 next [5] ahead [3] reach [5] loops false", "5 next [] ahead [4] reach [] loops false", "live [2 3 4 5]")
	wantFlowBetween(t, "a test at the entry to itself", []impl.Ins{insTest(x, 2)},
		"2 next [3 2] ahead [2] reach [2 3] loops true", "3 next [] ahead [2] reach [] loops false", "live [2 3]")
	wantFlowBetween(t, "a test to the end", []impl.Ins{insSkip, insTest(x, 5), insSkip},
		"2 next [3] ahead [] reach [3 4 5] loops false", "3 next [4 5] ahead [2] reach [4 5] loops false", "4 next [5] ahead [3] reach [5] loops false", "5 next [] ahead [3 4] reach [] loops false", "live [2 3 4 5]")
	wantFlowBetween(t, "a test at the end to the entry", []impl.Ins{insSkip, insSkip, insTest(x, 2)},
		"2 next [3] ahead [4] reach [2 3 4 5] loops true", "3 next [4] ahead [2] reach [2 3 4 5] loops true", "4 next [5 2] ahead [3] reach [2 3 4 5] loops true", "5 next [] ahead [4] reach [] loops false", "live [2 3 4 5]")
	wantFlowBetween(t, "three tests to one place", []impl.Ins{insTest(x, 5), insTest(x, 5), insTest(x, 5)},
		"2 next [3 5] ahead [] reach [3 4 5] loops false", "3 next [4 5] ahead [2] reach [4 5] loops false", "4 next [5] ahead [3] reach [5] loops false", "5 next [] ahead [2 3 4] reach [] loops false", "live [2 3 4 5]")
	wantFlowBetween(t, "tests from either side to one place", []impl.Ins{insTest(x, 4), insSkip, insSkip, insTest(x, 4)},
		"2 next [3 4] ahead [] reach [3 4 5 6] loops false", "3 next [4] ahead [2] reach [4 5 6] loops false", "4 next [5] ahead [2 3 5] reach [4 5 6] loops true", "5 next [6 4] ahead [4] reach [4 5 6] loops true", "6 next [] ahead [5] reach [] loops false", "live [2 3 4 5 6]")
}

func TestFlowOfJumpsThatLeadAnywhere(t *testing.T) {
	wantFlowBetween(t, "a jump to the next place", []impl.Ins{insSkip, insJump(4), insSkip},
		"2 next [3] ahead [] reach [3 4 5] loops false", "3 next [4] ahead [2] reach [4 5] loops false", "4 next [5] ahead [3] reach [5] loops false", "5 next [] ahead [4] reach [] loops false", "live [2 3 4 5]")
	wantFlowBetween(t, "a jump to an earlier place", []impl.Ins{insSkip, insJump(2), insSkip},
		"2 next [3] ahead [3] reach [2 3] loops true", "3 next [2] ahead [2] reach [2 3] loops true", "4 next [5] ahead [] reach [5] loops false", "5 next [] ahead [4] reach [] loops false", "live [2 3]")
	wantFlowBetween(t, "a jump to itself", []impl.Ins{insSkip, insJump(3), insSkip},
		"2 next [3] ahead [] reach [3] loops false", "3 next [3] ahead [2 3] reach [3] loops true", "4 next [5] ahead [] reach [5] loops false", "5 next [] ahead [4] reach [] loops false", "live [2 3]")
	wantFlowBetween(t, "a jump at the entry to itself", []impl.Ins{insJump(2)},
		"2 next [2] ahead [2] reach [2] loops true", "3 next [] ahead [] reach [] loops false", "live [2]")
	wantFlowBetween(t, "a jump over a place", []impl.Ins{insJump(4), insSkip, insSkip},
		"2 next [4] ahead [] reach [4 5] loops false", "3 next [4] ahead [] reach [4 5] loops false", "4 next [5] ahead [2 3] reach [5] loops false", "5 next [] ahead [4] reach [] loops false", "live [2 4 5]")
	wantFlowBetween(t, "a jump to the end, over a round that is never come to", []impl.Ins{insJump(5), insJump(4), insJump(3)},
		"2 next [5] ahead [] reach [5] loops false", "3 next [4] ahead [4] reach [3 4] loops true", "4 next [3] ahead [3] reach [3 4] loops true", "5 next [] ahead [2] reach [] loops false", "live [2 5]")
	wantFlowBetween(t, "a jump into a round", []impl.Ins{insJump(4), insSkip, insJump(3)},
		"2 next [4] ahead [] reach [3 4] loops false", "3 next [4] ahead [4] reach [3 4] loops true", "4 next [3] ahead [2 3] reach [3 4] loops true", "5 next [] ahead [] reach [] loops false", "live [2 3 4]")
	wantFlowBetween(t, "jumps back and forth", []impl.Ins{insJump(5), insJump(6), insJump(3), insJump(4)},
		"2 next [5] ahead [] reach [3 4 5 6] loops false", "3 next [6] ahead [4] reach [6] loops false", "4 next [3] ahead [5] reach [3 6] loops false", "5 next [4] ahead [2] reach [3 4 6] loops false", "6 next [] ahead [3] reach [] loops false", "live [2 3 4 5 6]")
}

// All procedures of as many instructions that skip, jump or test, wherever these lead to, between two others.
func TestFlowOfAllSmallProcedures(t *testing.T) {
	for size := range 5 {
		var ways []impl.Ins
		for to := 1; to <= size+1; to++ {
			ways = append(ways, insJump(to), insTest(num(1), to))
		}
		ways = append(ways, insSkip)
		body := make([]impl.Ins, size)
		for n := range powerOf(len(ways), size) {
			for i := range body {
				body[i] = ways[n%len(ways)]
				n /= len(ways)
			}
			k := codeOfProcs(nil, body, nil)
			if got, want := flowLines(k), flowLinesByRule(k); !slices.Equal(got, want) {
				t.Fatalf("of %s\ngot\n%s\nwant\n%s", allOfCode(k), strings.Join(got, "\n"), strings.Join(want, "\n"))
			}
		}
	}
}

func powerOf(n int, power int) int {
	all := 1
	for range power {
		all *= n
	}
	return all
}

// A code that is right, picked by a number that is multiplied on, most often with tests and jumps that no program has.
func anyFlowCode(seed *int) impl.Code {
	next := func(below int) int {
		*seed = (*seed*1103 + 12345) % 1000003
		return *seed / 7 % below
	}
	bodies := make([][]impl.Ins, 1+next(4))
	begin := 0
	for i := range bodies {
		size := next(9)
		for range size {
			to := begin + next(size+1)
			in := []impl.Ins{insTest(read("x"), to), insJump(to), insTest(num(0), to), insSkip, insSet(next(2), num(1)), insNamed(impl.OpCall, next(len(bodies))), insNamed(impl.OpSpawn, next(len(bodies))), insNamed(impl.OpLock, next(2)), insNamed(impl.OpUnlock, next(2))}[next(9)]
			bodies[i] = append(bodies[i], in)
		}
		begin += size + 1
	}
	return codeOfProcs(bodies...)
}

func TestFlowByItsRule(t *testing.T) {
	back, dead, loops := 0, 0, 0
	for seed := range 3000 {
		at := seed
		k := anyFlowCode(&at)
		if seed%3 == 0 {
			if sound, ok := impl.CodeOf(anySoundProg(&at)); ok {
				k = sound
			}
		}
		wantFlowByRule(t, k, allOfCode(k))
		for place, in := range k.Ins {
			if in.Op == impl.OpTest && in.To <= place {
				back++
			}
			if impl.InLoop(k, place) {
				loops++
			}
			if !slices.Contains(impl.LiveIn(k, impl.ProcOf(k, place)), place) {
				dead++
			}
		}
	}
	if back < 1000 || dead < 1000 || loops < 1000 {
		t.Errorf("only %d tests that lead back, %d places that are never come to and %d in a loop were met", back, dead, loops)
	}
}

// Promise 9: what comes next has it ahead, and what is ahead has it next, in the same procedure, each once.
func TestWhatComesNextHasItAhead(t *testing.T) {
	for seed := range 1500 {
		at := seed
		k := anyFlowCode(&at)
		for from := range k.Ins {
			next, ahead, reach := impl.NextOf(k, from), impl.AheadOf(k, from), impl.ReachIn(k, from)
			for i, to := range next {
				if !slices.Contains(impl.AheadOf(k, to), from) || impl.ProcOf(k, to) != impl.ProcOf(k, from) || slices.Index(next, to) != i {
					t.Fatalf("next of %d is %v, and ahead of %d is %v, in\n%s", from, next, to, impl.AheadOf(k, to), allOfCode(k))
				}
			}
			for i, one := range ahead {
				if !slices.Contains(impl.NextOf(k, one), from) || i > 0 && ahead[i-1] >= one {
					t.Fatalf("ahead of %d is %v, and next of %d is %v, in\n%s", from, ahead, one, impl.NextOf(k, one), allOfCode(k))
				}
			}
			if impl.InLoop(k, from) != slices.Contains(reach, from) {
				t.Fatalf("InLoop %d is %v, and one comes to %v, in\n%s", from, impl.InLoop(k, from), reach, allOfCode(k))
			}
		}
	}
}

// As many instructions as may be: one behind the other, all in a round, all to one place, and from the end to the entry by ways back and forth.
func TestFlowOfTheLongestCodes(t *testing.T) {
	last := mostIns - 1
	far := codeOfSize(mostIns, 1)
	wantFlowByRule(t, far, "a long code")
	round, toEnd, zigzag := copyOfCode(far), copyOfCode(far), copyOfCode(far)
	round.Ins[last-1] = insJump(0)
	for at := range last {
		toEnd.Ins[at] = insTest(num(1), last)
		zigzag.Ins[at] = insJump(last - 1 - at)
	}
	zigzag.Ins[0] = insTest(num(1), last-1)
	for what, k := range map[string]impl.Code{"a long round": round, "a code of tests to its end": toEnd, "a code of jumps to and fro": zigzag, "a long code behind others": codeOfSize(mostIns, impl.MaxProcs)} {
		wantFlowByRule(t, k, what)
	}
	if got := len(impl.AheadOf(toEnd, last)); got != last {
		t.Errorf("the end has %d places ahead of it; want %d", got, last)
	}
	if got := len(impl.ReachIn(round, last-1)); got != last || impl.InLoop(round, last) || !impl.InLoop(round, 0) {
		t.Errorf("in a long round one comes to %d places; want %d", got, last)
	}
}

// Of each rule of CodeOk a code that breaks it.
func wrongCodes() map[string]impl.Code {
	wrong := map[string]impl.Code{"the zero code": {}, "a code without instructions": {Procs: []string{"main"}, Entry: []int{0}}, "a code without procedures": {Ins: []impl.Ins{insSkip, insEnd}}, "an instruction too many": codeOfSize(mostIns+1, 2), "a procedure too many": codeOfSize(20, impl.MaxProcs+1)}
	for what, spoil := range map[string]func(k *impl.Code){
		"a global too many":                    func(k *impl.Code) { k.Globals = append(k.Globals, namesOf("g", impl.MaxGlobals-1)...) },
		"a lock too many":                      func(k *impl.Code) { k.Locks = append(k.Locks, namesOf("l", impl.MaxLocks-2)...) },
		"a name that is none":                  func(k *impl.Code) { k.Locks[1] = "if" },
		"a name that stands twice":             func(k *impl.Code) { k.Globals[1] = "x" },
		"no main":                              func(k *impl.Code) { k.Procs[1] = "q" },
		"an entry that lacks":                  func(k *impl.Code) { k.Entry = k.Entry[:1] },
		"an entry too many":                    func(k *impl.Code) { k.Entry = append(k.Entry, 14) },
		"a first entry that is not 0":          func(k *impl.Code) { k.Entry[0] = 1 },
		"entries that do not rise":             func(k *impl.Code) { k.Entry[1] = 0 },
		"an entry that is not behind an OpEnd": func(k *impl.Code) { k.Entry[1] = 8 },
		"an entry past the end":                func(k *impl.Code) { k.Entry[1] = 99 },
		"an entry below 0":                     func(k *impl.Code) { k.Entry[1] = math.MinInt },
		"no OpEnd at the end":                  func(k *impl.Code) { k.Ins[13] = insSkip },
		"an OpEnd elsewhere":                   func(k *impl.Code) { k.Ins[7] = insEnd },
		"an Op that is none":                   func(k *impl.Code) { k.Ins[7].Op = 10 },
		"an Arg of no lock":                    func(k *impl.Code) { k.Ins[2].Arg = 3 },
		"an Arg of no procedure":               func(k *impl.Code) { k.Ins[6].Arg = -1 },
		"an Arg where there is to be none":     func(k *impl.Code) { k.Ins[4].Arg = 1 },
		"a term that is not right":             func(k *impl.Code) { k.Ins[1].Term = impl.Term{} },
		"a term that reads no global":          func(k *impl.Code) { k.Ins[3].Term = read("a") },
		"a term where there is to be none":     func(k *impl.Code) { k.Ins[7].Term = num(1) },
		"a test to another procedure":          func(k *impl.Code) { k.Ins[1].To = 9 },
		"a jump to another procedure":          func(k *impl.Code) { k.Ins[11].To = 8 },
		"a jump past the end":                  func(k *impl.Code) { k.Ins[11].To = 14 },
		"a jump far past the end":              func(k *impl.Code) { k.Ins[4].To = math.MaxInt },
		"a jump below 0":                       func(k *impl.Code) { k.Ins[4].To = -1 },
		"a To where there is to be none":       func(k *impl.Code) { k.Ins[7].To = 1 },
	} {
		k := ordinaryCode()
		spoil(&k)
		wrong[what] = k
	}
	return wrong
}

// Wants one thing of codes that are not right, also of picked ones that were spoilt, and the other of those that are right all the same.
func wantOfSpoiltCodes(t *testing.T, pick func(seed *int) impl.Code, wantRight func(t *testing.T, k impl.Code, what string), wantWrong func(t *testing.T, k impl.Code, what string)) {
	t.Helper()
	for what, k := range wrongCodes() {
		wantWrong(t, k, what)
	}
	right, wrong := 0, 0
	for seed := range 6000 {
		at := seed
		k := pick(&at)
		for range 1 + seed%2 {
			if len(k.Ins) > 0 && len(k.Entry) > 0 {
				spoilCode(&k, &at)
			}
		}
		if codeOkByRule(k) {
			right++
			wantRight(t, k, "a spoilt code")
		} else {
			wrong++
			wantWrong(t, k, "a spoilt code")
		}
	}
	if right < 300 || wrong < 1000 {
		t.Errorf("only %d codes that are right and %d that are not were met", right, wrong)
	}
}

func TestNoFlowOfWrongCodes(t *testing.T) {
	wantOfSpoiltCodes(t, anyFlowCode, wantFlowByRule, wantNoFlow)
}

// At the first and the last place and procedure something is told, one below 0 and one past the end nothing.
func TestFlowAtTheEdges(t *testing.T) {
	loop := []impl.Ins{insTest(num(1), 0)}
	for _, k := range []impl.Code{codeOfProcs(loop), codeOfProcs(loop, nil), codeOfProcs(loop, []impl.Ins{insSkip}, nil)} {
		last, lastProc := len(k.Ins)-1, len(k.Entry)-1
		if len(impl.NextOf(k, 0)) != 2 || len(impl.AheadOf(k, 0)) != 1 || len(impl.ReachIn(k, 0)) != 2 || !impl.InLoop(k, 0) || len(impl.LiveIn(k, 0)) != 2 {
			t.Errorf("at the first place of %s it is %s", allOfCode(k), flowLines(k)[0])
		}
		if !slices.Contains(impl.LiveIn(k, lastProc), last) || len(impl.NextOf(k, last)) > 0 || lastProc == 0 && !slices.Equal(impl.AheadOf(k, last), []int{0}) {
			t.Errorf("at the last place of %s it is %s", allOfCode(k), flowLines(k)[last])
		}
		wantNoFlowAt(t, k, []int{-1, last + 1}, []int{-1, lastProc + 1}, "one past the edges")
	}
	// What lies in the spare room behind a code is none of it.
	k := ordinaryCode()
	k.Procs, k.Entry, k.Ins = append(k.Procs, "q")[:2], append(k.Entry, 14)[:2], append(k.Ins, insJump(14), insEnd)[:14]
	wantFlow(t, k, "a code with spare room", flowLines(ordinaryCode())...)
}

// Writes into each of these lists, and the spare room behind it, and looks whether another one is changed by it.
func wantApart(t *testing.T, lists [][]int, what string) {
	t.Helper()
	var kept [][]int
	for _, list := range lists {
		kept = append(kept, slices.Clone(list))
	}
	for i, list := range lists {
		room := list[:cap(list)]
		for j := range room {
			room[j] = -77
		}
		for j := i + 1; j < len(lists); j++ {
			if !slices.Equal(lists[j], kept[j]) {
				t.Fatalf("lists %d and %d of %s share memory", i, j, what)
			}
		}
	}
}

// Each list is new: what is done to one is seen in no other, and not in the code.
func TestFlowSharesNothing(t *testing.T) {
	for seed := range 300 {
		at := seed
		k := anyFlowCode(&at)
		full := copyOfCode(k)
		full.Entry, full.Ins = append(full.Entry, 5, 6, 7), append(full.Ins, insSkip, insEnd, insJump(3))
		whole := allOfCode(full)
		cut := full
		cut.Entry, cut.Ins = full.Entry[:len(k.Entry)], full.Ins[:len(k.Ins)]
		lines := flowLines(cut)
		var lists [][]int
		for place := range cut.Ins {
			lists = append(lists, impl.NextOf(cut, place), impl.AheadOf(cut, place), impl.ReachIn(cut, place))
		}
		for proc := range cut.Entry {
			lists = append(lists, impl.LiveIn(cut, proc))
		}
		wantApart(t, lists, whole)
		if allOfCode(full) != whole || !slices.Equal(flowLines(cut), lines) {
			t.Fatalf("%s was changed, or what is told of it", whole)
		}
	}
}
