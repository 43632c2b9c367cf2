package tests

import (
	"fmt"
	"math"
	"slices"
	"strconv"
	"testing"

	"loop.example/g00966/impl"
)

// Numbers that are no sets; most have bits that a set has.
func noSets() []int {
	return append(nonesOf(impl.Full+1), -3, -impl.Full, -impl.Full-1, -impl.Full-2, 66, 2*impl.Full+1, 2*impl.Full+2, 1000, 1<<32, 1<<32+5, 1<<62+1, math.MinInt+1, math.MaxInt-1)
}

// Numbers that no lock has.
func noLocks() []int {
	return append(nonesOf(impl.MaxLocks), -6, -63, -64, 31, 32, 62, 63, 64, 65, 70, 1<<32, 1<<32+1, 1<<62, math.MinInt+1, math.MaxInt-1)
}

// A set whose digits are read as a text of noughts and ones.
func inByRule(set int, i int) bool {
	digits := strconv.FormatInt(int64(set), 2)
	return i < len(digits) && digits[len(digits)-1-i] == '1'
}

// The numbers of which this is told, rising.
func locksWith(told func(i int) bool) []int {
	var list []int
	for i := range impl.MaxLocks {
		if told(i) {
			list = append(list, i)
		}
	}
	return list
}

// That a set is one, and that just these numbers, rising, are in it.
func wantSet(t *testing.T, set int, want []int, what string) {
	t.Helper()
	if set < 0 || set > impl.Full {
		t.Fatalf("%s is %d", what, set)
	}
	if got := impl.ListOf(set); !slices.Equal(got, want) {
		t.Fatalf("%s is %d, with %v in it; want %v", what, set, got, want)
	}
	if got := locksWith(func(i int) bool { return impl.InSet(set, i) }); !slices.Equal(got, want) {
		t.Fatalf("%s is %d, and InSet tells %v; want %v", what, set, got, want)
	}
}

// The names that are picked by a set, told lock by lock.
func namesByRule(k impl.Code, set int) []string {
	var names []string
	for _, i := range locksWith(func(i int) bool { return inByRule(set, i) }) {
		if i < len(k.Locks) {
			names = append(names, k.Locks[i])
		}
	}
	return names
}

// That of a code that is right each set's names are told as the rule says, and of what is no set none.
func wantNamesByRule(t *testing.T, k impl.Code, what string) {
	t.Helper()
	if !impl.CodeOk(k) {
		t.Fatalf("%s is not right:\n%.2000s", what, allOfCode(k))
	}
	for set := range impl.Full + 1 {
		if got, want := impl.NamesOf(k, set), namesByRule(k, set); !slices.Equal(got, want) {
			t.Fatalf("%s: NamesOf %d is %q; want %q", what, set, got, want)
		}
	}
	wantNoNamesOf(t, k, noSets(), what)
}

func wantNoNamesOf(t *testing.T, k impl.Code, sets []int, what string) {
	t.Helper()
	for _, set := range sets {
		if got := impl.NamesOf(k, set); len(got) > 0 {
			t.Errorf("%s: NamesOf %d is %q; want nothing", what, set, got)
		}
	}
}

// That of a code that is not right no name is told.
func wantNoNames(t *testing.T, k impl.Code, what string) {
	t.Helper()
	if impl.CodeOk(k) {
		t.Fatalf("%s is right:\n%.2000s", what, allOfCode(k))
	}
	wantNoNamesOf(t, k, append(rowOfNodes(impl.Full+1), noSets()...), what)
}

// That nothing is told of these two, of which one or both are no sets.
func wantNoSetOf(t *testing.T, a int, b int) {
	t.Helper()
	both, either, without, within := impl.Both(a, b), impl.Either(a, b), impl.Without(a, b), impl.Within(a, b)
	if both != 0 || either != 0 || without != 0 || within {
		t.Errorf("of %d and %d: both %d, either %d, without %d, within %v; want nothing", a, b, both, either, without, within)
	}
}

func TestSetsConstants(t *testing.T) {
	if impl.Full != 63 || impl.MaxLocks != 6 {
		t.Errorf("Full is %d, MaxLocks %d", impl.Full, impl.MaxLocks)
	}
}

func TestOrdinarySets(t *testing.T) {
	for _, one := range []struct {
		set  int
		list []int
	}{
		{0, nil}, {1, []int{0}}, {2, []int{1}}, {3, []int{0, 1}}, {5, []int{0, 2}}, {20, []int{2, 4}}, {32, []int{5}},
		{33, []int{0, 5}}, {42, []int{1, 3, 5}}, {62, []int{1, 2, 3, 4, 5}}, {impl.Full, []int{0, 1, 2, 3, 4, 5}},
	} {
		wantSet(t, one.set, one.list, "a set")
		if got := impl.SetOf(one.list); got != one.set {
			t.Errorf("SetOf %v is %d; want %d", one.list, got, one.set)
		}
	}
	if both, either, without := impl.Both(13, 38), impl.Either(13, 38), impl.Without(13, 38); both != 4 || either != 47 || without != 9 {
		t.Errorf("both %d, either %d, without %d", both, either, without)
	}
	if impl.Without(38, 13) != 34 || !impl.Within(9, 13) || impl.Within(13, 9) || impl.Within(13, 38) || impl.Within(18, 13) {
		t.Error("Without or Within of ordinary sets")
	}
}

// Promise 12: a set is just what is in it; there and back, each comes out as it was.
func TestEachSetComesBackFromItsList(t *testing.T) {
	lists := map[string]int{}
	for set := range impl.Full + 1 {
		list := locksWith(func(i int) bool { return inByRule(set, i) })
		wantSet(t, set, list, strconv.Itoa(set))
		if got := impl.SetOf(impl.ListOf(set)); got != set {
			t.Errorf("of %d comes back %d", set, got)
		}
		lists[fmt.Sprint(impl.ListOf(set))] = set
	}
	if len(lists) != impl.Full+1 {
		t.Errorf("there are %d lists of all sets", len(lists))
	}
}

func TestSetOfAnyNumbers(t *testing.T) {
	for _, one := range []struct {
		list []int
		want int
	}{
		{nil, 0},
		{[]int{}, 0},
		{[]int{3, 3}, 8},
		{[]int{0, 1, 0, 1, 0}, 3},
		{[]int{5, 5, 5, 5}, 32},
		{[]int{5, 4, 3, 2, 1, 0}, impl.Full},
		{[]int{4, 2, 0}, 21},
		{[]int{2, 5, 1, 2}, 38},
		// What is no number of a lock is passed over, wherever it stands.
		{[]int{-1}, 0},
		{[]int{impl.MaxLocks}, 0},
		{[]int{-1, 0}, 1},
		{[]int{5, impl.MaxLocks}, 32},
		{[]int{impl.MaxLocks - 1, impl.MaxLocks, impl.MaxLocks + 1}, 32},
		{[]int{-2, -1, 0, 1, 6, 7, 8, 2}, 7},
		{[]int{0, 2, 9}, 5},
		{[]int{math.MinInt, 3, math.MaxInt}, 8},
		{noLocks(), 0},
		{append(noLocks(), 4), 16},
		{append([]int{1}, noLocks()...), 2},
	} {
		if got := impl.SetOf(one.list); got != one.want {
			t.Errorf("SetOf %v is %d; want %d", one.list, got, one.want)
		}
	}
	for _, none := range noLocks() {
		for set := range impl.Full + 1 {
			list := impl.ListOf(set)
			if ahead, behind := impl.SetOf(append([]int{none}, list...)), impl.SetOf(append(list, none)); ahead != set || behind != set {
				t.Errorf("%d with %d ahead of it is %d, and behind it %d", set, none, ahead, behind)
			}
		}
	}
}

// Of all lists of up to four numbers, also of such as no lock has: just what stands in one is in its set.
func TestSetOfAllShortLists(t *testing.T) {
	numbers := []int{-1, 0, 1, 2, 3, 4, 5, 6, 64}
	for size := range 5 {
		for picked := range powerOf(len(numbers), size) {
			var list []int
			for range size {
				list = append(list, numbers[picked%len(numbers)])
				picked /= len(numbers)
			}
			wantSet(t, impl.SetOf(list), locksWith(func(i int) bool { return slices.Contains(list, i) }), fmt.Sprint("SetOf ", list))
		}
	}
}

// How long a list is has no limit, and its last number counts as its first does.
func TestSetOfLongLists(t *testing.T) {
	list := slices.Repeat([]int{3, -1, 99}, 50000)
	if got := impl.SetOf(list); got != 8 {
		t.Errorf("SetOf a long list is %d", got)
	}
	if got := impl.SetOf(append(list, 0)); got != 9 {
		t.Errorf("SetOf a longer list is %d", got)
	}
}

func TestInSetOfAnyNumber(t *testing.T) {
	for set := range impl.Full + 1 {
		if first, last := impl.InSet(set, 0), impl.InSet(set, impl.MaxLocks-1); first != (set%2 == 1) || last != (set >= 32) {
			t.Errorf("in %d: 0 %v, %d %v", set, first, impl.MaxLocks-1, last)
		}
		for _, none := range noLocks() {
			if impl.InSet(set, none) {
				t.Errorf("%d is in %d", none, set)
			}
		}
	}
}

// Of each two sets: what is told of both is told number by number.
func TestEachTwoSets(t *testing.T) {
	for a := range impl.Full + 1 {
		for b := range impl.Full + 1 {
			inA, inB := func(i int) bool { return inByRule(a, i) }, func(i int) bool { return inByRule(b, i) }
			what := fmt.Sprintf(" of %d and %d", a, b)
			both := locksWith(func(i int) bool { return inA(i) && inB(i) })
			wantSet(t, impl.Both(a, b), both, "Both"+what)
			wantSet(t, impl.Either(a, b), locksWith(func(i int) bool { return inA(i) || inB(i) }), "Either"+what)
			wantSet(t, impl.Without(a, b), locksWith(func(i int) bool { return inA(i) && !inB(i) }), "Without"+what)
			if got := impl.Within(a, b); got != slices.Equal(both, locksWith(inA)) {
				t.Fatalf("Within%s is %v", what, got)
			}
		}
	}
}

func TestASetWithItselfAndWithTheEdges(t *testing.T) {
	for set := range impl.Full + 1 {
		if !impl.Within(set, set) || impl.Without(set, set) != 0 || impl.Both(set, set) != set || impl.Either(set, set) != set {
			t.Errorf("%d and itself", set)
		}
		if !impl.Within(0, set) || impl.Within(set, 0) != (set == 0) || impl.Without(set, 0) != set || impl.Without(0, set) != 0 {
			t.Errorf("%d and the empty set: within or without", set)
		}
		if impl.Both(0, set) != 0 || impl.Both(set, 0) != 0 || impl.Either(0, set) != set || impl.Either(set, 0) != set {
			t.Errorf("%d and the empty set: both or either", set)
		}
		if !impl.Within(set, impl.Full) || impl.Within(impl.Full, set) != (set == impl.Full) || impl.Without(set, impl.Full) != 0 || impl.Without(impl.Full, set) != impl.Full-set {
			t.Errorf("%d and Full: within or without", set)
		}
		if impl.Both(impl.Full, set) != set || impl.Both(set, impl.Full) != set || impl.Either(impl.Full, set) != impl.Full || impl.Either(set, impl.Full) != impl.Full {
			t.Errorf("%d and Full: both or either", set)
		}
	}
}

func TestNumbersThatAreNoSets(t *testing.T) {
	for _, none := range noSets() {
		if got := impl.ListOf(none); len(got) > 0 {
			t.Errorf("ListOf %d is %v", none, got)
		}
		for _, i := range append(noLocks(), 0, 1, 2, 3, 4, 5) {
			if impl.InSet(none, i) {
				t.Errorf("%d is in %d", i, none)
			}
		}
		for set := range impl.Full + 1 {
			wantNoSetOf(t, none, set)
			wantNoSetOf(t, set, none)
		}
		for _, other := range noSets() {
			wantNoSetOf(t, none, other)
		}
	}
}

// Full is the last set, and the next number none.
func TestTheFirstAndTheLastSet(t *testing.T) {
	for none := -200; none < 300; none++ {
		if is := none >= 0 && none <= 63; impl.Within(none, none) != is || impl.Within(0, none) != is || impl.Within(none, 63) != is {
			t.Errorf("whether %d is a set", none)
		}
		if is := none > 0 && none <= 63; len(impl.ListOf(none)) > 0 != is || impl.Both(none, 63) != 0 != is || impl.Either(none, 0) != 0 != is || impl.Without(none, 0) != 0 != is {
			t.Errorf("whether %d is a set with something in it", none)
		}
	}
}

func TestNamesOfAnOrdinaryCode(t *testing.T) {
	// Names stand in the order of the locks, and a name may be that of a global and of a procedure, too.
	k := codeOfText(t, "globals x, z; locks z, b, main, a; proc main { lock a; unlock a; }")
	for _, one := range []struct {
		set  int
		want []string
	}{
		{0, nil},
		{1, []string{"z"}},
		{2, []string{"b"}},
		{8, []string{"a"}},
		{9, []string{"z", "a"}},
		{14, []string{"b", "main", "a"}},
		{15, []string{"z", "b", "main", "a"}},
		// 4 and 5 are in the set, but the code has no such locks.
		{16, nil},
		{32, nil},
		{48, nil},
		{49, []string{"z"}},
		{40, []string{"a"}},
		{impl.Full, []string{"z", "b", "main", "a"}},
	} {
		if got := impl.NamesOf(k, one.set); !slices.Equal(got, one.want) {
			t.Errorf("NamesOf %d is %q; want %q", one.set, got, one.want)
		}
	}
	wantNamesByRule(t, k, "an ordinary code")
	wantNamesByRule(t, ordinaryCode(), "a code with each Op")
}

func TestNamesOfCodesWithAnyNumberOfLocks(t *testing.T) {
	falling := []string{"f", "e", "d", "c", "b", "a"}
	for many := range impl.MaxLocks + 1 {
		for _, names := range [][]string{namesOf("l", many), falling[:many]} {
			k := codeOfProcs([]impl.Ins{insSkip})
			k.Locks = names
			what := fmt.Sprintf("a code with the locks %q", names)
			wantNamesByRule(t, k, what)
			if got := impl.NamesOf(k, impl.Full); !slices.Equal(got, names) {
				t.Errorf("%s: NamesOf Full is %q", what, got)
			}
			if got := impl.NamesOf(k, 0); len(got) > 0 {
				t.Errorf("%s: NamesOf the empty set is %q", what, got)
			}
		}
	}
	k := codeOfProcs(nil)
	k.Locks = namesOf("l", impl.MaxLocks+1)
	wantNoNames(t, k, "a code with a lock too many")
}

func TestNoNamesOfWrongCodes(t *testing.T) {
	wantOfSpoiltCodes(t, anyFlowCode, wantNamesByRule, wantNoNames)
}

// What lies in the spare room behind a list, or behind the locks, is none of it, and nothing is written there.
func TestSetsWithSpareRoom(t *testing.T) {
	room := []int{4, 1, 0, 2, 99, 5}
	for size := range len(room) {
		wantSet(t, impl.SetOf(room[:size]), locksWith(func(i int) bool { return slices.Index(room[:size], i) >= 0 }), fmt.Sprint("SetOf ", room[:size]))
	}
	if !slices.Equal(room, []int{4, 1, 0, 2, 99, 5}) {
		t.Errorf("a list became %v", room)
	}
	k := codeOfProcs(nil)
	locks := []string{"d", "a", "c", "if", "d"}
	k.Locks = locks[:3]
	wantNamesByRule(t, k, "a code with spare room")
	if !slices.Equal(locks, []string{"d", "a", "c", "if", "d"}) {
		t.Errorf("the locks became %q", locks)
	}
}

// Each list is new: what is done to one is seen in no other, in no later answer, and not in the code.
func TestListsOfSetsShareNothing(t *testing.T) {
	var lists [][]int
	for set := range impl.Full + 1 {
		lists = append(lists, impl.ListOf(set), impl.ListOf(set))
	}
	wantApart(t, lists, "all sets")
	k := codeOfProcs(nil)
	locks := namesOf("l", impl.MaxLocks)
	for many := range len(locks) + 1 {
		k.Locks = locks[:many]
		for set := range impl.Full + 1 {
			wantSet(t, set, locksWith(func(i int) bool { return inByRule(set, i) }), "a set that was listed before")
			one, other := impl.NamesOf(k, set), impl.NamesOf(k, set)
			room := one[:cap(one)]
			for i := range room {
				room[i] = "overwritten"
			}
			if !slices.Equal(other, namesByRule(k, set)) || !slices.Equal(locks, namesOf("l", impl.MaxLocks)) {
				t.Fatalf("of %d locks NamesOf %d became %q, and the locks %q", many, set, other, locks)
			}
		}
	}
}
