package tests

import (
	"math"
	"math/big"
	"slices"
	"strconv"
	"strings"
	"testing"

	"loop.example/g00966/impl"
)

var pairKinds = []int{impl.TmAdd, impl.TmSub, impl.TmMul, impl.TmLess, impl.TmSame, impl.TmAnd}

var noKinds = []int{0, -1, -2, -9, 10, 11, 100, math.MinInt, math.MaxInt}

func num(n int) impl.Term {
	return impl.Term{Kind: impl.TmNum, Num: n}
}

func read(name string) impl.Term {
	return impl.Term{Kind: impl.TmVar, Name: name}
}

func not(kid impl.Term) impl.Term {
	return impl.Term{Kind: impl.TmNot, Kids: []impl.Term{kid}}
}

func pair(kind int, first impl.Term, second impl.Term) impl.Term {
	return impl.Term{Kind: kind, Kids: []impl.Term{first, second}}
}

func pairSign(kind int) string {
	return map[int]string{impl.TmAdd: "+", impl.TmSub: "-", impl.TmMul: "*", impl.TmLess: "<", impl.TmSame: "==", impl.TmAnd: "and"}[kind]
}

// What stands around, one within the other, as many as deep, and the leaf innermost.
func nested[T any](deep int, leaf T, around func(T) T) T {
	for range deep {
		leaf = around(leaf)
	}
	return leaf
}

// Ways to stand around a term: each kind with kids, and each place in it.
func aroundWays() []func(impl.Term) impl.Term {
	ways := []func(impl.Term) impl.Term{not}
	for _, kind := range pairKinds {
		ways = append(ways,
			func(t impl.Term) impl.Term { return pair(kind, t, num(3)) },
			func(t impl.Term) impl.Term { return pair(kind, read("y"), t) },
			func(t impl.Term) impl.Term { return pair(kind, t, t) })
	}
	return ways
}

// Terms of which each is wrong by one thing alone.
func wrongTerms() []impl.Term {
	wrong := []impl.Term{
		{}, {Num: 5}, {Name: "x"}, {Kids: []impl.Term{num(1)}},
		num(-1), num(impl.MaxNumber + 1), num(math.MinInt), num(math.MaxInt),
		{Kind: impl.TmNum, Name: "x"},
		{Kind: impl.TmNum, Num: 1, Name: "x"},
		{Kind: impl.TmNum, Kids: []impl.Term{num(1)}},
		{Kind: impl.TmNum, Num: 1, Kids: []impl.Term{num(1), num(2)}},
		{Kind: impl.TmNum, Kids: []impl.Term{{}}},
		{Kind: impl.TmVar},
		{Kind: impl.TmVar, Name: "x", Num: 1},
		{Kind: impl.TmVar, Name: "x", Num: -1},
		{Kind: impl.TmVar, Name: "x", Kids: []impl.Term{read("x")}},
		{Kind: impl.TmVar, Name: "x", Kids: []impl.Term{read("x"), read("x")}},
		read("1x"), read("X"), read("a b"), read("x "), read(" x"), read("abcdefghijklm"), read("é"), read("\x00"), read("+"), read("7"),
		pair(impl.TmNot, num(1), num(2)),
	}
	for _, word := range noNames {
		wrong = append(wrong, read(word))
	}
	for _, kind := range noKinds {
		wrong = append(wrong, impl.Term{Kind: kind}, impl.Term{Kind: kind, Num: 1}, impl.Term{Kind: kind, Name: "x"},
			impl.Term{Kind: kind, Kids: []impl.Term{num(1)}}, pair(kind, num(1), num(2)))
	}
	for _, kind := range append([]int{impl.TmNot}, pairKinds...) {
		for size := range 5 {
			kids := slices.Repeat([]impl.Term{read("x")}, size)
			if size == 1 && kind == impl.TmNot || size == 2 && kind != impl.TmNot {
				wrong = append(wrong,
					impl.Term{Kind: kind, Kids: kids, Num: 1},
					impl.Term{Kind: kind, Kids: kids, Num: -1},
					impl.Term{Kind: kind, Kids: kids, Name: "x"},
					impl.Term{Kind: kind, Kids: kids, Name: " "})
				continue
			}
			wrong = append(wrong, impl.Term{Kind: kind, Kids: kids})
		}
	}
	return wrong
}

func wantRight(t *testing.T, m impl.Term, text string, reads ...string) {
	t.Helper()
	if !impl.TermOk(m) {
		t.Errorf("%s is not right", text)
	}
	if got := impl.TermText(m); got != text {
		t.Errorf("TermText is %q; want %q", got, text)
	}
	if got := impl.ReadsOf(m); !slices.Equal(got, reads) {
		t.Errorf("ReadsOf %s is %q; want %q", text, got, reads)
	}
}

// Neither text nor number nor names are told of a term that is not right.
func wantWrong(t *testing.T, m impl.Term, what string) {
	t.Helper()
	if impl.TermOk(m) {
		t.Errorf("%s is right", what)
	}
	if got := impl.TermText(m); got != "" {
		t.Errorf("TermText of what is not right, %s, is %q", what, got)
	}
	if got := impl.Worked(m, []string{"x", "y"}, []int{7, 8}); got != 0 {
		t.Errorf("Worked of what is not right, %s, is %d", what, got)
	}
	if got := impl.ReadsOf(m); len(got) != 0 {
		t.Errorf("ReadsOf what is not right, %s, is %q", what, got)
	}
}

func wantWorked(t *testing.T, m impl.Term, names []string, values []int, want int) {
	t.Helper()
	if got := impl.Worked(m, names, values); got != want {
		t.Errorf("Worked of %s with %q as %d is %d; want %d", impl.TermText(m), names, values, got, want)
	}
}

func TestTermsConstants(t *testing.T) {
	kinds := []int{impl.TmNum, impl.TmVar, impl.TmAdd, impl.TmSub, impl.TmMul, impl.TmLess, impl.TmSame, impl.TmNot, impl.TmAnd}
	if !slices.Equal(kinds, []int{1, 2, 3, 4, 5, 6, 7, 8, 9}) || impl.MaxDeep != 6 {
		t.Error("a kind or a limit of chapter 3 is not the document's")
	}
}

func TestTermsThatAreRight(t *testing.T) {
	x, y := read("x"), read("y")
	wantRight(t, x, "x", "x")
	wantRight(t, read("abcdefghijkl"), "abcdefghijkl", "abcdefghijkl")
	wantRight(t, read("a1"), "a1", "a1")
	wantRight(t, not(x), "(not x)", "x")
	wantRight(t, not(not(num(0))), "(not (not 0))")
	wantRight(t, pair(impl.TmAdd, x, num(1)), "(x + 1)", "x")
	wantRight(t, pair(impl.TmSub, x, num(5)), "(x - 5)", "x")
	wantRight(t, pair(impl.TmMul, num(2), x), "(2 * x)", "x")
	wantRight(t, pair(impl.TmLess, x, y), "(x < y)", "x", "y")
	wantRight(t, pair(impl.TmSame, y, x), "(y == x)", "y", "x")
	wantRight(t, pair(impl.TmAnd, not(x), y), "((not x) and y)", "x", "y")
	wantRight(t, pair(impl.TmAnd, pair(impl.TmLess, num(0), x), not(pair(impl.TmSame, x, y))), "((0 < x) and (not (x == y)))", "x", "y")
}

func TestTermsOfNumbersAtTheirEnds(t *testing.T) {
	for _, n := range []int{0, 1, 7, 999, 1000, 999999999, impl.MaxNumber} {
		wantRight(t, num(n), strconv.Itoa(n))
		wantRight(t, pair(impl.TmMul, num(n), num(n)), "("+strconv.Itoa(n)+" * "+strconv.Itoa(n)+")")
	}
	for _, n := range []int{-1, -1000, impl.MaxNumber + 1, math.MinInt, math.MaxInt} {
		wantWrong(t, num(n), strconv.Itoa(n))
		wantWrong(t, pair(impl.TmMul, num(1), num(n)), "1 * "+strconv.Itoa(n))
	}
}

func TestTermsWithEmptyKidsAndNil(t *testing.T) {
	wantRight(t, impl.Term{Kind: impl.TmNum, Num: 3, Kids: []impl.Term{}}, "3")
	wantRight(t, impl.Term{Kind: impl.TmVar, Name: "x", Kids: []impl.Term{}}, "x", "x")
	wantRight(t, impl.Term{Kind: impl.TmNum, Num: 3, Kids: make([]impl.Term, 0, 4)}, "3")
	wantWrong(t, impl.Term{Kind: impl.TmNot, Kids: []impl.Term{}}, "not without a kid")
	wantWrong(t, impl.Term{Kind: impl.TmAnd, Kids: make([]impl.Term, 0, 2)}, "and without kids")
}

func TestTermsThatAreWrong(t *testing.T) {
	for i, wrong := range wrongTerms() {
		wantWrong(t, wrong, "wrong term "+strconv.Itoa(i))
	}
}

func TestTermsThatAreWrongWithin(t *testing.T) {
	for i, wrong := range wrongTerms() {
		for j, around := range aroundWays() {
			for _, deep := range []int{1, 2, 5} {
				wantWrong(t, nested(deep, wrong, around), "wrong term "+strconv.Itoa(i)+" within "+strconv.Itoa(deep)+" of way "+strconv.Itoa(j))
			}
		}
	}
}

func TestTermsAtTheMostDeep(t *testing.T) {
	for i, around := range aroundWays() {
		for _, leaf := range []impl.Term{num(1), read("x")} {
			most := nested(impl.MaxDeep, leaf, around)
			if !impl.TermOk(most) || impl.TermText(most) == "" {
				t.Errorf("way %d is not right %d deep", i, impl.MaxDeep)
			}
			wantWrong(t, around(most), "one too deep, way "+strconv.Itoa(i))
			wantWrong(t, nested(200, most, around), "far too deep, way "+strconv.Itoa(i))
		}
	}
	wantRight(t, nested(impl.MaxDeep, read("x"), not), "(not (not (not (not (not (not x))))))", "x")
}

func TestTermsWithOneSideThatIsDeep(t *testing.T) {
	most := nested(impl.MaxDeep-1, read("x"), not)
	for _, kind := range pairKinds {
		text := impl.TermText(most)
		wantRight(t, pair(kind, most, most), "("+text+" "+pairSign(kind)+" "+text+")", "x")
		wantRight(t, pair(kind, num(1), most), "(1 "+pairSign(kind)+" "+text+")", "x")
		wantRight(t, pair(kind, most, num(1)), "("+text+" "+pairSign(kind)+" 1)", "x")
		wantWrong(t, pair(kind, not(most), num(1)), "too deep on the first side")
		wantWrong(t, pair(kind, num(1), not(most)), "too deep on the second side")
	}
}

func TestWorkedOfNumbers(t *testing.T) {
	for n, want := range map[int]int{0: 0, 1: 1, 999: 999, 1000: 0, 1001: 1, 1999: 999, 123456789: 789, 999999999: 999, impl.MaxNumber: 0} {
		wantWorked(t, num(n), nil, nil, want)
	}
}

func TestWorkedOfValues(t *testing.T) {
	values := map[int]int{
		0: 0, 1: 1, 999: 999, 1000: 0, 1001: 1, -1: 999, -2: 998, -999: 1, -1000: 0, -1001: 999, -1999: 1, -2000: 0,
		impl.MaxNumber + 7: 7, math.MaxInt: 807, math.MinInt: 192, math.MinInt + 1: 193, math.MinInt32: 352}
	for n, want := range values {
		wantWorked(t, read("x"), []string{"x"}, []int{n}, want)
		wantWorked(t, pair(impl.TmAdd, read("x"), num(0)), []string{"x"}, []int{n}, want)
		wantWorked(t, pair(impl.TmMul, num(1), read("x")), []string{"x"}, []int{n}, want)
		wantWorked(t, pair(impl.TmSub, num(0), read("x")), []string{"x"}, []int{n}, (1000-want)%1000)
		wantWorked(t, not(read("x")), []string{"x"}, []int{n}, map[bool]int{true: 1}[want == 0])
	}
}

func TestWorkedAtNames(t *testing.T) {
	x := read("x")
	wantWorked(t, x, []string{"x", "x"}, []int{3, 4}, 3)
	wantWorked(t, x, []string{"y", "x", "x", "x"}, []int{9, 3, 4, 5}, 3)
	wantWorked(t, x, []string{"x", "x"}, []int{0, 4}, 0)
	wantWorked(t, x, nil, nil, 0)
	wantWorked(t, x, []string{}, []int{}, 0)
	wantWorked(t, x, nil, []int{5}, 0)
	wantWorked(t, x, []string{"x"}, nil, 0)
	wantWorked(t, x, []string{"y"}, []int{5}, 0)
	wantWorked(t, x, []string{"y", "xx", "X", "x "}, []int{5, 6, 7, 8}, 0)
	wantWorked(t, x, []string{"y", "x"}, []int{5}, 0)
	wantWorked(t, x, []string{"y", "x", "x"}, []int{5}, 0)
	wantWorked(t, x, []string{"y", "x"}, []int{5, 6, 7}, 6)
	wantWorked(t, x, []string{"x"}, []int{5, 6, 7}, 5)
	wantWorked(t, x, []string{"", "if", "%", "x"}, []int{1, 2, 3, 4}, 4)
	spare := []int{5, 6, 7}
	wantWorked(t, x, []string{"y", "x"}, spare[:1], 0)
	wantWorked(t, not(x), []string{"y", "x"}, []int{5}, 1)
	wantWorked(t, pair(impl.TmAdd, x, read("y")), []string{"y", "x"}, []int{5}, 5)
}

func TestWorkedOfSumsAndProducts(t *testing.T) {
	for _, row := range [][5]int{
		{0, 0, 0, 0, 0}, {2, 5, 7, 997, 10}, {5, 2, 7, 3, 10}, {0, 1, 1, 999, 0}, {999, 1, 0, 998, 999}, {999, 999, 998, 0, 1},
		{500, 500, 0, 0, 0}, {0, 999, 999, 1, 0}, {31, 33, 64, 998, 23}, {1000, 1, 1, 999, 0}, {1000000000, 999999999, 999, 1, 0},
		{999999999, 999999999, 998, 0, 1}, {123456, 654321, 777, 135, 376},
	} {
		a, b := num(row[0]), num(row[1])
		wantWorked(t, pair(impl.TmAdd, a, b), nil, nil, row[2])
		wantWorked(t, pair(impl.TmSub, a, b), nil, nil, row[3])
		wantWorked(t, pair(impl.TmMul, a, b), nil, nil, row[4])
	}
}

func TestWorkedOfGreatValues(t *testing.T) {
	names := []string{"x", "y"}
	for _, row := range [][5]int{
		{math.MaxInt, math.MaxInt, 614, 0, 249}, {math.MinInt, math.MinInt, 384, 0, 864}, {math.MaxInt, math.MinInt, 999, 615, 944},
		{math.MinInt, math.MaxInt, 999, 385, 944}, {math.MinInt, 1, 193, 191, 192}, {math.MinInt, -1, 191, 193, 808},
		{-1, -1, 998, 0, 1}, {-3, 4, 1, 993, 988}, {4, -3, 1, 7, 988}, {-999, -999, 2, 0, 1}, {math.MaxInt, 1, 808, 806, 807},
	} {
		values := []int{row[0], row[1]}
		wantWorked(t, pair(impl.TmAdd, read("x"), read("y")), names, values, row[2])
		wantWorked(t, pair(impl.TmSub, read("x"), read("y")), names, values, row[3])
		wantWorked(t, pair(impl.TmMul, read("x"), read("y")), names, values, row[4])
	}
	most := nested(impl.MaxDeep, read("x"), func(m impl.Term) impl.Term { return pair(impl.TmMul, m, m) })
	wantWorked(t, most, []string{"x"}, []int{999}, 1)
	wantWorked(t, most, []string{"x"}, []int{3}, 281)
	wantWorked(t, most, []string{"x"}, []int{-2}, 616)
}

func TestWorkedOfWhatHolds(t *testing.T) {
	x, y := read("x"), read("y")
	names := []string{"x", "y"}
	for _, row := range [][5]int{
		{0, 0, 0, 1, 0}, {0, 1, 1, 0, 0}, {1, 0, 0, 0, 0}, {1, 1, 0, 1, 1}, {2, 3, 1, 0, 1}, {3, 2, 0, 0, 1}, {998, 999, 1, 0, 1},
		// What is below 0, or not below 1000, is held against the other as what it comes to.
		{-1, 1, 0, 0, 1}, {1, -1, 1, 0, 1}, {-1, 999, 0, 1, 1}, {999, 1000, 0, 0, 0}, {1000, 999, 1, 0, 0}, {1000, 0, 0, 1, 0},
		{-1000, 2000, 0, 1, 0}, {1000, 1, 1, 0, 0}, {math.MinInt, math.MaxInt, 1, 0, 1}, {math.MaxInt, math.MaxInt, 0, 1, 1}, {192, math.MinInt, 0, 1, 1},
	} {
		values := []int{row[0], row[1]}
		wantWorked(t, pair(impl.TmLess, x, y), names, values, row[2])
		wantWorked(t, pair(impl.TmSame, x, y), names, values, row[3])
		wantWorked(t, pair(impl.TmAnd, x, y), names, values, row[4])
	}
	for n, want := range map[int]int{0: 1, 1: 0, 2: 0, 999: 0, 1000: 1, -1: 0, -1000: 1, 1001: 0, math.MinInt: 0, impl.MaxNumber: 1} {
		wantWorked(t, not(x), names, []int{n, 5}, want)
		wantWorked(t, not(not(x)), names, []int{n, 5}, 1-want)
	}
}

func TestWorkedOfTermsWithin(t *testing.T) {
	x, y := read("x"), read("y")
	names := []string{"x", "y"}
	wantWorked(t, pair(impl.TmLess, pair(impl.TmSub, x, y), num(500)), names, []int{2, 3}, 0)
	wantWorked(t, pair(impl.TmMul, pair(impl.TmSub, x, y), pair(impl.TmSub, x, y)), names, []int{2, 5}, 9)
	wantWorked(t, pair(impl.TmSub, x, pair(impl.TmSub, x, y)), names, []int{2, 5}, 5)
	wantWorked(t, pair(impl.TmSub, pair(impl.TmSub, x, x), y), names, []int{2, 5}, 995)
	wantWorked(t, pair(impl.TmAnd, not(pair(impl.TmSame, x, y)), pair(impl.TmLess, x, y)), names, []int{2, 5}, 1)
	wantWorked(t, pair(impl.TmAdd, pair(impl.TmMul, x, num(10)), pair(impl.TmLess, y, x)), names, []int{7, 5}, 71)
	wantWorked(t, pair(impl.TmSame, pair(impl.TmAdd, x, num(1000)), x), names, []int{2, 5}, 1)
}

func TestReadsOfInOrderEachOnce(t *testing.T) {
	x, y, z := read("x"), read("y"), read("z")
	wantRight(t, pair(impl.TmAdd, x, x), "(x + x)", "x")
	wantRight(t, pair(impl.TmAdd, pair(impl.TmMul, z, y), pair(impl.TmSub, y, x)), "((z * y) + (y - x))", "z", "y", "x")
	wantRight(t, pair(impl.TmAdd, num(1), pair(impl.TmSub, y, pair(impl.TmAnd, x, not(y)))), "(1 + (y - (x and (not y))))", "y", "x")
	wantRight(t, pair(impl.TmLess, pair(impl.TmSame, x, y), z), "((x == y) < z)", "x", "y", "z")
	wantRight(t, pair(impl.TmLess, num(1), num(1)), "(1 < 1)")
	var names []string
	for i := range 1 << impl.MaxDeep {
		names = append(names, "n"+strconv.Itoa(i))
	}
	many := treeOf(names)
	if got := impl.ReadsOf(many); !slices.Equal(got, names) {
		t.Errorf("ReadsOf a full tree is %q", got)
	}
	if impl.TermOk(pair(impl.TmAdd, many, num(1))) {
		t.Error("a full tree and one more above it is right")
	}
}

// A full tree whose leaves read the names, of which there are as many as a power of two.
func treeOf(names []string) impl.Term {
	if len(names) == 1 {
		return read(names[0])
	}
	half := len(names) / 2
	return pair(impl.TmAdd, treeOf(names[:half]), treeOf(names[half:]))
}

func TestReadsOfIsNewEachTime(t *testing.T) {
	m := pair(impl.TmAdd, read("x"), read("y"))
	first := impl.ReadsOf(m)
	first[0] = "z"
	_ = append(first[:1], "w")
	wantRight(t, m, "(x + y)", "x", "y")
}

func wantSame(t *testing.T, a impl.Term, b impl.Term, want bool) {
	t.Helper()
	if impl.SameTerm(a, b) != want || impl.SameTerm(b, a) != want {
		t.Errorf("SameTerm(%v, %v) is %v, the other way round %v; want %v", a, b, impl.SameTerm(a, b), impl.SameTerm(b, a), want)
	}
}

func TestSameTermPartByPart(t *testing.T) {
	terms := append(wrongTerms(), num(0), num(1), num(999), num(1000), read("x"), read("y"), not(read("x")), not(read("y")), not(not(read("x"))), not(num(0)))
	for _, kind := range pairKinds {
		terms = append(terms, pair(kind, num(1), num(2)), pair(kind, num(2), num(1)), pair(kind, read("x"), read("y")), pair(kind, read("y"), read("x")),
			pair(kind, pair(kind, num(1), num(2)), num(3)), pair(kind, num(1), pair(kind, num(2), num(3))))
	}
	for i, a := range terms {
		for j, b := range terms {
			if i == j {
				wantSame(t, a, copyOf(b), true)
				continue
			}
			want := sameByText(a, b)
			wantSame(t, a, b, want)
			for _, around := range aroundWays()[:3] {
				wantSame(t, around(a), around(b), want)
			}
		}
	}
}

func copyOf(m impl.Term) impl.Term {
	kids := make([]impl.Term, 0, len(m.Kids)+3)
	for _, kid := range m.Kids {
		kids = append(kids, copyOf(kid))
	}
	m.Name = strings.Clone(m.Name)
	m.Kids = kids
	return m
}

// A writing of all that is in a term, right or not.
func allOf(m impl.Term) string {
	all := strconv.Itoa(m.Kind) + "/" + strconv.Itoa(m.Num) + "/" + strconv.Quote(m.Name) + "["
	for _, kid := range m.Kids {
		all += allOf(kid) + ","
	}
	return all + "]"
}

func sameByText(a impl.Term, b impl.Term) bool {
	return allOf(a) == allOf(b)
}

func TestSameTermOfEachPart(t *testing.T) {
	base := impl.Term{Kind: 3, Num: 4, Name: "n", Kids: []impl.Term{num(1), read("x")}}
	wantSame(t, base, copyOf(base), true)
	wantSame(t, base, impl.Term{Kind: 4, Num: 4, Name: "n", Kids: base.Kids}, false)
	wantSame(t, base, impl.Term{Kind: 3, Num: 5, Name: "n", Kids: base.Kids}, false)
	wantSame(t, base, impl.Term{Kind: 3, Num: 4, Name: "m", Kids: base.Kids}, false)
	wantSame(t, base, impl.Term{Kind: 3, Num: 4, Name: "n"}, false)
	wantSame(t, base, impl.Term{Kind: 3, Num: 4, Name: "n", Kids: base.Kids[:1]}, false)
	wantSame(t, base, impl.Term{Kind: 3, Num: 4, Name: "n", Kids: []impl.Term{read("x"), num(1)}}, false)
	wantSame(t, base, impl.Term{Kind: 3, Num: 4, Name: "n", Kids: []impl.Term{num(1), read("x"), {}}}, false)
	wantSame(t, base, impl.Term{Kind: 3, Num: 4, Name: "n", Kids: []impl.Term{num(1), read("y")}}, false)
	wantSame(t, base, impl.Term{Kind: 3, Num: 4, Name: "n", Kids: []impl.Term{num(2), read("x")}}, false)
}

func TestSameTermOfEmptyListsAndNil(t *testing.T) {
	for _, m := range []impl.Term{{}, num(1), read("x"), {Kind: -7, Num: -3, Name: "%"}, {Kind: impl.TmAnd}} {
		empty, spare := m, m
		empty.Kids = []impl.Term{}
		spare.Kids = []impl.Term{read("x"), read("y")}[:0]
		wantSame(t, m, empty, true)
		wantSame(t, m, spare, true)
		wantSame(t, not(m), not(empty), true)
		wantSame(t, pair(impl.TmAdd, m, spare), pair(impl.TmAdd, empty, m), true)
		wantSame(t, m, impl.Term{Kind: m.Kind, Num: m.Num, Name: m.Name, Kids: []impl.Term{{}}}, false)
	}
}

func TestSameTermOfWideAndDeepTerms(t *testing.T) {
	wide := impl.Term{Kind: 50, Kids: slices.Repeat([]impl.Term{num(1)}, 20000)}
	other := copyOf(wide)
	wantSame := func(a impl.Term, b impl.Term, want bool) {
		t.Helper()
		if impl.SameTerm(a, b) != want || impl.SameTerm(b, a) != want {
			t.Errorf("SameTerm of great terms is not %v", want)
		}
	}
	wantSame(wide, other, true)
	other.Kids[19999] = num(2)
	wantSame(wide, other, false)
	deep, same := nested(100000, num(1), not), nested(100000, num(1), not)
	wantSame(deep, same, true)
	wantSame(deep, nested(100000, num(2), not), false)
	wantSame(deep, not(same), false)
	double := func(m impl.Term) impl.Term { return pair(impl.TmAdd, m, m) }
	wantSame(nested(60, num(1), double), nested(60, num(1), double), true)
	wantSame(nested(60, num(1), double), nested(60, num(2), double), false)
}

// A term that stands within itself, around times kinds with two kids; the first of each is a number.
func knotted(kind int, around int, n int) impl.Term {
	kids := make([]impl.Term, 2)
	last := pair(kind, num(n), impl.Term{})
	last.Kids = kids
	m := nested(around-1, last, func(m impl.Term) impl.Term { return pair(kind, num(n), m) })
	kids[0], kids[1] = num(n), m
	return m
}

func TestTermsThatStandWithinThemselves(t *testing.T) {
	for _, kind := range []int{impl.TmAdd, impl.TmAnd, impl.TmNot, 0} {
		wantWrong(t, knotted(kind, 1, 1), "a term within itself")
		wantWrong(t, not(knotted(kind, 3, 1)), "a term within itself")
	}
	for _, sizes := range [][2]int{{1, 1}, {1, 2}, {2, 3}, {7, 5}} {
		a, b := knotted(impl.TmAdd, sizes[0], 1), knotted(impl.TmAdd, sizes[1], 1)
		if !impl.SameTerm(a, b) || !impl.SameTerm(b, a) || !impl.SameTerm(a, a) {
			t.Errorf("terms within themselves, %v around, are not the same", sizes)
		}
		if impl.SameTerm(a, knotted(impl.TmAdd, sizes[1], 2)) || impl.SameTerm(a, knotted(impl.TmSub, sizes[1], 1)) || impl.SameTerm(a, pair(impl.TmAdd, num(1), num(1))) {
			t.Errorf("other terms within themselves, %v around, are the same", sizes)
		}
	}
}

// A term within itself looks for long like one that ends, or that is another somewhere behind.
func TestTermsThatStandWithinThemselvesAndOthers(t *testing.T) {
	around := func(m impl.Term) impl.Term { return pair(impl.TmAdd, num(1), m) }
	for _, size := range []int{1, 2, 5} {
		a := knotted(impl.TmAdd, size, 1)
		for _, deep := range []int{1, 2, 3, 10, 50} {
			if b := nested(deep, num(1), around); impl.SameTerm(a, b) || impl.SameTerm(b, a) {
				t.Errorf("a term within itself, %d around, is the same as one that is %d deep", size, deep)
			}
			if b := nested(deep, a, around); !impl.SameTerm(a, b) || !impl.SameTerm(b, a) {
				t.Errorf("a term within itself, %d around, is not the same as what is %d around it", size, deep)
			}
			if b := nested(deep, knotted(impl.TmAdd, 3, 2), around); impl.SameTerm(a, b) || impl.SameTerm(b, a) {
				t.Errorf("a term within itself, %d around, is the same as another one behind %d", size, deep)
			}
		}
	}
}

func TestSameTermOfKidsThatShareMemory(t *testing.T) {
	a, b := []impl.Term{num(1), num(2)}, []impl.Term{num(1), num(3)}
	for _, sizes := range [][2]int{{1, 2}, {2, 1}} {
		within := func(kids []impl.Term) impl.Term {
			return pair(0, impl.Term{Kids: kids[:sizes[0]]}, impl.Term{Kids: kids[:sizes[1]]})
		}
		wantSame(t, within(a), within(b), false)
		wantSame(t, within(a), within(slices.Clone(a)), true)
		wantSame(t, within(a), within(a), true)
	}
}

// A right term, no deeper than deep, picked by a number that is multiplied on; what it reads is among the names.
func termBy(seed *int, deep int, names []string) impl.Term {
	next := func(below int) int {
		*seed = (*seed*1103 + 12345) % 1000003
		return *seed % below
	}
	pick := next(9) + 1
	if deep == 0 || pick <= impl.TmVar {
		if next(3) == 0 {
			return num([]int{0, 1, 2, 999, 1000, 1001, 123456789, impl.MaxNumber}[next(8)])
		}
		return read(names[next(len(names))])
	}
	if pick == impl.TmNot {
		return not(termBy(seed, deep-1, names))
	}
	return pair(pick, termBy(seed, deep-1, names), termBy(seed, deep-1, names))
}

// What a term comes to, told by numbers without an end, whose remainder is never below 0.
func bigWorked(m impl.Term, value func(string) int) *big.Int {
	below := func(n *big.Int) *big.Int { return n.Mod(n, big.NewInt(1000)) }
	one := func(holds bool) *big.Int { return big.NewInt(int64(map[bool]int{true: 1}[holds])) }
	var kids []*big.Int
	for _, kid := range m.Kids {
		kids = append(kids, bigWorked(kid, value))
	}
	switch m.Kind {
	case impl.TmNum:
		return below(big.NewInt(int64(m.Num)))
	case impl.TmVar:
		return below(big.NewInt(int64(value(m.Name))))
	case impl.TmAdd:
		return below(new(big.Int).Add(kids[0], kids[1]))
	case impl.TmSub:
		return below(new(big.Int).Sub(kids[0], kids[1]))
	case impl.TmMul:
		return below(new(big.Int).Mul(kids[0], kids[1]))
	case impl.TmLess:
		return one(kids[0].Cmp(kids[1]) < 0)
	case impl.TmSame:
		return one(kids[0].Cmp(kids[1]) == 0)
	case impl.TmNot:
		return one(kids[0].Sign() == 0)
	}
	return one(kids[0].Sign() != 0 && kids[1].Sign() != 0)
}

func valuesBy(seed int, size int) []int {
	pool := []int{0, 1, -1, 2, -2, 999, -999, 1000, -1000, 1001, 123456, -123456, math.MaxInt, math.MinInt, math.MinInt + 1, impl.MaxNumber}
	values := make([]int, size)
	for i := range values {
		seed = (seed*7919 + 104729) % 1000003
		values[i] = pool[seed%len(pool)]
	}
	return values
}

func TestWorkedAsNumbersWithoutAnEnd(t *testing.T) {
	names := []string{"a", "b", "c", "d"}
	for i := range 3000 {
		seed := i
		m := termBy(&seed, i%(impl.MaxDeep+1), names)
		values := valuesBy(i, len(names))
		want := bigWorked(m, func(name string) int { return values[slices.Index(names, name)] })
		wantWorked(t, m, names, values, int(want.Int64()))
	}
}

func TestWhatATermComesToHangsOnWhatItReadsAlone(t *testing.T) {
	names := []string{"a", "b", "c", "d", "e"}
	for i := range 2000 {
		seed := i
		m := termBy(&seed, i%(impl.MaxDeep+1), names)
		values := valuesBy(i, len(names))
		want := impl.Worked(m, names, values)
		if want < 0 || want > 999 {
			t.Fatalf("%s comes to %d", impl.TermText(m), want)
		}
		reads := impl.ReadsOf(m)
		others := valuesBy(i+77, len(names))
		var readNames []string
		var readValues []int
		for at, name := range names {
			if slices.Contains(reads, name) {
				others[at] = values[at]
				readNames = append([]string{name}, readNames...)
				readValues = append([]int{values[at]}, readValues...)
			}
		}
		wantWorked(t, m, names, others, want)
		wantWorked(t, m, readNames, readValues, want)
		wantWorked(t, m, append(slices.Clone(readNames), names...), append(slices.Clone(readValues), others...), want)
		wantWorked(t, m, append([]string{"z", ""}, names...), append([]int{5, 6}, values...), want)
		wantWorked(t, copyOf(m), names, values, want)
	}
}

// Each name that is told to be read is, and no other stands in the text.
func TestReadsOfAreTheNamesInTheText(t *testing.T) {
	for i := range 1000 {
		seed := i
		m := termBy(&seed, i%(impl.MaxDeep+1), []string{"a", "b2", "cc", "nota", "and1"})
		signs, f := impl.Lex(impl.TermText(m))
		if f != (impl.Fault{}) || !impl.TermOk(m) {
			t.Fatalf("the text %q has fault %v", impl.TermText(m), f)
		}
		var want []string
		for _, sign := range signs {
			if sign.Kind == impl.SgName && impl.IsName(sign.Text) && !slices.Contains(want, sign.Text) {
				want = append(want, sign.Text)
			}
		}
		wantRight(t, m, impl.TermText(m), want...)
	}
}

func TestTermsAreNotWrittenInto(t *testing.T) {
	names, values := []string{"x", "y", "z"}, []int{-1, -2000, 3}
	spareNames, spareValues := names[:2], values[:2]
	for i := range 200 {
		seed := i
		m := termBy(&seed, impl.MaxDeep, spareNames)
		before := copyOf(m)
		impl.TermOk(m)
		impl.TermText(m)
		impl.Worked(m, spareNames, spareValues)
		_ = append(impl.ReadsOf(m), "w")
		impl.SameTerm(m, before)
		if !sameByText(m, before) {
			t.Fatalf("%s was changed", impl.TermText(before))
		}
	}
	if !slices.Equal(names, []string{"x", "y", "z"}) || !slices.Equal(values, []int{-1, -2000, 3}) {
		t.Errorf("names or values were changed: %q, %d", names, values)
	}
}
