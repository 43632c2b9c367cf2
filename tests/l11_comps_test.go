package tests

import (
	"fmt"
	"math"
	"slices"
	"testing"

	"loop.example/g00966/impl"
)

// The most arcs of a graph that is right.
const mostArcs = 2000

// Arcs, each of two numbers: from where, and to where.
func arcsOf(ends ...int) []impl.Arc {
	var arcs []impl.Arc
	for i := 0; i < len(ends); i += 2 {
		arcs = append(arcs, impl.Arc{From: ends[i], To: ends[i+1]})
	}
	return arcs
}

// An arc from each node to the next one, and from the last one to the first.
func ringOf(n int) []impl.Arc {
	var arcs []impl.Arc
	for node := range n {
		arcs = append(arcs, impl.Arc{From: node, To: (node + 1) % n})
	}
	return arcs
}

// An arc from each node to each, also to itself.
func allArcs(n int) []impl.Arc {
	var arcs []impl.Arc
	for from := range n {
		for to := range n {
			arcs = append(arcs, impl.Arc{From: from, To: to})
		}
	}
	return arcs
}

func turnedArcs(arcs []impl.Arc) []impl.Arc {
	var turned []impl.Arc
	for _, arc := range arcs {
		turned = append(turned, impl.Arc{From: arc.To, To: arc.From})
	}
	return turned
}

// As many arcs as told: these, again and again.
func repeatedArcs(arcs []impl.Arc, many int) []impl.Arc {
	return slices.Repeat(arcs, many/len(arcs)+1)[:many:many]
}

func rowOfNodes(n int) []int {
	nodes := make([]int, n)
	for node := range nodes {
		nodes[node] = node
	}
	return nodes
}

// Each node of a row as a part of its own.
func partsOfOne(nodes []int) [][]int {
	var parts [][]int
	for _, node := range nodes {
		parts = append(parts, []int{node})
	}
	return parts
}

func graphText(n int, arcs []impl.Arc) string {
	return fmt.Sprintf("%d nodes, %d arcs %.400s", n, len(arcs), fmt.Sprint(arcs))
}

// To which nodes each one leads, step by step.
func reachByRule(n int, arcs []impl.Arc) [][]bool {
	next, reach := make([][]int, n), make([][]bool, n)
	for _, arc := range arcs {
		next[arc.From] = append(next[arc.From], arc.To)
	}
	for node := range reach {
		reach[node] = make([]bool, n)
		for _, to := range reachBySteps(next, node) {
			reach[node][to] = true
		}
	}
	return reach
}

// What is wrong with these parts of a graph, whose ways are told; empty when nothing is.
func wrongInParts(comps [][]int, reach [][]bool) string {
	place := make([]int, len(reach))
	for node := range place {
		place[node] = -1
	}
	for i, part := range comps {
		if len(part) == 0 {
			return "an empty part"
		}
		for j, node := range part {
			if node < 0 || node >= len(reach) || place[node] >= 0 || j > 0 && part[j-1] >= node {
				return fmt.Sprint("where it stands ", node)
			}
			place[node] = i
		}
	}
	for a := range reach {
		for b := range reach {
			if together := a == b || reach[a][b] && reach[b][a]; place[a] < 0 || (place[a] == place[b]) != together {
				return fmt.Sprint("the parts of ", a, " and ", b)
			}
			if reach[a][b] && place[a] < place[b] {
				return fmt.Sprint("the order of ", a, " and ", b)
			}
		}
	}
	return wrongInOrder(comps, reach, place)
}

// A part that stands behind one with a greater least node, though it might stand there; empty without one.
func wrongInOrder(comps [][]int, reach [][]bool, place []int) string {
	for i, part := range comps {
		last := -1
		for to, leads := range reach[part[0]] {
			if leads && place[to] != i {
				last = max(last, place[to])
			}
		}
		for earlier := last + 1; earlier < i; earlier++ {
			if comps[earlier][0] > part[0] {
				return fmt.Sprint("the part of ", part[0], " behind that of ", comps[earlier][0])
			}
		}
	}
	return ""
}

// That the parts of a graph that is right are as the rule says, and CompAt, Cyclic and GraphOk with them.
func wantGraphByRule(t *testing.T, n int, arcs []impl.Arc) [][]int {
	t.Helper()
	if !impl.GraphOk(n, arcs) {
		t.Fatalf("not right: %s", graphText(n, arcs))
	}
	comps, reach := impl.CompsOf(n, arcs), reachByRule(n, arcs)
	if wrong := wrongInParts(comps, reach); wrong != "" {
		t.Fatalf("%s: got %v; wrong is %s", graphText(n, arcs), comps, wrong)
	}
	for i, part := range comps {
		cyclic := false
		for _, node := range part {
			cyclic = cyclic || reach[node][node]
			if got := impl.CompAt(comps, node); got != i {
				t.Fatalf("CompAt %v of %d is %d; want %d", comps, node, got, i)
			}
		}
		if got := impl.Cyclic(n, arcs, part); got != cyclic {
			t.Fatalf("Cyclic %s of %v is %v", graphText(n, arcs), part, got)
		}
	}
	for _, node := range nonesOf(n) {
		if got := impl.CompAt(comps, node); got != -1 {
			t.Fatalf("CompAt %v of %d is %d; want -1", comps, node, got)
		}
	}
	return comps
}

// That Reaches tells of each two nodes what going on step by step tells.
func wantReachesByRule(t *testing.T, n int, arcs []impl.Arc) {
	t.Helper()
	for from, row := range reachByRule(n, arcs) {
		for to, want := range row {
			if got := impl.Reaches(n, arcs, from, to); got != want {
				t.Fatalf("Reaches %s from %d to %d is %v", graphText(n, arcs), from, to, got)
			}
		}
	}
}

func wantComps(t *testing.T, n int, arcs []impl.Arc, want ...[]int) {
	t.Helper()
	got := wantGraphByRule(t, n, arcs)
	if !slices.EqualFunc(got, want, slices.Equal[[]int]) {
		t.Errorf("%s: got %v; want %v", graphText(n, arcs), got, want)
	}
	wantReachesByRule(t, n, arcs)
}

func wantCyclic(t *testing.T, n int, arcs []impl.Arc, part []int, want bool) {
	t.Helper()
	if got := impl.Cyclic(n, arcs, part); got != want {
		t.Errorf("Cyclic %s of %v is %v", graphText(n, arcs), part, got)
	}
}

// That nothing is told of a graph that is not right, whatever is asked of it.
func wantNoGraph(t *testing.T, n int, arcs []impl.Arc) {
	t.Helper()
	comps := impl.CompsOf(n, arcs)
	if impl.GraphOk(n, arcs) || len(comps) > 0 {
		t.Errorf("GraphOk %s is %v, and CompsOf %v", graphText(n, arcs), impl.GraphOk(n, arcs), comps)
	}
	nodes := []int{-2, -1, 0, 1, 2, impl.MaxNodes - 1, impl.MaxNodes, impl.MaxNodes + 1, n - 1, n, math.MinInt, math.MaxInt}
	wantCyclic(t, n, arcs, nodes, false)
	wantCyclic(t, n, arcs, nil, false)
	for _, from := range nodes {
		wantCyclic(t, n, arcs, []int{from}, false)
		for _, to := range nodes {
			if impl.Reaches(n, arcs, from, to) {
				t.Errorf("Reaches %s from %d to %d", graphText(n, arcs), from, to)
			}
		}
	}
}

func TestCompsConstants(t *testing.T) {
	if impl.MaxNodes != 60 {
		t.Errorf("MaxNodes is %d", impl.MaxNodes)
	}
}

func TestCompsOfOrdinaryGraphs(t *testing.T) {
	wantComps(t, 3, arcsOf(0, 1, 1, 0, 1, 2), []int{2}, []int{0, 1})
	wantComps(t, 2, arcsOf(0, 1), []int{1}, []int{0})
	wantComps(t, 2, arcsOf(1, 0), []int{0}, []int{1})
	wantComps(t, 2, arcsOf(0, 1, 1, 0), []int{0, 1})
	wantComps(t, 4, arcsOf(0, 1, 1, 2, 2, 3), []int{3}, []int{2}, []int{1}, []int{0})
	wantComps(t, 4, arcsOf(3, 2, 2, 1, 1, 0), []int{0}, []int{1}, []int{2}, []int{3})
	wantComps(t, 4, arcsOf(0, 1, 0, 2, 1, 3, 2, 3), []int{3}, []int{1}, []int{2}, []int{0})
	// Two rounds with one node, and two with an arc between.
	wantComps(t, 5, arcsOf(0, 2, 2, 0, 2, 4, 4, 2, 1, 3), []int{0, 2, 4}, []int{3}, []int{1})
	wantComps(t, 6, arcsOf(0, 5, 5, 0, 1, 4, 4, 1, 0, 4, 2, 3, 3, 2, 4, 3), []int{2, 3}, []int{1, 4}, []int{0, 5})
	wantComps(t, 6, arcsOf(0, 5, 5, 0, 1, 4, 4, 1, 4, 0, 2, 3, 3, 2, 3, 1), []int{0, 5}, []int{1, 4}, []int{2, 3})
	// A way back over many closes a round.
	wantComps(t, 7, arcsOf(0, 1, 1, 2, 2, 3, 3, 4, 4, 5, 5, 6, 5, 1), []int{6}, []int{1, 2, 3, 4, 5}, []int{0})
}

func TestReachesOfAnOrdinaryGraph(t *testing.T) {
	arcs := arcsOf(0, 1, 1, 2, 2, 1, 2, 3, 4, 4)
	for from, ends := range [][]int{{1, 2, 3}, {1, 2, 3}, {1, 2, 3}, nil, {4}, nil} {
		for to := range 6 {
			if got := impl.Reaches(6, arcs, from, to); got != slices.Contains(ends, to) {
				t.Errorf("Reaches from %d to %d is %v", from, to, got)
			}
		}
	}
}

func TestGraphsWithoutArcs(t *testing.T) {
	wantComps(t, 0, nil)
	wantComps(t, 0, []impl.Arc{})
	for _, n := range []int{1, 2, 3, 12, impl.MaxNodes} {
		wantComps(t, n, nil, partsOfOne(rowOfNodes(n))...)
		wantComps(t, n, []impl.Arc{}, partsOfOne(rowOfNodes(n))...)
		wantCyclic(t, n, nil, rowOfNodes(n), false)
	}
}

// Only with an arc to itself does a node that is a part of its own lead to itself.
func TestArcsFromANodeToItself(t *testing.T) {
	for _, n := range []int{1, 2, 5, impl.MaxNodes} {
		for _, node := range []int{0, n / 2, n - 1} {
			arcs := arcsOf(node, node)
			wantComps(t, n, arcs, partsOfOne(rowOfNodes(n))...)
			for other := range n {
				wantCyclic(t, n, arcs, []int{other}, other == node)
				wantCyclic(t, n, nil, []int{other}, false)
			}
		}
	}
	wantComps(t, 3, arcsOf(1, 1, 0, 1), []int{1}, []int{0}, []int{2})
	wantComps(t, 3, arcsOf(0, 0, 1, 1, 2, 2, 0, 2), []int{1}, []int{2}, []int{0})
	wantComps(t, 2, arcsOf(0, 1, 1, 0, 1, 1), []int{0, 1})
	if impl.Reaches(3, arcsOf(1, 1, 0, 1), 0, 0) || !impl.Reaches(3, arcsOf(1, 1, 0, 1), 1, 1) {
		t.Error("a node reaches itself without a way, or not with one")
	}
}

// An arc that is told again, and the order in which arcs are told, change nothing.
func TestArcsThatAreToldTwice(t *testing.T) {
	wantComps(t, 2, arcsOf(0, 1, 0, 1), []int{1}, []int{0})
	wantComps(t, 1, arcsOf(0, 0, 0, 0), []int{0})
	wantComps(t, 4, arcsOf(0, 3, 1, 2, 2, 1, 0, 3, 1, 2), []int{1, 2}, []int{3}, []int{0})
	for seed := range 300 {
		at := seed
		n, arcs := anyGraph(&at, 9)
		want := impl.CompsOf(n, arcs)
		turned := slices.Clone(arcs)
		slices.Reverse(turned)
		wantComps(t, n, turned, want...)
		wantComps(t, n, slices.Concat(arcs, turned, arcs), want...)
	}
}

// A way of one arc or more is wanted from a node to itself, too.
func TestReachesOfANodeToItself(t *testing.T) {
	for _, one := range []struct {
		arcs []impl.Arc
		want []bool
	}{
		{nil, []bool{false, false, false}},
		{arcsOf(0, 1, 1, 2), []bool{false, false, false}},
		{arcsOf(0, 1, 1, 2, 2, 0), []bool{true, true, true}},
		{arcsOf(0, 1, 1, 0, 1, 2), []bool{true, true, false}},
		{arcsOf(2, 2), []bool{false, false, true}},
		{arcsOf(2, 0, 0, 2, 2, 1), []bool{true, false, true}},
	} {
		for node, want := range one.want {
			if got := impl.Reaches(3, one.arcs, node, node); got != want {
				t.Errorf("Reaches %v from %d to itself is %v", one.arcs, node, got)
			}
			wantCyclic(t, 3, one.arcs, []int{node}, want)
		}
	}
}

// Of parts that may stand next the one with the least node comes first, also when it has become free only later.
func TestTheOrderOfParts(t *testing.T) {
	// The least node of the graph is not free at first.
	wantComps(t, 4, arcsOf(0, 3), []int{1}, []int{2}, []int{3}, []int{0})
	wantComps(t, 5, arcsOf(0, 3), []int{1}, []int{2}, []int{3}, []int{0}, []int{4})
	wantComps(t, 5, arcsOf(0, 1), []int{1}, []int{0}, []int{2}, []int{3}, []int{4})
	wantComps(t, 5, arcsOf(1, 3, 0, 4), []int{2}, []int{3}, []int{1}, []int{4}, []int{0})
	wantComps(t, 5, arcsOf(0, 4, 1, 3), []int{2}, []int{3}, []int{1}, []int{4}, []int{0})
	wantComps(t, 6, arcsOf(0, 2, 2, 4, 1, 5), []int{3}, []int{4}, []int{2}, []int{0}, []int{5}, []int{1})
	// Nobody leads to 1, but it may stand ahead of all but what it leads to.
	wantComps(t, 6, arcsOf(0, 5, 1, 2, 3, 4), []int{2}, []int{1}, []int{4}, []int{3}, []int{5}, []int{0})
	// Free only when the last of those it leads to is placed.
	wantComps(t, 6, arcsOf(0, 1, 0, 2, 0, 4), []int{1}, []int{2}, []int{3}, []int{4}, []int{0}, []int{5})
	// It is the least node of a part that counts, neither the greatest one nor one to which an arc leads.
	wantComps(t, 6, arcsOf(0, 5, 5, 0, 2, 3, 3, 2), []int{0, 5}, []int{1}, []int{2, 3}, []int{4})
	wantComps(t, 6, arcsOf(1, 5, 5, 1, 2, 3, 3, 2, 0, 5), []int{1, 5}, []int{0}, []int{2, 3}, []int{4})
	wantComps(t, 6, arcsOf(1, 5, 5, 1, 2, 3, 3, 2, 0, 2), []int{1, 5}, []int{2, 3}, []int{0}, []int{4})
	wantComps(t, 6, arcsOf(0, 5, 5, 0, 5, 2, 2, 4, 4, 2), []int{1}, []int{2, 4}, []int{0, 5}, []int{3})
	// Ways over parts that stand between count as well.
	wantComps(t, 6, arcsOf(0, 4, 4, 3, 3, 5), []int{1}, []int{2}, []int{5}, []int{3}, []int{4}, []int{0})
}

func TestOneRingOfAllNodes(t *testing.T) {
	for _, n := range []int{1, 2, 3, 31, impl.MaxNodes - 1, impl.MaxNodes} {
		ring := ringOf(n)
		for _, arcs := range [][]impl.Arc{ring, turnedArcs(ring)} {
			wantComps(t, n, arcs, rowOfNodes(n))
			wantCyclic(t, n, arcs, []int{n - 1}, true)
			for i := range arcs {
				if n > 1 {
					cut := slices.Concat(arcs[:i], arcs[i+1:])
					wantCyclic(t, n, cut, rowOfNodes(n), false)
					if got := len(wantGraphByRule(t, n, cut)); got != n {
						t.Errorf("a ring of %d without one arc has %d parts", n, got)
					}
				}
			}
		}
	}
	for _, n := range []int{1, 2, 3, 44} {
		wantComps(t, n, allArcs(n), rowOfNodes(n))
	}
}

func TestTheMostNodes(t *testing.T) {
	for _, n := range []int{-1, -60, math.MinInt, impl.MaxNodes + 1, impl.MaxNodes + 2, math.MaxInt} {
		wantNoGraph(t, n, nil)
		wantNoGraph(t, n, arcsOf(0, 0))
		wantNoGraph(t, n, ringOf(3))
	}
	for _, n := range []int{0, 1, impl.MaxNodes - 1, impl.MaxNodes} {
		wantComps(t, n, nil, partsOfOne(rowOfNodes(n))...)
	}
	last := impl.MaxNodes - 1
	between := rowOfNodes(impl.MaxNodes)[1:last]
	wantComps(t, impl.MaxNodes, arcsOf(0, last, last, 0), append([][]int{{0, last}}, partsOfOne(between)...)...)
	wantComps(t, impl.MaxNodes, arcsOf(0, last), append(partsOfOne(between), []int{last}, []int{0})...)
	wantNoGraph(t, impl.MaxNodes, arcsOf(0, impl.MaxNodes))
	wantNoGraph(t, 0, arcsOf(0, 0))
}

func TestTheMostArcs(t *testing.T) {
	for _, n := range []int{1, 2, 45, impl.MaxNodes} {
		for _, arcs := range [][]impl.Arc{allArcs(n), ringOf(n), arcsOf(0, n-1)} {
			full := repeatedArcs(arcs, mostArcs)
			if !impl.GraphOk(n, full) {
				t.Errorf("%d arcs are not right", len(full))
			}
			wantGraphByRule(t, n, full)
			wantNoGraph(t, n, repeatedArcs(arcs, mostArcs+1))
			wantNoGraph(t, n, repeatedArcs(arcs, 3*mostArcs))
		}
	}
	// The last one of as many arcs counts, too.
	full := append(repeatedArcs(arcsOf(0, 1), mostArcs-1), arcsOf(1, 0)...)
	wantComps(t, 3, full, []int{0, 1}, []int{2})
	full[mostArcs-1] = impl.Arc{From: 1, To: 3}
	wantNoGraph(t, 3, full)
}

func TestWhereArcsLead(t *testing.T) {
	for _, n := range []int{1, 2, 3, 30, impl.MaxNodes - 1, impl.MaxNodes} {
		for _, right := range []int{0, n / 2, n - 1} {
			for _, other := range []int{0, n - 1} {
				wantGraphByRule(t, n, arcsOf(right, other))
				wantGraphByRule(t, n, arcsOf(other, right, 0, n-1))
			}
			for _, none := range nonesOf(n) {
				wantNoGraph(t, n, arcsOf(right, none))
				wantNoGraph(t, n, arcsOf(none, right))
				wantNoGraph(t, n, arcsOf(none, none))
				wantNoGraph(t, n, append(ringOf(n), arcsOf(right, none)...))
				wantNoGraph(t, n, append(arcsOf(none, right), ringOf(n)...))
			}
		}
	}
}

func TestReachesOfWhatIsNoNode(t *testing.T) {
	for _, n := range []int{0, 1, 5, impl.MaxNodes} {
		for _, arcs := range [][]impl.Arc{nil, ringOf(n), allArcs(min(n, 40))} {
			for _, none := range nonesOf(n) {
				for node := range n {
					if impl.Reaches(n, arcs, none, node) || impl.Reaches(n, arcs, node, none) {
						t.Errorf("Reaches %s from %d to %d, or back", graphText(n, arcs), none, node)
					}
				}
				for _, other := range nonesOf(n) {
					if impl.Reaches(n, arcs, none, other) {
						t.Errorf("Reaches %s from %d to %d", graphText(n, arcs), none, other)
					}
				}
			}
		}
	}
}

func TestCompAt(t *testing.T) {
	for _, one := range []struct {
		comps [][]int
		node  int
		want  int
	}{
		{[][]int{{2}, {0, 1}}, 2, 0},
		{[][]int{{2}, {0, 1}}, 0, 1},
		{[][]int{{2}, {0, 1}}, 1, 1},
		{[][]int{{2}, {0, 1}}, 3, -1},
		{[][]int{{2}, {0, 1}}, -1, -1},
		{[][]int{{2}, {0, 1}}, math.MinInt, -1},
		{[][]int{{2}, {0, 1}}, math.MaxInt, -1},
		// In two parts: the first one counts, wherever in it the node stands.
		{[][]int{{4}, {1, 3}, {3}, {3, 4}}, 3, 1},
		{[][]int{{4}, {1, 3}, {3}, {3, 4}}, 4, 0},
		{[][]int{{5, 5}, {5}}, 5, 0},
		{[][]int{{}, nil, {7, 6}, {6}}, 6, 2},
		{[][]int{{}, nil}, 0, -1},
		{[][]int{}, 0, -1},
		{nil, 0, -1},
		{nil, -1, -1},
		{[][]int{{99, 60}}, 60, 0},
	} {
		if got := impl.CompAt(one.comps, one.node); got != one.want {
			t.Errorf("CompAt %v of %d is %d; want %d", one.comps, one.node, got, one.want)
		}
	}
}

func TestCyclicOfAnyNodes(t *testing.T) {
	// 0 and 1 lead to each other, 3 to itself, 2 and 4 come back to nothing.
	arcs := arcsOf(0, 1, 1, 0, 1, 2, 3, 3, 4, 3)
	for _, one := range []struct {
		part []int
		want bool
	}{
		{nil, false},
		{[]int{}, false},
		{[]int{0, 1}, true},
		{[]int{0}, true},
		{[]int{2}, false},
		{[]int{3}, true},
		{[]int{4}, false},
		{[]int{2, 4}, false},
		{[]int{2, 2, 4, 4}, false},
		{[]int{4, 2, 1}, true},
		{[]int{3, 2, 4}, true},
		{[]int{0, 1, 2, 3, 4}, true},
		// What is no node leads nowhere, and keeps no other one from counting.
		{[]int{-1}, false},
		{[]int{5}, false},
		{[]int{math.MinInt, 5, -1, 60, 61, math.MaxInt}, false},
		{[]int{2, -1, 5}, false},
		{[]int{-1, 0}, true},
		{[]int{math.MaxInt, 5, math.MinInt, 2, 3}, true},
		{[]int{1, 5}, true},
	} {
		wantCyclic(t, 5, arcs, one.part, one.want)
	}
	wantCyclic(t, 0, nil, nil, false)
	wantCyclic(t, 0, nil, []int{0, -1, 1}, false)
	wantCyclic(t, impl.MaxNodes, ringOf(impl.MaxNodes), nonesOf(impl.MaxNodes), false)
	wantCyclic(t, impl.MaxNodes, ringOf(impl.MaxNodes), append(nonesOf(impl.MaxNodes), impl.MaxNodes-1), true)
	wantCyclic(t, impl.MaxNodes, nil, rowOfNodes(impl.MaxNodes), false)
}

// All graphs of so many nodes.
func TestAllSmallGraphs(t *testing.T) {
	for n := range 5 {
		all := allArcs(n)
		for picked := range 1 << len(all) {
			var arcs []impl.Arc
			for i, arc := range all {
				if picked>>i&1 == 1 {
					arcs = append(arcs, arc)
				}
			}
			wantGraphByRule(t, n, arcs)
			if n < 4 || picked%7 == 0 {
				wantReachesByRule(t, n, arcs)
			}
		}
	}
}

// A graph that is right of at most so many nodes, picked by a number that is multiplied on; some with few arcs, some with many.
func anyGraph(seed *int, most int) (int, []impl.Arc) {
	next := func(below int) int {
		*seed = (*seed*1103 + 12345) % 1000003
		return *seed / 7 % below
	}
	n := 1 + next(most)
	arcs := make([]impl.Arc, next(n*(1+next(3))+1))
	for i := range arcs {
		arcs[i] = impl.Arc{From: next(n), To: next(n)}
	}
	return n, arcs
}

func TestGraphsByTheirRule(t *testing.T) {
	alone, several, cyclic, late := 0, 0, 0, 0
	for seed := range 6000 {
		at := seed
		n, arcs := anyGraph(&at, 14)
		comps := wantGraphByRule(t, n, arcs)
		wantReachesByRule(t, n, arcs)
		for i, part := range comps {
			if len(part) > 1 {
				several++
			} else if alone++; impl.Cyclic(n, arcs, part) {
				cyclic++
			}
			if i > 0 && comps[i-1][0] > part[0] {
				late++
			}
		}
	}
	if alone < 3000 || several < 1000 || cyclic < 1000 || late < 3000 {
		t.Errorf("only %d parts of one node, %d of several, %d that lead to themselves alone and %d that became free late were met", alone, several, cyclic, late)
	}
}

func TestLargeGraphsByTheirRule(t *testing.T) {
	for seed := range 400 {
		at := seed
		n, arcs := anyGraph(&at, impl.MaxNodes)
		wantGraphByRule(t, n, arcs)
		if seed%40 == 0 {
			wantReachesByRule(t, n, arcs)
		}
	}
}

// Promise 11: two nodes are in one part just when each leads to the other, as Reaches tells it (a node is with itself at any rate).
func TestTwoNodesAreTogetherWhenEachLeadsToTheOther(t *testing.T) {
	for seed := range 1500 {
		at := seed
		n, arcs := anyGraph(&at, 10)
		comps := impl.CompsOf(n, arcs)
		for a := range n {
			for b := range n {
				there, back := impl.Reaches(n, arcs, a, b), impl.Reaches(n, arcs, b, a)
				placeA, placeB := impl.CompAt(comps, a), impl.CompAt(comps, b)
				if placeA < 0 || (placeA == placeB) != (a == b || there && back) {
					t.Fatalf("%d and %d of %s are at %d and %d of %v", a, b, graphText(n, arcs), placeA, placeB, comps)
				}
				if there && placeA < placeB {
					t.Fatalf("%d leads to %d, and stands ahead of it in %v of %s", a, b, comps, graphText(n, arcs))
				}
			}
			if impl.Reaches(n, arcs, a, a) && !impl.Cyclic(n, arcs, comps[impl.CompAt(comps, a)]) {
				t.Fatalf("%d leads to itself in %s, and its part does not", a, graphText(n, arcs))
			}
		}
	}
}

func TestGraphsThatAreNotRight(t *testing.T) {
	right, wrong := 0, 0
	for seed := range 3000 {
		at := seed
		n, arcs := anyGraph(&at, 8)
		if len(arcs) == 0 {
			continue
		}
		one := &arcs[at%len(arcs)]
		to := []int{-1, n, n - 1, 0, -at - 1, n + at, impl.MaxNodes}[at/3%7]
		if at%2 == 0 {
			one.From = to
		} else {
			one.To = to
		}
		if to >= 0 && to < n {
			right++
			wantGraphByRule(t, n, arcs)
			continue
		}
		wrong++
		wantNoGraph(t, n, arcs)
	}
	if right < 300 || wrong < 1000 {
		t.Errorf("only %d graphs that are right and %d that are not were met", right, wrong)
	}
}

// What lies in the spare room behind the arcs, or behind a part, is none of it, and nothing is written there.
func TestGraphsWithSpareRoom(t *testing.T) {
	for seed := range 300 {
		at := seed
		n, arcs := anyGraph(&at, 12)
		full := slices.Concat(arcs, arcsOf(n, -1, 0, 0, n-1, 0, 0, n-1))
		whole, cut := fmt.Sprint(full), full[:len(arcs)]
		want := impl.CompsOf(n, slices.Clip(slices.Clone(arcs)))
		wantComps(t, n, cut, want...)
		room := []int{n - 1, 0, n - 1}
		wantCyclic(t, n, ringOf(n), room[:0], false)
		if fmt.Sprint(full) != whole || !slices.Equal(room, []int{n - 1, 0, n - 1}) {
			t.Fatalf("%s became %v, or a part %v", whole, full, room)
		}
	}
}

// Each part is new: what is done to one is seen in no other, in no later answer, and not in the arcs.
func TestPartsShareNothing(t *testing.T) {
	for seed := range 300 {
		at := seed
		n, arcs := anyGraph(&at, 20)
		whole := fmt.Sprint(arcs)
		lists := slices.Concat(impl.CompsOf(n, arcs), impl.CompsOf(n, arcs))
		parts := fmt.Sprint(lists[:len(lists)/2])
		wantApart(t, lists, whole)
		again := impl.CompsOf(n, arcs)
		if fmt.Sprint(arcs) != whole || fmt.Sprint(again) != parts {
			t.Fatalf("%s was changed, or its parts: %v", whole, again)
		}
	}
}

// CompAt and Cyclic write nothing into the parts that they are handed.
func TestPartsAreNotWrittenInto(t *testing.T) {
	comps := [][]int{{3, 1}, {}, {0, -1, 99}}
	whole := fmt.Sprint(comps)
	for node := -2; node < 5; node++ {
		impl.CompAt(comps, node)
	}
	for _, part := range comps {
		impl.Cyclic(4, ringOf(4), part)
	}
	if got := fmt.Sprint(comps); got != whole {
		t.Errorf("%s became %s", whole, got)
	}
}
