package tests

import (
	"slices"
	"sync"
	"testing"

	"loop.example/graphpieces/impl"
)

// Some more graphs by name: all pairs between two nodes and three, and a ring of three with
// an edge at one of its nodes.
var (
	twoThree = []int{28, 28, 3, 3, 3}
	pan4     = []int{6, 5, 11, 4}
)

// tables are the functions that return the table by the three roads.
var tables = []struct {
	name string
	rows func(g []int) ([][]int, bool)
}{
	{"TutteSets", impl.TutteSets},
	{"TutteEdges", impl.TutteEdges},
	{"TutteTrees", impl.TutteTrees},
}

// partsIn returns for each of n nodes the least node to which edges of a set lead from it.
func partsIn(n int, set int) []int {
	part := make([]int, n)
	for v := range part {
		part[v] = v
	}
	for range n {
		for place, pair := range pairOrder[:pairCount(n)] {
			if set>>place&1 == 1 {
				first := min(part[pair[0]], part[pair[1]])
				part[pair[0]], part[pair[1]] = first, first
			}
		}
	}
	return part
}

// rankByWords returns the number of nodes less that of parts.
func rankByWords(n int, set int) int {
	parts := map[int]bool{}
	for _, part := range partsIn(n, set) {
		parts[part] = true
	}
	return n - len(parts)
}

// edgeSets returns all sets of edges of a graph.
func edgeSets(g []int) []int {
	var all []int
	code := codeOf(g)
	for set := range code + 1 {
		if set&^code == 0 {
			all = append(all, set)
		}
	}
	return all
}

// sizeOf returns the number of pairs in a set of edges.
func sizeOf(set int) int {
	return len(nodesOf(set, len(pairOrder)))
}

// minusOne returns what x to the power of a is multiplied with in x - 1 to the power of k.
func minusOne(k int, a int) int {
	if (k-a)%2 == 1 {
		return -choices(k, a)
	}
	return choices(k, a)
}

// emptyTable returns the rows of a graph's table with 0 everywhere.
func emptyTable(g []int) [][]int {
	code := codeOf(g)
	rank := rankByWords(len(g), code)
	rows := make([][]int, rank+1)
	for i := range rows {
		rows[i] = make([]int, sizeOf(code)-rank+1)
	}
	return rows
}

// tableBySets multiplies out what each set of edges adds to the table.
func tableBySets(g []int) [][]int {
	rows := emptyTable(g)
	rank := len(rows) - 1
	for _, set := range edgeSets(g) {
		less := rank - rankByWords(len(g), set)
		more := sizeOf(set) - rankByWords(len(g), set)
		for i := range less + 1 {
			for j := range more + 1 {
				rows[i][j] += minusOne(less, i) * minusOne(more, j)
			}
		}
	}
	return rows
}

// tablesBySets has tableBySets for the graphs of n nodes with the codes 0, 1 and so on.
var tablesBySets = sync.OnceValue(func() [6][][][]int {
	var all [6][][][]int
	eachGraph(5, func(g []int, _ int) {
		all[len(g)] = append(all[len(g)], tableBySets(g))
	})
	return all
})

// tableOf returns the table of a graph.
func tableOf(g []int) [][]int {
	return tablesBySets()[len(g)][codeOf(g)]
}

// valueOf returns the sum of all numbers of a table times powers of x and y.
func valueOf(rows [][]int, x int, y int) int {
	sum, powerX := 0, 1
	for _, row := range rows {
		powerY := 1
		for _, number := range row {
			sum += number * powerX * powerY
			powerY *= y
		}
		powerX *= x
	}
	return sum
}

// absolute returns a number without its sign.
func absolute(number int) int {
	if number < 0 {
		return -number
	}
	return number
}

// needed returns the number of edges without which the rank is less.
func needed(g []int) int {
	count, code := 0, codeOf(g)
	for place := range pairCount(len(g)) {
		if rankByWords(len(g), code&^(1<<place)) < rankByWords(len(g), code) {
			count++
		}
	}
	return count
}

// hasTable checks that a result is a table.
func hasTable(t *testing.T, what string, g []int, got [][]int, ok bool, want [][]int) {
	t.Helper()
	if !ok || !slices.EqualFunc(got, want, slices.Equal) {
		t.Fatalf("%s of %v: %v, %v; it has to be %v", what, g, got, ok, want)
	}
}

// mustTable returns a table that a function has to return with true.
func mustTable(t *testing.T) func(rows [][]int, ok bool) [][]int {
	t.Helper()
	return func(rows [][]int, ok bool) [][]int {
		t.Helper()
		if !ok {
			t.Fatal("a function failed for valid arguments")
		}
		return rows
	}
}

// failsTutte checks that all functions of the chapter fail for a list, whatever else is told.
func failsTutte(t *testing.T, g []int, sets []int) {
	t.Helper()
	for _, f := range tables {
		if rows, ok := f.rows(g); ok || len(rows) != 0 {
			t.Errorf("%s of %v: %v, %v; it has to fail", f.name, g, rows, ok)
		}
	}
	for _, set := range sets {
		rank, ok := impl.TutteRank(g, set)
		failsNumber(t, "TutteRank", []any{g, set}, rank, ok)
		failsActive(t, g, set)
	}
	for k := -2; k <= 7; k++ {
		value, ok := impl.TutteAt(g, k, 7-k)
		failsNumber(t, "TutteAt", []any{g, k}, value, ok)
		value, ok = impl.TutteAt(g, k, 0)
		failsNumber(t, "TutteAt", []any{g, k}, value, ok)
		count, ok := impl.TutteColours(g, k)
		failsNumber(t, "TutteColours", []any{g, k}, count, ok)
		count, ok = impl.TutteFlows(g, k)
		failsNumber(t, "TutteFlows", []any{g, k}, count, ok)
	}
}

// failsActive checks that TutteActive says that a set is no forest.
func failsActive(t *testing.T, g []int, set int) {
	t.Helper()
	if within, beyond, ok := impl.TutteActive(g, set); ok || within != 0 || beyond != 0 {
		t.Errorf("TutteActive of %v and %d: %d, %d, %v; it has to fail", g, set, within, beyond, ok)
	}
}

// Promises 55 to 65: graphs of six nodes have no table, and lists that are none neither.
func TestPromises55To65SixNodes(t *testing.T) {
	for _, code := range leastOnes(6) {
		failsTutte(t, drawn(6, code), []int{0, 1, code, code &^ 1, codeCount(6) - 1, -1})
		failsTutte(t, renamed(drawn(6, code), backwards(6)), []int{0, 1, 31})
	}
}

func TestPromises55To65InvalidGraphs(t *testing.T) {
	for _, g := range noGraphs() {
		failsTutte(t, g, []int{0, 1, 2, 3, 7, 1023, -1, most, least})
	}
}

// Graphs of one node, and all without edges, have the number 1 alone, and one forest.
func TestPromises55To65NoEdges(t *testing.T) {
	for n := 1; n <= 5; n++ {
		g := drawn(n, 0)
		for _, f := range tables {
			rows, ok := f.rows(g)
			hasTable(t, f.name, g, rows, ok, [][]int{{1}})
		}
		rank, ok := impl.TutteRank(g, 0)
		hasNumber(t, "TutteRank", g, rank, ok, 0)
		wantActive(t, g, 0, 0, 0)
		failsActive(t, g, 1)
		for x := -5; x <= 5; x++ {
			value, ok := impl.TutteAt(g, x, -x)
			hasNumber(t, "TutteAt", []any{g, x, -x}, value, ok, 1)
		}
		for k := 2; k <= 4; k++ {
			count, ok := impl.TutteFlows(g, k)
			hasNumber(t, "TutteFlows", []any{g, k}, count, ok, 1)
		}
	}
}

// Promise 55: ranks of all sets of edges, and with one edge more.
func TestPromise55RanksOfAllSets(t *testing.T) {
	eachGraph(5, func(g []int, code int) {
		all := mustNumber(t)(impl.TutteRank(g, code))
		for _, set := range edgeSets(g) {
			rank, ok := impl.TutteRank(g, set)
			hasNumber(t, "TutteRank", []any{g, set}, rank, ok, rankByWords(len(g), set))
			if rank > sizeOf(set) || rank > len(g)-1 || rank > all {
				t.Fatalf("TutteRank of %v and %d: %d", g, set, rank)
			}
			for _, place := range nodesOf(code&^set, len(pairOrder)) {
				more := mustNumber(t)(impl.TutteRank(g, set|1<<place))
				if more != rank && more != rank+1 {
					t.Fatalf("TutteRank of %v and %d: %d, with the pair %d %d", g, set, rank, place, more)
				}
			}
		}
	})
}

func TestPromise55KnownRanks(t *testing.T) {
	for _, k := range []struct {
		g         []int
		set, rank int
	}{
		{one, 0, 0}, {edge2, 0, 0}, {edge2, 1, 1}, {way3, 5, 2}, {way3, 1, 1}, {ring3, 7, 2}, {ring3, 6, 2}, {ring3, 0, 0}, {edgeAlone, 1, 1}, {edges22, 33, 2}, {edges22, 32, 1},
		{full4, 63, 3}, {full4, 7, 2}, {full4, 11, 3}, {full4, 33, 2}, {full5, 1023, 4}, {full5, 63, 3}, {full5, 519, 3}, {full5, 0, 0}, {full5, 512, 1},
		{ring3edge, 519, 3}, {ring3edge, 7, 2}, {ring3edge, 515, 3}, {ring3edge, 512, 1}, {ring4, 45, 3}, {ring4, 44, 3}, {ring4, 12, 2}, {bowtie, 807, 4}, {bowtie, 291, 4}, {bowtie, 39, 3}, {bowtie, 800, 2},
	} {
		rank, ok := impl.TutteRank(k.g, k.set)
		hasNumber(t, "TutteRank", []any{k.g, k.set}, rank, ok, k.rank)
	}
}

// noEdgeSets returns numbers that are no sets of edges of a graph: some below 0, some with
// pairs that are no edges, and some with places of no pairs.
func noEdgeSets(g []int) []int {
	n, code := len(g), codeOf(g)
	sets := []int{-1, -2, least, least + code, -codeCount(n), ^code, most, codeCount(n), codeCount(n) | code, 1 << 15, 1 << 15 << n, 1 << 62, code | 1<<62, 1 << 32, code | 1<<32}
	for set := range 2 * codeCount(n) {
		if set&^code != 0 {
			sets = append(sets, set)
		}
	}
	return sets
}

func TestPromise55NoSetsOfEdges(t *testing.T) {
	for _, g := range ones(5) {
		for _, set := range noEdgeSets(g) {
			rank, ok := impl.TutteRank(g, set)
			failsNumber(t, "TutteRank", []any{g, set}, rank, ok)
		}
	}
}

// Promise 56: the ranks of a set and of all other edges.
func TestPromise56OtherEdges(t *testing.T) {
	eachGraph(5, func(g []int, code int) {
		all := mustNumber(t)(impl.TutteRank(g, code))
		for _, set := range edgeSets(g) {
			rank := mustNumber(t)(impl.TutteRank(g, set))
			other := mustNumber(t)(impl.TutteRank(g, code&^set))
			if rank+other < all {
				t.Fatalf("TutteRank of %v: %d for %d, %d for the others, %d for all", g, rank, set, other, all)
			}
		}
	})
}

// joinedEnds returns the ends of edges when two nodes are made one.
func joinedEnds(edges [][2]int, a int, b int) [][2]int {
	joined := slices.Clone(edges)
	for i := range joined {
		for end := range joined[i] {
			if joined[i][end] == a {
				joined[i][end] = b
			}
		}
	}
	return joined
}

// linkedBy reports whether edges lead from one node to another one.
func linkedBy(edges [][2]int, a int, b int) bool {
	if a == b || len(edges) == 0 {
		return a == b
	}
	all := append([][2]int{{a, b}}, edges[1:]...)
	joined := joinedEnds(all, edges[0][0], edges[0][1])
	return linkedBy(joined[1:], joined[0][0], joined[0][1])
}

// addByEdges adds to a table x to the power of i and y to the power of j times the table of
// some edges, taking the last one of them as the document tells.
func addByEdges(rows [][]int, edges [][2]int, i int, j int) {
	if len(edges) == 0 {
		rows[i][j]++
		return
	}
	last := len(edges) - 1
	a, b, rest := edges[last][0], edges[last][1], edges[:last]
	switch {
	case a == b:
		addByEdges(rows, rest, i, j+1)
	case !linkedBy(rest, a, b):
		addByEdges(rows, joinedEnds(rest, a, b), i+1, j)
	default:
		addByEdges(rows, rest, i, j)
		addByEdges(rows, joinedEnds(rest, a, b), i, j)
	}
}

// Promises 57 and 58: the same table by all three roads.
func TestPromises57And58OneTable(t *testing.T) {
	eachGraph(5, func(g []int, _ int) {
		for _, f := range tables {
			rows, ok := f.rows(g)
			hasTable(t, f.name, g, rows, ok, tableOf(g))
			for _, row := range rows {
				if slices.Min(row) < 0 {
					t.Fatalf("%s of %v: %v", f.name, g, rows)
				}
			}
		}
	})
}

func TestPromise57EdgeByEdge(t *testing.T) {
	eachGraph(5, func(g []int, code int) {
		var edges [][2]int
		for _, place := range nodesOf(code, pairCount(len(g))) {
			edges = append(edges, pairOrder[place])
		}
		want := emptyTable(g)
		addByEdges(want, edges, 0, 0)
		rows, ok := impl.TutteEdges(g)
		hasTable(t, "TutteEdges", g, rows, ok, want)
	})
}

func TestPromises57And58KnownTables(t *testing.T) {
	for _, k := range []struct {
		g    []int
		rows [][]int
	}{
		{edge2, [][]int{{0}, {1}}}, {edgeAlone, [][]int{{0}, {1}}}, {way3, [][]int{{0}, {0}, {1}}}, {way4, [][]int{{0}, {0}, {0}, {1}}}, {star5, [][]int{{0}, {0}, {0}, {0}, {1}}},
		{edges22, [][]int{{0}, {0}, {1}}}, {edgeTwo, [][]int{{0}, {1}}}, {ring3, [][]int{{0, 1}, {1, 0}, {1, 0}}}, {ring4, [][]int{{0, 1}, {1, 0}, {1, 0}, {1, 0}}},
		{ring5, [][]int{{0, 1}, {1, 0}, {1, 0}, {1, 0}, {1, 0}}}, {pan4, [][]int{{0, 0}, {0, 1}, {1, 0}, {1, 0}}}, {ring3edge, [][]int{{0, 0}, {0, 1}, {1, 0}, {1, 0}}},
		{kite, [][]int{{0, 1, 1}, {1, 2, 0}, {2, 0, 0}, {1, 0, 0}}}, {bowtie, [][]int{{0, 0, 1}, {0, 2, 0}, {1, 2, 0}, {2, 0, 0}, {1, 0, 0}}},
		{twoThree, [][]int{{0, 1, 1}, {1, 3, 0}, {3, 0, 0}, {2, 0, 0}, {1, 0, 0}}}, {full4, [][]int{{0, 2, 3, 1}, {2, 4, 0, 0}, {3, 0, 0, 0}, {1, 0, 0, 0}}},
		{full5, [][]int{{0, 6, 15, 15, 10, 4, 1}, {6, 20, 15, 5, 0, 0, 0}, {11, 10, 0, 0, 0, 0, 0}, {6, 0, 0, 0, 0, 0, 0}, {1, 0, 0, 0, 0, 0, 0}}},
	} {
		for _, f := range tables {
			rows, ok := f.rows(k.g)
			hasTable(t, f.name, k.g, rows, ok, k.rows)
		}
	}
}

// As many rows as the rank and 1, and in each one as many numbers as other edges and 1,
// also where all of them are 0.
func TestPromises57And58RowsAndNumbers(t *testing.T) {
	eachGraph(5, func(g []int, code int) {
		rank := mustNumber(t)(impl.TutteRank(g, code))
		for _, f := range tables {
			rows := mustTable(t)(f.rows(g))
			if len(rows) != rank+1 {
				t.Fatalf("%s of %v has %d rows", f.name, g, len(rows))
			}
			for _, row := range rows {
				if len(row) != edgesOf(g)-rank+1 {
					t.Fatalf("%s of %v has a row of %d numbers", f.name, g, len(row))
				}
			}
		}
	})
}

// Promise 59: the table is that of the graph with the least code, and counts trees.
func TestPromise59LeastCodesAndTrees(t *testing.T) {
	eachGraph(5, func(g []int, _ int) {
		rows := mustTable(t)(impl.TutteTrees(g))
		one := must(t)(impl.GraphOf(len(g), mustNumber(t)(impl.AlikeLeast(g))))
		again, ok := impl.TutteTrees(one)
		hasTable(t, "TutteTrees", one, again, ok, rows)
		if impl.GraphLinked(g) {
			trees, ok := impl.NumberTrees(g)
			hasNumber(t, "NumberTrees", g, trees, ok, valueOf(rows, 1, 1))
		}
		forests := 0
		for _, set := range edgeSets(g) {
			if isForest(g, set) {
				forests++
			}
		}
		if valueOf(rows, 1, 1) != forests {
			t.Fatalf("TutteTrees of %v: %v; there are %d forests", g, rows, forests)
		}
	})
}

// isForest reports whether a set of edges has the rank of all edges, and as many edges.
func isForest(g []int, set int) bool {
	rank := rankByWords(len(g), codeOf(g))
	return rankByWords(len(g), set) == rank && sizeOf(set) == rank
}

// wayIn returns the set of the edges of the way of a forest from a node to another one, and
// whether there is one. It does not go back to the node it comes from.
func wayIn(forest int, from int, a int, b int) (int, bool) {
	if a == b {
		return 0, true
	}
	for place, pair := range pairOrder {
		for end := range pair {
			next := pair[1-end]
			if forest>>place&1 == 1 && pair[end] == a && next != from {
				if way, ok := wayIn(forest, a, next, b); ok {
					return way | 1<<place, true
				}
			}
		}
	}
	return 0, false
}

// joining returns the set of all edges that join both parts that are left of the part of an
// edge of a forest when it is taken away.
func joining(g []int, forest int, place int) int {
	part := partsIn(len(g), forest&^(1<<place))
	sides := func(pair [2]int) [2]int {
		a, b := part[pair[0]], part[pair[1]]
		return [2]int{min(a, b), max(a, b)}
	}
	edges := 0
	for _, other := range nodesOf(codeOf(g), pairCount(len(g))) {
		if sides(pairOrder[other]) == sides(pairOrder[place]) {
			edges |= 1 << other
		}
	}
	return edges
}

// activeByWords returns the numbers of active edges in a forest and of those not in it.
func activeByWords(g []int, forest int) (int, int) {
	within, beyond := 0, 0
	for _, place := range nodesOf(codeOf(g), pairCount(len(g))) {
		if forest>>place&1 == 1 {
			if nodesOf(joining(g, forest, place), pairCount(len(g)))[0] == place {
				within++
			}
			continue
		}
		way, _ := wayIn(forest, -1, pairOrder[place][0], pairOrder[place][1])
		if nodesOf(way|1<<place, pairCount(len(g)))[0] == place {
			beyond++
		}
	}
	return within, beyond
}

// wantActive checks what TutteActive tells of a forest.
func wantActive(t *testing.T, g []int, forest int, within int, beyond int) {
	t.Helper()
	gotWithin, gotBeyond, ok := impl.TutteActive(g, forest)
	if !ok || gotWithin != within || gotBeyond != beyond {
		t.Fatalf("TutteActive of %v and %d: %d, %d, %v; it has to be %d, %d", g, forest, gotWithin, gotBeyond, ok, within, beyond)
	}
}

// Promise 60: active edges of all forests; all of them make the table of trees.
func TestPromise60ActiveEdges(t *testing.T) {
	eachGraph(5, func(g []int, code int) {
		rows, fewest := emptyTable(g), needed(g)
		rank := mustNumber(t)(impl.TutteRank(g, code))
		for _, set := range edgeSets(g) {
			if !isForest(g, set) {
				failsActive(t, g, set)
				continue
			}
			within, beyond := activeByWords(g, set)
			wantActive(t, g, set, within, beyond)
			if within > rank || within < fewest {
				t.Fatalf("TutteActive of %v and %d: %d", g, set, within)
			}
			rows[within][beyond]++
		}
		table, ok := impl.TutteTrees(g)
		hasTable(t, "TutteTrees", g, table, ok, rows)
	})
}

func TestPromise60KnownForests(t *testing.T) {
	for _, k := range []struct {
		g                      []int
		forest, within, beyond int
	}{
		{one, 0, 0, 0}, {none4, 0, 0, 0}, {edge2, 1, 1, 0}, {edgeAlone, 1, 1, 0}, {edges22, 33, 2, 0}, {way4, 37, 3, 0}, {ring3, 3, 2, 0}, {ring3, 5, 1, 0}, {ring3, 6, 0, 1},
		{ring3edge, 515, 3, 0}, {ring3edge, 517, 2, 0}, {ring3edge, 518, 1, 1}, {full4, 11, 3, 0}, {full4, 56, 0, 3}, {full4, 44, 0, 2}, {full4, 35, 2, 0},
		{full5, 75, 4, 0}, {full5, 960, 0, 6}, {kite, 11, 3, 0}, {kite, 44, 0, 2},
	} {
		wantActive(t, k.g, k.forest, k.within, k.beyond)
	}
}

// Sets with too few edges, too many, or as many with a round are no forests.
func TestPromise60OtherSets(t *testing.T) {
	for _, k := range []struct {
		g    []int
		sets []int
	}{
		{edge2, []int{0}}, {way3, []int{0, 1, 4}}, {edges22, []int{0, 1, 32}}, {ring5, []int{0, 1, 5, 37, 613}},
		{ring3, []int{0, 1, 2, 4, 7}}, {full4, []int{0, 3, 33, 15, 62, 63, 7, 25, 42, 52}}, {full5, []int{0, 11, 31, 1022, 1023, 15, 45, 519}},
		{ring3edge, []int{3, 512, 513, 519, 7}}, {ring4, []int{5, 45}}, {pan4, []int{3, 39, 7}}, {bowtie, []int{35, 803, 807, 39, 801}},
	} {
		for _, set := range k.sets {
			failsActive(t, k.g, set)
		}
	}
}

func TestPromise60NoSetsOfEdges(t *testing.T) {
	for _, g := range ones(5) {
		for _, set := range noEdgeSets(g) {
			failsActive(t, g, set)
		}
	}
}

// Promise 61: values of the table.
func TestPromise61Values(t *testing.T) {
	eachGraph(5, func(g []int, _ int) {
		rows := mustTable(t)(impl.TutteSets(g))
		for x := -5; x <= 5; x++ {
			for y := -5; y <= 5; y++ {
				value, ok := impl.TutteAt(g, x, y)
				hasNumber(t, "TutteAt", []any{g, x, y}, value, ok, valueOf(rows, x, y))
			}
		}
	})
}

func TestPromise61KnownValues(t *testing.T) {
	for _, k := range []struct {
		g           []int
		x, y, value int
	}{
		{one, 0, 0, 1}, {one, 5, -5, 1}, {edge2, 0, 5, 0}, {edge2, -5, 0, -5}, {edge2, 5, 5, 5}, {way3, -5, 1, 25}, {way4, -5, -5, -125}, {star5, -5, 2, 625}, {star5, 5, 0, 625},
		{ring3, 0, 0, 0}, {ring3, 0, -5, -5}, {ring3, -5, 0, 20}, {ring3, -5, -5, 15}, {ring3, 5, 5, 35}, {ring3, 2, 3, 9}, {full4, 0, 5, 210}, {full4, 5, 5, 520}, {full4, -5, 0, -60}, {full4, 0, -5, -60},
		{full5, 1, 1, 125}, {full5, 2, 2, 1024}, {full5, 5, 5, 45085}, {full5, 0, 0, 0}, {bowtie, 2, 3, 81}, {ring3edge, -5, 5, -125}, {edges22, 5, 5, 25},
	} {
		value, ok := impl.TutteAt(k.g, k.x, k.y)
		hasNumber(t, "TutteAt", []any{k.g, k.x, k.y}, value, ok, k.value)
	}
}

func TestPromise61NoSuchPoints(t *testing.T) {
	for _, g := range ones(5) {
		for _, far := range []int{6, -6, 7, -7, 64, 1 << 32, -1 << 32, most, least} {
			for _, near := range []int{-5, 0, 1, 5, far, -far} {
				value, ok := impl.TutteAt(g, far, near)
				failsNumber(t, "TutteAt", []any{g, far, near}, value, ok)
				value, ok = impl.TutteAt(g, near, far)
				failsNumber(t, "TutteAt", []any{g, near, far}, value, ok)
			}
		}
	}
}

// Promise 62: values that count sets of edges and forests.
func TestPromise62KnownPoints(t *testing.T) {
	eachGraph(5, func(g []int, _ int) {
		value, ok := impl.TutteAt(g, 2, 2)
		hasNumber(t, "TutteAt 2, 2", g, value, ok, 1<<mustNumber(t)(impl.GraphEdges(g)))
		value, ok = impl.TutteAt(g, 1, 1)
		hasNumber(t, "TutteAt 1, 1", g, value, ok, valueOf(mustTable(t)(impl.TutteTrees(g)), 1, 1))
		value = mustNumber(t)(impl.TutteAt(g, 2, 0))
		if edgesOf(g) > 0 && value%2 != 0 {
			t.Fatalf("TutteAt of %v, 2 and 0: %d", g, value)
		}
	})
}

// paintingsOf counts the lists of colours, one for each node, in which the nodes of an edge
// have different ones.
func paintingsOf(g []int, colours [][]int) int {
	count, code := 0, codeOf(g)
lists:
	for _, list := range colours {
		for place, pair := range pairOrder[:pairCount(len(g))] {
			if code>>place&1 == 1 && list[pair[0]] == list[pair[1]] {
				continue lists
			}
		}
		count++
	}
	return count
}

// Promise 63: colours of nodes.
func TestPromise63AllColours(t *testing.T) {
	var colours [6][6][][]int
	for n := 1; n <= 5; n++ {
		for k := range colours[n] {
			colours[n][k] = lists(n, 0, k-1)
		}
	}
	eachGraph(5, func(g []int, _ int) {
		for k := range 6 {
			count, ok := impl.TutteColours(g, k)
			hasNumber(t, "TutteColours", []any{g, k}, count, ok, paintingsOf(g, colours[len(g)][k]))
		}
	})
}

func TestPromise63ColoursAndValues(t *testing.T) {
	eachGraph(5, func(g []int, code int) {
		for k := range 6 {
			want := absolute(mustNumber(t)(impl.TutteAt(g, 1-k, 0)))
			for range len(g) - rankByWords(len(g), code) {
				want *= k
			}
			count, ok := impl.TutteColours(g, k)
			hasNumber(t, "TutteColours", []any{g, k}, count, ok, want)
		}
	})
}

func TestPromise63KnownColours(t *testing.T) {
	for _, k := range []struct {
		g      []int
		counts []int
	}{
		{one, []int{0, 1, 2, 3, 4, 5}}, {edge2, []int{0, 0, 2, 6, 12, 20}}, {[]int{0, 0}, []int{0, 1, 4, 9, 16, 25}}, {none4, []int{0, 1, 16, 81, 256, 625}}, {way3, []int{0, 0, 2, 12, 36, 80}},
		{ring3, []int{0, 0, 0, 6, 24, 60}}, {edgeAlone, []int{0, 0, 4, 18, 48, 100}}, {edges22, []int{0, 0, 4, 36, 144, 400}}, {ring3edge, []int{0, 0, 0, 36, 288, 1200}}, {ring4, []int{0, 0, 4, 54, 336, 1300}},
		{ring5, []int{0, 0, 0, 30, 240, 1020}}, {star5, []int{0, 0, 2, 48, 324, 1280}}, {bowtie, []int{0, 0, 0, 12, 144, 720}}, {full4, []int{0, 0, 0, 0, 24, 120}}, {full5, []int{0, 0, 0, 0, 0, 120}},
		{[]int{0, 0, 0, 0, 0}, []int{0, 1, 32, 243, 1024, 3125}},
	} {
		for colours, want := range k.counts {
			count, ok := impl.TutteColours(k.g, colours)
			hasNumber(t, "TutteColours", []any{k.g, colours}, count, ok, want)
		}
	}
}

func TestPromise63NoSuchNumbersOfColours(t *testing.T) {
	for _, g := range ones(5) {
		for _, k := range []int{-1, -2, -5, 6, 7, 64, 1 << 32, most, least} {
			count, ok := impl.TutteColours(g, k)
			failsNumber(t, "TutteColours", []any{g, k}, count, ok)
		}
	}
}

// flowsOf counts the lists of numbers, one for each edge, that add up to a multiple of k at
// each node: from edges to lesser nodes, less those from edges to greater ones.
func flowsOf(g []int, k int) int {
	places := nodesOf(codeOf(g), pairCount(len(g)))
	count := 0
lists:
	for _, list := range lists(len(places), 1, k-1) {
		var sums [6]int
		for i, place := range places {
			sums[pairOrder[place][1]] += list[i]
			sums[pairOrder[place][0]] -= list[i]
		}
		for _, sum := range sums {
			if sum%k != 0 {
				continue lists
			}
		}
		count++
	}
	return count
}

// Promise 64: numbers of edges.
func TestPromise64AllFlows(t *testing.T) {
	eachGraph(5, func(g []int, _ int) {
		for k := 2; k <= 4; k++ {
			count, ok := impl.TutteFlows(g, k)
			hasNumber(t, "TutteFlows", []any{g, k}, count, ok, flowsOf(g, k))
		}
	})
}

func TestPromise64FlowsAndValues(t *testing.T) {
	eachGraph(5, func(g []int, _ int) {
		for k := 2; k <= 4; k++ {
			want := absolute(mustNumber(t)(impl.TutteAt(g, 0, 1-k)))
			count, ok := impl.TutteFlows(g, k)
			hasNumber(t, "TutteFlows", []any{g, k}, count, ok, want)
			if count > 0 && needed(g) > 0 {
				t.Fatalf("TutteFlows of %v and %d: %d", g, k, count)
			}
		}
		even := 1
		for _, degree := range must(t)(impl.GraphDegrees(g)) {
			even = even * (degree + 1) % 2
		}
		count, ok := impl.TutteFlows(g, 2)
		hasNumber(t, "TutteFlows", []any{g, 2}, count, ok, even)
	})
}

func TestPromise64KnownFlows(t *testing.T) {
	for _, k := range []struct {
		g      []int
		counts []int
	}{
		{one, []int{1, 1, 1}}, {none4, []int{1, 1, 1}}, {edge2, []int{0, 0, 0}}, {way4, []int{0, 0, 0}}, {star5, []int{0, 0, 0}}, {edges22, []int{0, 0, 0}}, {ring3edge, []int{0, 0, 0}}, {pan4, []int{0, 0, 0}},
		{ring3, []int{1, 2, 3}}, {ring4, []int{1, 2, 3}}, {ring5, []int{1, 2, 3}}, {bowtie, []int{1, 4, 9}}, {kite, []int{0, 2, 6}}, {twoThree, []int{0, 2, 6}}, {full4, []int{0, 0, 6}}, {full5, []int{1, 24, 279}},
	} {
		for i, want := range k.counts {
			count, ok := impl.TutteFlows(k.g, i+2)
			hasNumber(t, "TutteFlows", []any{k.g, i + 2}, count, ok, want)
		}
	}
}

func TestPromise64NoSuchNumbersOfFlows(t *testing.T) {
	for _, g := range ones(5) {
		for _, k := range []int{1, 0, -1, -2, -4, 5, 6, 64, 1 << 32, most, least} {
			count, ok := impl.TutteFlows(g, k)
			failsNumber(t, "TutteFlows", []any{g, k}, count, ok)
		}
	}
}

// Promise 65: values of two graphs beside each other.
func TestPromise65GraphsBesideEachOther(t *testing.T) {
	eachGraph(4, func(g []int, _ int) {
		eachGraph(5-len(g), func(h []int, _ int) {
			both := must(t)(impl.GraphJoin(g, h))
			for _, at := range [][2]int{{2, 3}, {-1, 2}, {0, -2}, {-4, 0}} {
				x, y := at[0], at[1]
				product := mustNumber(t)(impl.TutteAt(g, x, y)) * mustNumber(t)(impl.TutteAt(h, x, y))
				value, ok := impl.TutteAt(both, x, y)
				hasNumber(t, "TutteAt", []any{both, x, y}, value, ok, product)
			}
		})
	})
}

// wantOwnRows overwrites the rows of a table one by one, up to their capacity, and checks
// that this changes no other row and nothing that comes later.
func wantOwnRows(t *testing.T, what string, call func() ([][]int, bool)) {
	t.Helper()
	first, later := mustTable(t)(call()), mustTable(t)(call())
	want := make([][]int, len(first))
	for i, row := range first {
		want[i] = slices.Clone(row)
	}
	for i, row := range first {
		full := row[:cap(row)]
		for j := range full {
			full[j] = -99
		}
		if !slices.EqualFunc(first[i+1:], want[i+1:], slices.Equal) {
			t.Fatalf("%s: the row %d has memory of others: %v", what, i, first)
		}
	}
	clear(first[:cap(first)])
	hasTable(t, what+" ahead of it", nil, later, true, want)
	again, ok := call()
	hasTable(t, what+" once more", nil, again, ok, want)
}

// Rows share no memory with each other, with arguments or earlier results, and arguments
// stay as they are.
func TestTutteMemoryIsNotShared(t *testing.T) {
	for _, list := range append(ones(5), ring4, ring5, bowtie, edgeTwo) {
		g := roomy(list)
		for _, f := range tables {
			wantOwnRows(t, f.name, func() ([][]int, bool) { return f.rows(g) })
		}
		code := codeOf(list)
		for _, set := range []int{0, code, code & 75, -1} {
			impl.TutteRank(g, set)
			impl.TutteActive(g, set)
		}
		for k := -6; k <= 6; k++ {
			impl.TutteAt(g, k, -k)
			impl.TutteColours(g, k)
			impl.TutteFlows(g, k)
		}
		wantAsBefore(t, g, list)
	}
}
