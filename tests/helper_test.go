package tests

import (
	"slices"
	"sync"
	"testing"

	"loop.example/graphpieces/impl"
)

// most is the largest and least the smallest number that an argument may be.
const (
	most  = int(^uint(0) >> 1)
	least = -most - 1
)

// pairOrder has the pairs as the document lists them: the pair at each place of a code.
var pairOrder = [][2]int{
	{0, 1},
	{0, 2}, {1, 2},
	{0, 3}, {1, 3}, {2, 3},
	{0, 4}, {1, 4}, {2, 4}, {3, 4},
	{0, 5}, {1, 5}, {2, 5}, {3, 5}, {4, 5},
}

func pairCount(n int) int {
	return n * (n - 1) / 2
}

func codeCount(n int) int {
	return 1 << pairCount(n)
}

// drawn returns the graph of n nodes with a code, made by the tests' own list of pairs.
func drawn(n int, code int) []int {
	g := make([]int, n)
	for place, pair := range pairOrder[:pairCount(n)] {
		if code>>place&1 == 1 {
			g[pair[0]] |= 1 << pair[1]
			g[pair[1]] |= 1 << pair[0]
		}
	}
	return g
}

// eachGraph calls do for every graph of 1 to n nodes, and its code.
func eachGraph(n int, do func(g []int, code int)) {
	for k := 1; k <= n; k++ {
		for code := range codeCount(k) {
			do(drawn(k, code), code)
		}
	}
}

// eachKind calls do for every graph of 1 to 5 nodes, and for each kind of graph of 6
// nodes with names of three sorts.
func eachKind(do func(g []int)) {
	eachGraph(5, func(g []int, _ int) { do(g) })
	for _, code := range leastOnes(6) {
		g := drawn(6, code)
		do(g)
		do(renamed(g, backwards(6)))
		do(renamed(g, []int{2, 0, 5, 1, 4, 3}))
	}
}

// namings returns all names of n nodes.
func namings(n int) [][]int {
	if n == 0 {
		return [][]int{{}}
	}
	var all [][]int
	for _, p := range namings(n - 1) {
		for i := range n {
			all = append(all, slices.Insert(slices.Clone(p), i, n-1))
		}
	}
	return all
}

// ordered returns all names of n nodes, as lists are compared.
func ordered(n int) [][]int {
	all := namings(n)
	slices.SortFunc(all, slices.Compare)
	return all
}

// renamed returns the graph in which each node i is called p[i].
func renamed(g []int, p []int) []int {
	h := make([]int, len(g))
	for i := range g {
		for j := range g {
			h[p[i]] |= g[i] >> j & 1 << p[j]
		}
	}
	return h
}

// codeOf returns the code of a graph by the tests' own list of pairs.
func codeOf(g []int) int {
	code := 0
	for place, pair := range pairOrder[:pairCount(len(g))] {
		code |= g[pair[0]] >> pair[1] & 1 << place
	}
	return code
}

// class tells of a graph what all graphs that are alike to it have in common.
type class struct {
	least int // the least code
	many  int // how many graphs are alike to it
	same  int // how many names make it itself
}

// classes returns, for each number of nodes, the classes of the graphs with the codes
// 0, 1 and so on. They are found by trying all names, once for all tests.
var classes = sync.OnceValue(func() [7][]class {
	var table [7][]class
	for n := 1; n <= 6; n++ {
		table[n] = make([]class, codeCount(n))
		all := namings(n)
		for code := range table[n] {
			if table[n][code].many == 0 {
				g := drawn(n, code)
				found := map[int]int{}
				for _, p := range all {
					found[codeOf(renamed(g, p))]++
				}
				for c, times := range found {
					table[n][c] = class{least: code, many: len(found), same: times}
				}
			}
		}
	}
	return table
})

// classOf returns the class of a graph.
func classOf(g []int) class {
	return classes()[len(g)][codeOf(g)]
}

// leastOnes returns the least codes of all graphs of n nodes in ascending order.
func leastOnes(n int) []int {
	var codes []int
	for code, c := range classes()[n] {
		if c.least == code {
			codes = append(codes, code)
		}
	}
	return codes
}

// otherOf returns the graph of the other pairs by the tests' own list of pairs.
func otherOf(g []int) []int {
	return drawn(len(g), codeCount(len(g))-1-codeOf(g))
}

// backwards returns the names that turn the order of n nodes round.
func backwards(n int) []int {
	p := make([]int, n)
	for i := range p {
		p[i] = n - 1 - i
	}
	return p
}

// edgesOf counts the edges of a graph by its pairs.
func edgesOf(g []int) int {
	count := 0
	for _, pair := range pairOrder[:pairCount(len(g))] {
		count += g[pair[0]] >> pair[1] & 1
	}
	return count
}

// degreeOf counts the neighbours of a node.
func degreeOf(g []int, v int) int {
	count := 0
	for w := range g {
		count += g[v] >> w & 1
	}
	return count
}

// nodesOf returns the nodes of a set that are among n nodes, in order.
func nodesOf(set int, n int) []int {
	var nodes []int
	for v := range n {
		if set>>v&1 == 1 {
			nodes = append(nodes, v)
		}
	}
	return nodes
}

// partOf returns the graph of some nodes, called in their order, taken out pair by pair.
func partOf(g []int, nodes []int) []int {
	h := make([]int, len(nodes))
	for i, a := range nodes {
		for j, b := range nodes {
			h[i] |= g[a] >> b & 1 << j
		}
	}
	return h
}

// isGraph judges a list by the document's words.
func isGraph(g []int) bool {
	if len(g) == 0 || len(g) > 6 {
		return false
	}
	for v, set := range g {
		if set < 0 || set >= 1<<len(g) || set>>v&1 == 1 {
			return false
		}
		for w := range g {
			if set>>w&1 != g[w]>>v&1 {
				return false
			}
		}
	}
	return true
}

// noGraphs returns lists that are no graphs.
func noGraphs() [][]int {
	return [][]int{
		nil,
		{},
		{1},
		{2},
		{-1},
		{most},
		{least},
		{2, 0},
		{0, 1},
		{1, 0},
		{2, 3},
		{2, 5},
		{4, 0},
		{2, -1},
		{-2, 1},
		{2, 1 + least},
		{2, 5, 0},
		{2, 5, 6},
		{2, 5, 10},
		{6, 5, 1},
		{6, 5, 3 + 8},
		{0, 0, 0, 0, 0, 1},
		{0, 0, 0, 0, 0, 32},
		{0, 0, 0, 0, 0, 64},
		{62, 61, 59, 55, 47, 30},
		{0, 0, 0, 0, 0, 0, 0},
		{2, 1, 0, 0, 0, 0, 0},
		{126, 125, 123, 119, 111, 95, 63},
		make([]int, 64),
		make([]int, 70),
	}
}

// noNames returns lists that are no names of n nodes.
func noNames(n int) [][]int {
	names := backwards(n)
	lists := [][]int{nil, {}, names[1:], append(slices.Clone(names), n), append(slices.Clone(names), 0)}
	for i := range n {
		for _, wrong := range []int{-1, n, n + 1, 64, most, least} {
			p := slices.Clone(names)
			p[i] = wrong
			lists = append(lists, p)
		}
		if n > 1 {
			p := slices.Clone(names)
			p[i] = p[(i+1)%n]
			lists = append(lists, p)
		}
	}
	return lists
}

// noCodes returns numbers that are no codes of graphs of n nodes.
func noCodes(n int) []int {
	return []int{-1, least, codeCount(n), codeCount(n) + 1, most}
}

// noSets returns numbers that are no sets of n nodes.
func noSets(n int) []int {
	return []int{-1, -2, least, 1 << n, 1<<n + 1, 1 << 62, most}
}

// noNodes returns numbers that are none of n nodes.
func noNodes(n int) []int {
	return []int{-1, -n, least, n, n + 1, 63, 64, most}
}

// failsList checks that a result that is a list says that there is none.
func failsList(t *testing.T, what string, arguments any, got []int, ok bool) {
	t.Helper()
	if ok || len(got) != 0 {
		t.Errorf("%s of %v: %v, %v; it has to fail", what, arguments, got, ok)
	}
}

// failsNumber checks that a result that is a number says that there is none.
func failsNumber(t *testing.T, what string, arguments any, got int, ok bool) {
	t.Helper()
	if ok || got != 0 {
		t.Errorf("%s of %v: %v, %v; it has to fail", what, arguments, got, ok)
	}
}

// failsText checks that a result that is a text says that there is none.
func failsText(t *testing.T, what string, arguments any, got string, ok bool) {
	t.Helper()
	if ok || got != "" {
		t.Errorf("%s of %v: %q, %v; it has to fail", what, arguments, got, ok)
	}
}

// hasList checks that a result is a list.
func hasList(t *testing.T, what string, arguments any, got []int, ok bool, want []int) {
	t.Helper()
	if !ok || !slices.Equal(got, want) {
		t.Fatalf("%s of %v: %v, %v; it has to be %v", what, arguments, got, ok, want)
	}
}

// hasNumber checks that a result is a number.
func hasNumber(t *testing.T, what string, arguments any, got int, ok bool, want int) {
	t.Helper()
	if !ok || got != want {
		t.Fatalf("%s of %v: %v, %v; it has to be %v", what, arguments, got, ok, want)
	}
}

// hasText checks that a result is a text.
func hasText(t *testing.T, what string, arguments any, got string, ok bool, want string) {
	t.Helper()
	if !ok || got != want {
		t.Fatalf("%s of %v: %q, %v; it has to be %q", what, arguments, got, ok, want)
	}
}

// must returns a list that a function has to return with true.
func must(t *testing.T) func(list []int, ok bool) []int {
	t.Helper()
	return func(list []int, ok bool) []int {
		t.Helper()
		if !ok {
			t.Fatal("a function failed for valid arguments")
		}
		return list
	}
}

// mustNumber returns a number that a function has to return with true.
func mustNumber(t *testing.T) func(number int, ok bool) int {
	t.Helper()
	return func(number int, ok bool) int {
		t.Helper()
		if !ok {
			t.Fatal("a function failed for valid arguments")
		}
		return number
	}
}

// mustText returns a text that a function has to return with true.
func mustText(t *testing.T) func(text string, ok bool) string {
	t.Helper()
	return func(text string, ok bool) string {
		t.Helper()
		if !ok {
			t.Fatal("a function failed for valid arguments")
		}
		return text
	}
}

// wantGraph checks that a list is a graph, by the tests' words and the program's.
func wantGraph(t *testing.T, what string, g []int) {
	t.Helper()
	if !isGraph(g) || !impl.GraphIn(g) {
		t.Fatalf("%s: %v has to be a graph", what, g)
	}
}

// marks stand behind the end of the lists that roomy makes.
var marks = []int{77, 78, 79, 80, 81, 82}

// roomy returns a list with spare capacity, whose spare places hold marks.
func roomy(list []int) []int {
	room := append(slices.Clone(list), marks...)
	return room[:len(list)]
}

// wantAsBefore checks that a list that roomy made is as it was, with its marks.
func wantAsBefore(t *testing.T, list []int, want []int) {
	t.Helper()
	want = append(slices.Clone(want), marks...)
	if got := list[:len(want)]; !slices.Equal(got, want) {
		t.Errorf("an argument was changed to %v, not %v", got, want)
	}
}

// wantOwnMemory overwrites what the calls return, up to the capacity, and checks that
// they return the same again.
func wantOwnMemory(t *testing.T, calls map[string]func() ([]int, bool)) {
	t.Helper()
	for what, call := range calls {
		first := must(t)(call())
		want := slices.Clone(first)
		full := first[:cap(first)]
		for i := range full {
			full[i] = -99
		}
		again, ok := call()
		hasList(t, what+" once more", "the same", again, ok, want)
	}
}
