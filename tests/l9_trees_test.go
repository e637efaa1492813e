package tests

import (
	"fmt"
	"math/bits"
	"slices"
	"sync"
	"testing"

	"loop.example/graphpieces/impl"
)

// Trees of six nodes by name: a way, a star, one with two nodes of three neighbours, one
// with one such node at its end and one with it in its middle.
var (
	way6   = []int{2, 5, 10, 20, 40, 16}
	star6  = []int{62, 1, 1, 1, 1, 1}
	broom6 = []int{8, 8, 8, 23, 40, 16}
	twice6 = []int{4, 4, 11, 52, 8, 8}
)

// isTreeByWords judges a list by the document's words.
func isTreeByWords(g []int) bool {
	return isGraph(g) && linkedBySteps(g) && edgesOf(g) == len(g)-1
}

// allTrees has the codes of all trees of each number of nodes, in ascending order.
var allTrees = sync.OnceValue(func() [7][]int {
	var codes [7][]int
	eachGraph(6, func(g []int, code int) {
		if edgesOf(g) == len(g)-1 && linkedBySteps(g) {
			codes[len(g)] = append(codes[len(g)], code)
		}
	})
	return codes
})

// eachTree calls do for every tree of first to last nodes.
func eachTree(first int, last int, do func(g []int)) {
	for n := first; n <= last; n++ {
		for _, code := range allTrees()[n] {
			do(drawn(n, code))
		}
	}
}

// leastTrees returns a tree of each kind of n nodes.
func leastTrees(n int) [][]int {
	var kinds [][]int
	for _, code := range allTrees()[n] {
		if g := drawn(n, code); classOf(g).least == code {
			kinds = append(kinds, g)
		}
	}
	return kinds
}

// lettersByWords takes the least node with one neighbour out again and again.
func lettersByWords(g []int) []int {
	var letters []int
	rest := slices.Clone(g)
	for range len(g) - 2 {
		for v := range rest {
			if degreeOf(rest, v) == 1 {
				neighbour := nodesOf(rest[v], len(g))[0]
				letters = append(letters, neighbour)
				rest[v], rest[neighbour] = 0, rest[neighbour]&^(1<<v)
				break
			}
		}
	}
	return letters
}

// stepsBetween returns the least numbers of steps from each node of a linked graph to each.
func stepsBetween(g []int) [6][6]int {
	var steps [6][6]int
	for v := range g {
		for seen, count := 1<<v, 0; seen != 1<<len(g)-1; count++ {
			wider := seen
			for _, w := range nodesOf(seen, len(g)) {
				wider |= g[w]
			}
			for _, w := range nodesOf(wider&^seen, len(g)) {
				steps[v][w] = count + 1
			}
			seen = wider
		}
	}
	return steps
}

// middleByWords returns the set of nodes with the least greatest number of steps.
func middleByWords(g []int) int {
	steps := stepsBetween(g)
	set, best := 0, len(g)
	for v := range g {
		far := slices.Max(steps[v][:])
		if far < best {
			set, best = 0, far
		}
		if far == best {
			set |= 1 << v
		}
	}
	return set
}

// exchangesByWords returns the codes of all trees of n nodes that have lost one edge of a
// tree and won another pair.
func exchangesByWords(n int, code int) []int {
	var codes []int
	for _, other := range allTrees()[n] {
		if sizeOf(code&^other) == 1 && sizeOf(other&^code) == 1 {
			codes = append(codes, other)
		}
	}
	return codes
}

// firstByWords returns the least code of a tree of n nodes with edges of a set alone, or -1.
func firstByWords(n int, code int) int {
	for _, tree := range allTrees()[n] {
		if tree&^code == 0 {
			return tree
		}
	}
	return -1
}

// failsTree checks that all functions that ask for a tree say that a list is none.
func failsTree(t *testing.T, g []int) {
	t.Helper()
	if impl.TreeIn(g) {
		t.Errorf("TreeIn of %v must not hold", g)
	}
	list, ok := impl.TreeLetters(g)
	failsList(t, "TreeLetters", g, list, ok)
	list, ok = impl.TreeExchanges(g)
	failsList(t, "TreeExchanges", g, list, ok)
	set, ok := impl.TreeMiddle(g)
	failsNumber(t, "TreeMiddle", g, set, ok)
	for _, ends := range [][2]int{{0, 0}, {0, 1}, {1, 0}, {len(g) - 1, 0}, {-1, 0}, {most, least}} {
		list, ok = impl.TreeWay(g, ends[0], ends[1])
		failsList(t, "TreeWay", []any{g, ends}, list, ok)
	}
	far, ok := impl.TreeFar(g, g)
	failsNumber(t, "TreeFar", []any{g, "itself"}, far, ok)
}

// failsFar checks that TreeFar fails for two lists, in both orders.
func failsFar(t *testing.T, g []int, h []int) {
	t.Helper()
	far, ok := impl.TreeFar(g, h)
	failsNumber(t, "TreeFar", []any{g, h}, far, ok)
	far, ok = impl.TreeFar(h, g)
	failsNumber(t, "TreeFar", []any{h, g}, far, ok)
}

// trees are trees of all numbers of nodes.
var trees = [][]int{one, edge2, way3, way4, {14, 1, 1, 1}, way5, star5, way6, star6, broom6, twice6}

// Promise 66: TreeIn, for all graphs.
func TestPromise66AllGraphs(t *testing.T) {
	eachGraph(6, func(g []int, code int) {
		if want := isTreeByWords(g); impl.TreeIn(g) != want {
			t.Fatalf("TreeIn of %v has to be %v", g, want)
		}
		if !impl.TreeIn(g) {
			return
		}
		count, ok := impl.NumberTrees(g)
		hasNumber(t, "NumberTrees", g, count, ok, 1)
		first, ok := impl.TreeFirst(g)
		hasNumber(t, "TreeFirst", g, first, ok, code)
	})
}

func TestPromise66KnownTrees(t *testing.T) {
	for _, g := range trees {
		if !impl.TreeIn(g) {
			t.Errorf("%v has to be a tree", g)
		}
	}
	// Graphs without edges, with as many edges as a tree but in parts, and with more edges.
	for _, g := range [][]int{{0, 0}, none4, none6, edgeAlone, {6, 5, 3, 0}, ring4, {6, 5, 3, 16, 8, 0}, edges22, edgeTwo, rings33, ring3, pan4, ring5, full4, full6, prism} {
		failsTree(t, g)
		failsFar(t, g, trees[len(g)])
		for _, h := range trees {
			failsFar(t, g, h)
		}
	}
}

func TestPromises66To77NoGraphs(t *testing.T) {
	for _, g := range noGraphs() {
		failsTree(t, g)
		first, ok := impl.TreeFirst(g)
		failsNumber(t, "TreeFirst", g, first, ok)
		for _, h := range trees {
			failsFar(t, g, h)
		}
	}
}

func TestPromises66To77NoTrees(t *testing.T) {
	eachGraph(6, func(g []int, _ int) {
		if !isTreeByWords(g) {
			failsTree(t, g)
			failsFar(t, g, leastTrees(len(g))[0])
		}
	})
}

// A tree of one node has no letters, and one middle.
func TestPromises66To77OneNode(t *testing.T) {
	letters, ok := impl.TreeLetters(one)
	failsList(t, "TreeLetters", one, letters, ok)
	set, ok := impl.TreeMiddle(one)
	hasNumber(t, "TreeMiddle", one, set, ok, 1)
	way, ok := impl.TreeWay(one, 0, 0)
	hasList(t, "TreeWay", one, way, ok, []int{0})
	codes, ok := impl.TreeExchanges(one)
	hasList(t, "TreeExchanges", one, codes, ok, nil)
	first, ok := impl.TreeFirst(one)
	hasNumber(t, "TreeFirst", one, first, ok, 0)
	far, ok := impl.TreeFar(one, []int{0})
	hasNumber(t, "TreeFar", one, far, ok, 0)
}

// The tree of two nodes has empty letters, which are not the same as none.
func TestPromises66To77TwoNodes(t *testing.T) {
	letters, ok := impl.TreeLetters(edge2)
	hasList(t, "TreeLetters", edge2, letters, ok, nil)
	for _, none := range [][]int{nil, {}} {
		g, ok := impl.TreeFrom(2, none)
		hasList(t, "TreeFrom", 2, g, ok, edge2)
	}
	set, ok := impl.TreeMiddle(edge2)
	hasNumber(t, "TreeMiddle", edge2, set, ok, 3)
	way, ok := impl.TreeWay(edge2, 1, 0)
	hasList(t, "TreeWay", edge2, way, ok, []int{1, 0})
	codes, ok := impl.TreeExchanges(edge2)
	hasList(t, "TreeExchanges", edge2, codes, ok, nil)
	first, ok := impl.TreeFirst(edge2)
	hasNumber(t, "TreeFirst", edge2, first, ok, 1)
	far, ok := impl.TreeFar(edge2, edge2)
	hasNumber(t, "TreeFar", edge2, far, ok, 0)
}

// knownLetters are letters that were found by hand.
var knownLetters = []struct {
	g       []int
	letters []int
}{
	{way3, []int{1}}, {[]int{6, 1, 1}, []int{0}}, {[]int{4, 4, 3}, []int{2}},
	{way4, []int{1, 2}}, {[]int{2, 13, 2, 2}, []int{1, 1}}, {[]int{8, 8, 8, 7}, []int{3, 3}}, {[]int{12, 4, 3, 1}, []int{2, 0}},
	{way5, []int{1, 2, 3}}, {star5, []int{0, 0, 0}}, {[]int{16, 16, 16, 16, 15}, []int{4, 4, 4}},
	{way6, []int{1, 2, 3, 4}}, {star6, []int{0, 0, 0, 0}}, {broom6, []int{3, 3, 3, 4}}, {twice6, []int{2, 2, 3, 3}}, {[]int{32, 36, 18, 16, 12, 3}, []int{5, 4, 2, 1}},
}

// Promise 67: letters of trees.
func TestPromise67LettersOfAllTrees(t *testing.T) {
	eachTree(2, 6, func(g []int) {
		letters, ok := impl.TreeLetters(g)
		hasList(t, "TreeLetters", g, letters, ok, lettersByWords(g))
		back, ok := impl.TreeFrom(len(g), letters)
		hasList(t, "TreeFrom", letters, back, ok, g)
		for v := range g {
			times := 0
			for _, letter := range letters {
				if letter == v {
					times++
				}
			}
			if times != degreeOf(g, v)-1 {
				t.Fatalf("TreeLetters of %v: %v has %d %d times", g, letters, v, times)
			}
		}
	})
}

func TestPromise67KnownLetters(t *testing.T) {
	for _, k := range knownLetters {
		letters, ok := impl.TreeLetters(k.g)
		hasList(t, "TreeLetters", k.g, letters, ok, k.letters)
	}
}

// Promise 68: trees of letters.
func TestPromise68TreesOfAllLetters(t *testing.T) {
	for n := 2; n <= 6; n++ {
		seen := map[int]bool{}
		for _, letters := range lists(n-2, 0, n-1) {
			g := must(t)(impl.TreeFrom(n, letters))
			wantGraph(t, "TreeFrom", g)
			if len(g) != n || !isTreeByWords(g) || !impl.TreeIn(g) {
				t.Fatalf("TreeFrom of %d and %v: %v is no tree", n, letters, g)
			}
			back, ok := impl.TreeLetters(g)
			hasList(t, "TreeLetters", g, back, ok, letters)
			seen[codeOf(g)] = true
		}
		if len(seen) != len(allTrees()[n]) {
			t.Fatalf("TreeFrom of %d makes %d trees", n, len(seen))
		}
	}
}

func TestPromise68KnownTrees(t *testing.T) {
	for _, k := range knownLetters {
		g, ok := impl.TreeFrom(len(k.g), k.letters)
		hasList(t, "TreeFrom", k.letters, g, ok, k.g)
	}
}

// failsFrom checks that TreeFrom fails for a number of nodes and letters.
func failsFrom(t *testing.T, n int, letters []int) {
	t.Helper()
	g, ok := impl.TreeFrom(n, letters)
	failsList(t, "TreeFrom", []any{n, letters}, g, ok)
}

func TestPromise68NoSuchNumbersOfNodes(t *testing.T) {
	for _, n := range []int{1, 0, -1, -2, -6, 7, 8, 64, most, least} {
		for length := range 9 {
			failsFrom(t, n, make([]int, length))
		}
		failsFrom(t, n, nil)
	}
	failsFrom(t, 7, []int{6, 5, 4, 3, 2})
}

func TestPromise68NoLetters(t *testing.T) {
	for n := 2; n <= 6; n++ {
		for length := range 9 {
			if length != n-2 {
				failsFrom(t, n, make([]int, length))
			}
		}
		for i := range n - 2 {
			for _, wrong := range noNodes(n) {
				letters := make([]int, n-2)
				letters[i] = wrong
				failsFrom(t, n, letters)
			}
		}
	}
}

// Promise 69: numbers of trees.
func TestPromise69TreeMany(t *testing.T) {
	for n, want := range []int{0, 1, 1, 3, 16, 125, 1296} {
		if n == 0 {
			continue
		}
		count, ok := impl.TreeMany(n)
		hasNumber(t, "TreeMany", n, count, ok, want)
		hasNumber(t, "TreeMany", n, count, ok, len(allTrees()[n]))
		hasNumber(t, "TreeMany", n, count, ok, mustNumber(t)(impl.NumberTrees(drawn(n, codeCount(n)-1))))
	}
	for _, n := range []int{0, -1, -2, least, 7, 8, 64, most} {
		count, ok := impl.TreeMany(n)
		failsNumber(t, "TreeMany", n, count, ok)
	}
}

// degreesSeen returns how many trees of n nodes have each list of numbers of neighbours.
func degreesSeen(n int) map[string]int {
	seen := map[string]int{}
	for _, code := range allTrees()[n] {
		g := drawn(n, code)
		degrees := make([]int, n)
		for v := range g {
			degrees[v] = degreeOf(g, v)
		}
		seen[fmt.Sprint(degrees)]++
	}
	return seen
}

// Promise 70: trees with numbers of neighbours, for all lists.
func TestPromise70AllLists(t *testing.T) {
	for n := 1; n <= 6; n++ {
		seen := degreesSeen(n)
		sum := 0
		for _, d := range lists(n, 0, 6) {
			count, ok := impl.TreeDegrees(d)
			if !ok || count > 0 || n < 5 {
				hasNumber(t, "TreeDegrees", d, count, ok, seen[fmt.Sprint(d)])
			}
			sum += count
		}
		if sum != len(allTrees()[n]) {
			t.Fatalf("TreeDegrees of %d numbers: %d trees together", n, sum)
		}
	}
}

func TestPromise70SixNeighbours(t *testing.T) {
	for _, d := range [][]int{{6}, {6, 6}, {6, 0, 0, 0, 0, 0}, {6, 1, 1, 1, 1, 0}, {6, 1, 1, 1, 1, 1}, {1, 1, 1, 1, 6, 0}, {6, 6, 6, 6, 6, 6}} {
		count, ok := impl.TreeDegrees(d)
		hasNumber(t, "TreeDegrees", d, count, ok, 0)
	}
}

func TestPromise70KnownNumbers(t *testing.T) {
	for _, k := range []struct {
		degrees []int
		count   int
	}{
		{[]int{0}, 1}, {[]int{1}, 0}, {[]int{2}, 0}, {[]int{6}, 0}, {[]int{0, 0}, 0}, {[]int{1, 1}, 1}, {[]int{2, 0}, 0}, {[]int{0, 1}, 0}, {[]int{1, 2}, 0},
		{[]int{1, 2, 1}, 1}, {[]int{2, 2, 0}, 0}, {[]int{1, 1, 1}, 0}, {[]int{2, 2, 1, 1}, 2}, {[]int{3, 1, 1, 1}, 1}, {[]int{2, 2, 2, 2}, 0}, {[]int{4, 1, 1, 0}, 0},
		{[]int{2, 2, 2, 1, 1}, 6}, {[]int{1, 3, 1, 2, 1}, 3}, {[]int{4, 1, 1, 1, 1}, 1}, {[]int{5, 1, 1, 1, 0}, 0},
		{[]int{2, 2, 2, 2, 1, 1}, 24}, {[]int{3, 3, 1, 1, 1, 1}, 6}, {[]int{3, 2, 2, 1, 1, 1}, 12}, {[]int{1, 1, 4, 1, 2, 1}, 4}, {[]int{5, 1, 1, 1, 1, 1}, 1}, {[]int{5, 2, 1, 1, 1, 0}, 0}, {[]int{0, 0, 0, 0, 0, 0}, 0},
	} {
		count, ok := impl.TreeDegrees(k.degrees)
		hasNumber(t, "TreeDegrees", k.degrees, count, ok, k.count)
	}
}

func TestPromise70BackwardsAndAlone(t *testing.T) {
	for n := 1; n <= 5; n++ {
		many := mustNumber(t)(impl.TreeMany(n))
		for _, d := range lists(n, 0, 4) {
			count := mustNumber(t)(impl.TreeDegrees(d))
			if count > many {
				t.Fatalf("TreeDegrees of %v: %d", d, count)
			}
			turned := slices.Clone(d)
			slices.Reverse(turned)
			back, ok := impl.TreeDegrees(turned)
			hasNumber(t, "TreeDegrees", turned, back, ok, count)
			for _, more := range [][]int{append(slices.Clone(d), 0), append([]int{0}, d...)} {
				count, ok := impl.TreeDegrees(more)
				hasNumber(t, "TreeDegrees", more, count, ok, 0)
			}
		}
	}
}

func TestPromise70NoSuchLists(t *testing.T) {
	wrong := [][]int{nil, {}, make([]int, 7), {2, 2, 2, 2, 2, 1, 1}, {6, 1, 1, 1, 1, 1, 1}, make([]int, 64)}
	for n := 1; n <= 6; n++ {
		for i := range n {
			for _, number := range []int{-1, -2, -6, least, 7, 8, 64, most} {
				d := slices.Repeat([]int{1}, n)
				d[i] = number
				wrong = append(wrong, d)
				d = make([]int, n)
				d[i] = number
				wrong = append(wrong, d)
			}
		}
	}
	// Some sums are those of a tree, and some numbers wrap round.
	wrong = append(wrong, []int{-1, 3}, []int{3, -1}, []int{7, -1, -1, 1}, []int{4, 2, 1, 1, -1, 3}, []int{most, least, 1, 2, 1})
	for _, d := range wrong {
		count, ok := impl.TreeDegrees(d)
		failsNumber(t, "TreeDegrees", d, count, ok)
	}
}

// Promise 71: middles of trees.
func TestPromise71AllMiddles(t *testing.T) {
	eachTree(1, 6, func(g []int) {
		set, ok := impl.TreeMiddle(g)
		hasNumber(t, "TreeMiddle", g, set, ok, middleByWords(g))
		middles := nodesOf(set, len(g))
		if len(middles) != 1 && (len(middles) != 2 || g[middles[0]]>>middles[1]&1 == 0) {
			t.Fatalf("TreeMiddle of %v: %d", g, set)
		}
	})
}

func TestPromise71KnownMiddles(t *testing.T) {
	for _, k := range []struct {
		g   []int
		set int
	}{
		{one, 1}, {edge2, 3}, {way3, 2}, {way4, 6}, {[]int{14, 1, 1, 1}, 1}, {way5, 4}, {star5, 1}, {way6, 12}, {star6, 1}, {broom6, 24}, {twice6, 12}, {[]int{32, 36, 18, 16, 12, 3}, 6},
	} {
		set, ok := impl.TreeMiddle(k.g)
		hasNumber(t, "TreeMiddle", k.g, set, ok, k.set)
	}
}

// Promise 72: ways from each node to each other one.
func TestPromise72AllWays(t *testing.T) {
	eachTree(1, 6, func(g []int) {
		steps := stepsBetween(g)
		for a := range g {
			for b := range g {
				way := must(t)(impl.TreeWay(g, a, b))
				// In a tree, the shortest way is the only one.
				if len(way) != steps[a][b]+1 || way[0] != a || way[len(way)-1] != b {
					t.Fatalf("TreeWay of %v from %d to %d: %v", g, a, b, way)
				}
				for i := 1; i < len(way); i++ {
					if g[way[i-1]]>>way[i]&1 == 0 {
						t.Fatalf("TreeWay of %v from %d to %d: %v", g, a, b, way)
					}
				}
				slices.Reverse(way)
				back, ok := impl.TreeWay(g, b, a)
				hasList(t, "TreeWay", []any{g, b, a}, back, ok, way)
			}
		}
	})
}

func TestPromise72KnownWays(t *testing.T) {
	for _, k := range []struct {
		g    []int
		a, b int
		way  []int
	}{
		{one, 0, 0, []int{0}}, {edge2, 0, 1, []int{0, 1}}, {edge2, 1, 1, []int{1}}, {way4, 0, 3, []int{0, 1, 2, 3}}, {way4, 3, 1, []int{3, 2, 1}}, {way4, 2, 2, []int{2}},
		{star5, 3, 1, []int{3, 0, 1}}, {star5, 0, 4, []int{0, 4}}, {twice6, 0, 5, []int{0, 2, 3, 5}}, {twice6, 5, 4, []int{5, 3, 4}}, {broom6, 5, 0, []int{5, 4, 3, 0}},
		{[]int{32, 36, 18, 16, 12, 3}, 0, 3, []int{0, 5, 1, 2, 4, 3}},
	} {
		way, ok := impl.TreeWay(k.g, k.a, k.b)
		hasList(t, "TreeWay", []any{k.g, k.a, k.b}, way, ok, k.way)
	}
}

func TestPromise72NoSuchNodes(t *testing.T) {
	for _, g := range trees {
		for _, wrong := range noNodes(len(g)) {
			for _, ends := range [][2]int{{wrong, 0}, {0, wrong}, {len(g) - 1, wrong}, {wrong, len(g) - 1}, {wrong, wrong}, {wrong, -1}, {6, wrong}} {
				way, ok := impl.TreeWay(g, ends[0], ends[1])
				failsList(t, "TreeWay", []any{g, ends}, way, ok)
			}
		}
	}
}

// Promise 73: exchanges.
func TestPromise73AllExchanges(t *testing.T) {
	eachTree(1, 6, func(g []int) {
		codes, ok := impl.TreeExchanges(g)
		hasList(t, "TreeExchanges", g, codes, ok, exchangesByWords(len(g), codeOf(g)))
	})
}

func TestPromise73ExchangedTrees(t *testing.T) {
	eachTree(1, 5, func(g []int) {
		before := -1
		for _, code := range must(t)(impl.TreeExchanges(g)) {
			h := drawn(len(g), code)
			far, ok := impl.TreeFar(g, h)
			hasNumber(t, "TreeFar", []any{g, h}, far, ok, 1)
			if code <= before || !impl.TreeIn(h) {
				t.Fatalf("TreeExchanges of %v: %d behind %d", g, code, before)
			}
			before = code
		}
	})
}

func TestPromise73KnownExchanges(t *testing.T) {
	for _, k := range []struct {
		g     []int
		codes []int
	}{
		{one, nil}, {edge2, nil}, {way3, []int{3, 6}}, {[]int{6, 1, 1}, []int{5, 6}}, {[]int{4, 4, 3}, []int{3, 5}},
		{way4, []int{13, 21, 35, 38, 41, 44, 49}}, {[]int{14, 1, 1, 1}, []int{13, 14, 19, 26, 35, 41}},
	} {
		codes, ok := impl.TreeExchanges(k.g)
		hasList(t, "TreeExchanges", k.g, codes, ok, k.codes)
	}
}

// Promise 74: first trees of all graphs.
func TestPromise74AllGraphs(t *testing.T) {
	eachGraph(6, func(g []int, code int) {
		first, ok := impl.TreeFirst(g)
		if !linkedBySteps(g) {
			failsNumber(t, "TreeFirst", g, first, ok)
			return
		}
		hasNumber(t, "TreeFirst", g, first, ok, firstByWords(len(g), code))
		if h := must(t)(impl.GraphOf(len(g), first)); !impl.TreeIn(h) || first&^code != 0 {
			t.Fatalf("TreeFirst of %v: %d", g, first)
		}
	})
}

func TestPromise74KnownFirstTrees(t *testing.T) {
	for _, k := range []struct {
		g    []int
		code int
	}{
		{one, 0}, {edge2, 1}, {way3, 5}, {ring3, 3}, {full4, 11}, {[]int{10, 5, 10, 5}, 13}, {pan4, 35}, {kite, 11}, {ring5, 101}, {full5, 75}, {bowtie, 291}, {twoThree, 78}, {full6, 1099}, {ring6, 1573},
	} {
		code, ok := impl.TreeFirst(k.g)
		hasNumber(t, "TreeFirst", k.g, code, ok, k.code)
	}
	for _, g := range [][]int{{0, 0}, none4, none6, edgeAlone, edgeTwo, edges22, ring3edge, ring4, rings33, {6, 5, 3, 0}} {
		code, ok := impl.TreeFirst(g)
		failsNumber(t, "TreeFirst", g, code, ok)
	}
}

// wantFar checks how far two trees are from each other.
func wantFar(t *testing.T, g []int, h []int) {
	t.Helper()
	want := sizeOf(codeOf(g) &^ codeOf(h))
	far, ok := impl.TreeFar(g, h)
	hasNumber(t, "TreeFar", []any{g, h}, far, ok, want)
	back, ok := impl.TreeFar(h, g)
	hasNumber(t, "TreeFar", []any{h, g}, back, ok, want)
	if far >= len(g) || (far == 0) != slices.Equal(g, h) {
		t.Fatalf("TreeFar of %v and %v: %d", g, h, far)
	}
}

// Promise 75: trees that are far from each other.
func TestPromise75AllPairs(t *testing.T) {
	for n := 1; n <= 5; n++ {
		eachTree(n, n, func(g []int) {
			eachTree(n, n, func(h []int) { wantFar(t, g, h) })
		})
	}
	for _, g := range leastTrees(6) {
		eachTree(6, 6, func(h []int) { wantFar(t, g, h) })
	}
}

// fewestExchanges returns for each code of a tree how many exchanges lead to it from one.
func fewestExchanges(n int, code int) map[int]int {
	fewest := map[int]int{code: 0}
	for reached := []int{code}; len(reached) > 0; reached = reached[1:] {
		for _, next := range exchangesByWords(n, reached[0]) {
			if _, ok := fewest[next]; !ok {
				fewest[next] = fewest[reached[0]] + 1
				reached = append(reached, next)
			}
		}
	}
	return fewest
}

func TestPromise75FewestExchanges(t *testing.T) {
	for n := 1; n <= 6; n++ {
		for _, g := range leastTrees(n) {
			fewest := fewestExchanges(n, codeOf(g))
			eachTree(n, n, func(h []int) {
				far, ok := impl.TreeFar(g, h)
				hasNumber(t, "TreeFar", []any{g, h}, far, ok, fewest[codeOf(h)])
			})
		}
	}
}

func TestPromise75KnownFar(t *testing.T) {
	for _, k := range []struct {
		g, h []int
		far  int
	}{
		{one, one, 0}, {edge2, edge2, 0}, {way3, way3, 0}, {way3, []int{6, 1, 1}, 1}, {way4, otherOf(way4), 3}, {way4, []int{14, 1, 1, 1}, 2}, {way5, star5, 3}, {way6, star6, 4}, {way6, twice6, 2}, {broom6, way6, 2}, {broom6, star6, 4}, {way6, []int{4, 24, 17, 34, 6, 8}, 5}, {star6, []int{2, 61, 2, 2, 2, 2}, 4},
	} {
		far, ok := impl.TreeFar(k.g, k.h)
		hasNumber(t, "TreeFar", []any{k.g, k.h}, far, ok, k.far)
	}
}

func TestPromise75OtherNumbersOfNodes(t *testing.T) {
	for _, g := range trees {
		for _, h := range trees {
			if len(g) != len(h) {
				failsFar(t, g, h)
			}
		}
	}
}

// wantToldApart checks that colours tell two trees apart just if they are not alike.
func wantToldApart(t *testing.T, g []int, h []int) {
	t.Helper()
	mustNumber(t)(impl.TreeFar(g, h))
	want := classOf(g) == classOf(h)
	if impl.FineSame(g, h) != want || impl.AlikeIn(g, h) != want {
		t.Fatalf("FineSame of the trees %v and %v: %v, AlikeIn %v", g, h, impl.FineSame(g, h), impl.AlikeIn(g, h))
	}
}

// Promise 76: colours tell trees apart.
func TestPromise76TreesAndColours(t *testing.T) {
	for n := 1; n <= 6; n++ {
		for _, g := range leastTrees(n) {
			eachTree(n, n, func(h []int) { wantToldApart(t, g, h) })
			eachTree(n, min(n, 5), func(h []int) { wantToldApart(t, h, renamed(g, backwards(n))) })
		}
	}
}

// Promise 77: the middle of the tree with its nodes called backwards.
func TestPromise77MiddleBackwards(t *testing.T) {
	eachTree(1, 6, func(g []int) {
		n := len(g)
		set := mustNumber(t)(impl.TreeMiddle(g))
		turned := must(t)(impl.GraphNamed(g, backwards(n)))
		back, ok := impl.TreeMiddle(turned)
		hasNumber(t, "TreeMiddle", turned, back, ok, int(bits.Reverse8(uint8(set))>>(8-n)))
	})
}

// Lists share no memory with arguments or earlier results, and arguments stay as they are.
func TestTreesMemoryIsNotShared(t *testing.T) {
	for i, tree := range trees {
		g, h, n := roomy(tree), roomy(trees[len(trees)-1-i]), len(tree)
		calls := map[string]func() ([]int, bool){
			"TreeExchanges": func() ([]int, bool) { return impl.TreeExchanges(g) },
		}
		for v := range tree {
			calls[fmt.Sprint("TreeWay to ", v)] = func() ([]int, bool) { return impl.TreeWay(g, 0, v) }
		}
		if n > 1 {
			written := lettersByWords(tree)
			letters := roomy(written)
			calls["TreeLetters"] = func() ([]int, bool) { return impl.TreeLetters(g) }
			calls["TreeFrom"] = func() ([]int, bool) { return impl.TreeFrom(n, letters) }
			defer func() { wantAsBefore(t, letters, written) }()
		}
		wantOwnMemory(t, calls)
		impl.TreeIn(g)
		impl.TreeMiddle(g)
		impl.TreeWay(g, n, -1)
		impl.TreeFirst(g)
		impl.TreeFar(g, g)
		impl.TreeFar(g, h)
		wantAsBefore(t, g, tree)
		wantAsBefore(t, h, trees[len(trees)-1-i])
	}
	for _, list := range [][]int{{0}, {1, 1}, {2, 1, 1}, {3, 2, 2, 1, 1, 1}, {7, -1}} {
		d := roomy(list)
		impl.TreeDegrees(d)
		wantAsBefore(t, d, list)
	}
	for _, list := range noGraphs() {
		g := roomy(list)
		failsTree(t, g)
		impl.TreeFirst(g)
		impl.TreeFrom(len(g)+2, g)
		wantAsBefore(t, g, list)
	}
}
