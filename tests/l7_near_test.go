package tests

import (
	"fmt"
	"math/bits"
	"slices"
	"testing"

	"loop.example/graphpieces/impl"
)

// Some more graphs by name: a graph of six nodes without likeness to itself but the plain
// one, two nodes beside an edge, two rings of three with one node in common, and a ring of
// four with an edge across.
var (
	noneLike6 = []int{2, 37, 42, 20, 8, 6}
	edgeTwo   = []int{2, 1, 0, 0}
	bowtie    = []int{6, 5, 27, 20, 12}
	kite      = []int{14, 5, 11, 5}
)

// callings has a graph with its codes under some lists of names.
type callings struct {
	g     []int
	all   [][]int
	codes []int
}

func callingsOf(g []int, all [][]int) callings {
	c := callings{g: g, all: all}
	for _, p := range all {
		c.codes = append(c.codes, codeOf(renamed(g, p)))
	}
	return c
}

// nearestTo tries all names: it returns the fewest pairs in which the graph and another
// one differ, and the first names by which they differ in so many.
func (c callings) nearestTo(h []int) (int, []int) {
	fewest, names := most, []int(nil)
	code := codeOf(h)
	for i, called := range c.codes {
		if pairs := unlikePairs(called, code); pairs < fewest {
			fewest, names = pairs, c.all[i]
		}
	}
	return fewest, names
}

// unlikePairs returns the number of pairs in which the graphs with two codes differ.
func unlikePairs(code int, other int) int {
	return bits.OnesCount(uint(code ^ other))
}

// wantDistance checks all that promise 49 says of two graphs.
func wantDistance(t *testing.T, g []int, h []int, want int) {
	t.Helper()
	near, ok := impl.NearLeast(g, h)
	hasNumber(t, "NearLeast", []any{g, h}, near, ok, want)
	near, ok = impl.NearLeast(h, g)
	hasNumber(t, "NearLeast", []any{h, g}, near, ok, want)
	near, ok = impl.NearLeast(otherOf(g), otherOf(h))
	hasNumber(t, "NearLeast of the other pairs", []any{g, h}, near, ok, want)
	if (near == 0) != impl.AlikeIn(g, h) {
		t.Fatalf("NearLeast of %v and %v: %d", g, h, near)
	}
	if more := edgesOf(g) - edgesOf(h); near < more || near < -more {
		t.Fatalf("NearLeast of %v and %v: %d", g, h, near)
	}
}

// wantNames checks all that promise 50 says of two graphs.
func wantNames(t *testing.T, g []int, h []int, want []int) {
	t.Helper()
	names, ok := impl.NearNames(g, h)
	hasList(t, "NearNames", []any{g, h}, names, ok, want)
	named := must(t)(impl.GraphNamed(g, names))
	near := mustNumber(t)(impl.NearLeast(g, h))
	if codeOf(renamed(g, names)) != codeOf(named) || unlikePairs(codeOf(named), codeOf(h)) != near {
		t.Fatalf("NearNames of %v and %v: %v, but they differ in %d pairs", g, h, names, near)
	}
}

// wantNear checks promises 49 and 50 by trying all names.
func wantNear(t *testing.T, c callings, h []int) {
	t.Helper()
	distance, names := c.nearestTo(h)
	wantDistance(t, c.g, h, distance)
	wantNames(t, c.g, h, names)
}

// Promises 49 and 50: the distance, and the first names that come so near.
func TestPromises49And50SmallGraphs(t *testing.T) {
	eachGraph(4, func(g []int, _ int) {
		c := callingsOf(g, ordered(len(g)))
		for code := range codeCount(len(g)) {
			wantNear(t, c, drawn(len(g), code))
		}
	})
}

func TestPromises49And50FiveNodes(t *testing.T) {
	all := ordered(5)
	for _, code := range leastOnes(5) {
		c := callingsOf(drawn(5, code), all)
		for other := range codeCount(5) {
			wantNear(t, c, drawn(5, other))
		}
	}
}

func TestPromises49And50MostNodes(t *testing.T) {
	all, ones := ordered(6), leastOnes(6)
	for i, code := range ones {
		c := callingsOf(renamed(drawn(6, code), []int{3, 5, 1, 0, 2, 4}), all)
		for j := range 8 {
			wantNear(t, c, drawn(6, ones[(i*37+j*19)%len(ones)]))
			wantNear(t, c, renamed(drawn(6, ones[(i*5+j*31)%len(ones)]), backwards(6)))
		}
	}
}

// A graph and itself have no distance, and the names as they are come first.
func TestPromises49And50AGraphAndItself(t *testing.T) {
	eachGraph(6, func(g []int, _ int) {
		near, ok := impl.NearLeast(g, g)
		hasNumber(t, "NearLeast", []any{g, g}, near, ok, 0)
		names, ok := impl.NearNames(g, g)
		hasList(t, "NearNames", []any{g, g}, names, ok, []int{0, 1, 2, 3, 4, 5}[:len(g)])
	})
}

// Between graphs that are alike there is no distance, and the names are those that make
// the first one the second one.
func TestPromises49And50GraphsThatAreAlike(t *testing.T) {
	eachKind(func(g []int) {
		for _, h := range [][]int{drawn(len(g), classOf(g).least), renamed(g, backwards(len(g)))} {
			wantDistance(t, g, h, 0)
			wantNames(t, g, h, must(t)(impl.AlikeFirst(g, h)))
			wantNames(t, h, g, must(t)(impl.AlikeFirst(h, g)))
		}
	})
}

// From no edges and from all pairs each edge and each other pair counts, under all names.
func TestPromises49And50NoEdgesAndAllPairs(t *testing.T) {
	eachKind(func(g []int) {
		none, full := drawn(len(g), 0), drawn(len(g), codeCount(len(g))-1)
		edges, first := edgesOf(g), []int{0, 1, 2, 3, 4, 5}[:len(g)]
		wantDistance(t, g, none, edges)
		wantDistance(t, g, full, pairCount(len(g))-edges)
		wantNames(t, g, none, first)
		wantNames(t, full, g, first)
	})
}

func TestPromise49KnownDistances(t *testing.T) {
	for _, k := range []counts{
		{one, one, 0}, {edge2, edge2, 0}, {edge2, []int{0, 0}, 1}, {way3, ring3, 1}, {way3, edgeAlone, 1}, {way3, []int{0, 0, 0}, 2}, {way3, []int{6, 1, 1}, 0},
		{ring3, []int{0, 0, 0}, 3}, {way4, edges22, 1}, {way4, full4, 3}, {way4, []int{14, 1, 1, 1}, 2}, {way4, otherOf(way4), 0}, {edges22, []int{10, 5, 10, 5}, 2}, {edges22, otherOf(edges22), 2},
		{kite, full4, 1}, {kite, edges22, 3}, {full4, none4, 6}, {ring5, otherOf(ring5), 0}, {ring5, way5, 1}, {ring5, ring3edge, 3}, {ring5, bowtie, 3}, {star5, ring4, 4}, {star5, way5, 4},
		{ring6, rings33, 4}, {ring6, prism, 3}, {rings33, prism, 3}, {ring6, full6, 9}, {full6, none6, 15}, {prism, otherOf(ring6), 0}, {prism, otherOf(rings33), 4},
	} {
		wantDistance(t, k.h, k.g, k.count)
	}
}

func TestPromise50KnownNames(t *testing.T) {
	for _, k := range []struct{ g, h, names []int }{
		{one, one, []int{0}}, {edge2, []int{0, 0}, []int{0, 1}}, {[]int{0, 0}, edge2, []int{0, 1}}, {way3, ring3, []int{0, 1, 2}}, {ring3, way3, []int{0, 1, 2}},
		{way3, []int{6, 1, 1}, []int{1, 0, 2}}, {[]int{4, 0, 1}, edgeAlone, []int{0, 2, 1}}, {edgeAlone, []int{0, 4, 2}, []int{1, 2, 0}}, {edgeAlone, way3, []int{0, 1, 2}}, {way3, []int{0, 4, 2}, []int{0, 1, 2}}, {star5, way5, []int{1, 0, 2, 3, 4}},
		{edges22, []int{4, 8, 1, 2}, []int{0, 2, 1, 3}}, {way4, []int{4, 8, 9, 6}, []int{0, 2, 3, 1}}, {full6, none6, []int{0, 1, 2, 3, 4, 5}},
	} {
		wantNames(t, k.g, k.h, k.names)
	}
}

// Graphs of other numbers of nodes have no distance.
func TestPromises49And50OtherNumbersOfNodes(t *testing.T) {
	all := append(ones(5), hosts...)
	for _, g := range all {
		for _, h := range all {
			if len(g) == len(h) {
				continue
			}
			near, ok := impl.NearLeast(g, h)
			failsNumber(t, "NearLeast", []any{g, h}, near, ok)
			names, ok := impl.NearNames(g, h)
			failsList(t, "NearNames", []any{g, h}, names, ok)
		}
	}
}

func TestPromises49And50InvalidGraphs(t *testing.T) {
	fails := func(g []int, h []int) {
		near, ok := impl.NearLeast(g, h)
		failsNumber(t, "NearLeast", []any{g, h}, near, ok)
		names, ok := impl.NearNames(g, h)
		failsList(t, "NearNames", []any{g, h}, names, ok)
	}
	for _, wrong := range noGraphs() {
		fails(wrong, wrong)
		for _, g := range append(hosts, make([]int, max(1, min(6, len(wrong))))) {
			fails(wrong, g)
			fails(g, wrong)
		}
	}
}

// switchedByWords returns the graph switched at a set: each pair with one node in the set
// and one outside is an edge just where it was none.
func switchedByWords(g []int, set int) []int {
	code := codeOf(g)
	for place, pair := range pairOrder[:pairCount(len(g))] {
		if set>>pair[0]&1 != set>>pair[1]&1 {
			code ^= 1 << place
		}
	}
	return drawn(len(g), code)
}

// oddThrees counts the sets of three nodes with an odd number of edges.
func oddThrees(g []int) int {
	count := 0
	for _, nodes := range setsOf(len(g), 3) {
		count += edgesOf(partOf(g, nodes)) % 2
	}
	return count
}

// wantSwitched checks all that promise 51 says of a graph and a set.
func wantSwitched(t *testing.T, g []int, set int) {
	t.Helper()
	h, ok := impl.NearSwitched(g, set)
	hasList(t, "NearSwitched", []any{g, set}, h, ok, switchedByWords(g, set))
	wantGraph(t, "NearSwitched", h)
	back, ok := impl.NearSwitched(h, set)
	hasList(t, "NearSwitched twice", []any{g, set}, back, ok, g)
	if oddThrees(h) != oddThrees(g) {
		t.Fatalf("NearSwitched of %v and %d: %v has other odd sets of three", g, set, h)
	}
}

// Promise 51: graphs that are switched.
func TestPromise51AllSets(t *testing.T) {
	eachKind(func(g []int) {
		for set := range 1 << len(g) {
			wantSwitched(t, g, set)
			rest := 1<<len(g) - 1 - set
			h, ok := impl.NearSwitched(g, rest)
			hasList(t, "NearSwitched at all other nodes", []any{g, rest}, h, ok, switchedByWords(g, set))
		}
	})
}

func TestPromise51NoNodesAndAllNodes(t *testing.T) {
	eachGraph(6, func(g []int, _ int) {
		for _, set := range []int{0, 1<<len(g) - 1} {
			h, ok := impl.NearSwitched(g, set)
			hasList(t, "NearSwitched", []any{g, set}, h, ok, g)
		}
	})
}

func TestPromise51KnownGraphs(t *testing.T) {
	for _, k := range []struct {
		g    []int
		set  int
		want []int
	}{
		{one, 0, one}, {one, 1, one}, {edge2, 1, []int{0, 0}}, {edge2, 2, []int{0, 0}}, {[]int{0, 0}, 2, edge2}, {edge2, 3, edge2}, {[]int{0, 0, 0}, 1, []int{6, 1, 1}}, {[]int{0, 0, 0}, 6, []int{6, 1, 1}},
		{way3, 2, []int{0, 0, 0}}, {way3, 1, []int{4, 4, 3}}, {ring3, 4, edgeAlone}, {none4, 3, []int{12, 12, 3, 3}}, {none4, 8, []int{8, 8, 8, 7}}, {full4, 5, []int{4, 8, 1, 2}},
		{ring5, 31, ring5}, {ring5, 1, []int{12, 4, 11, 21, 8}}, {full6, 7, rings33}, {none6, 32, []int{32, 32, 32, 32, 32, 31}}, {rings33, 7, full6}, {none6, 63, none6},
	} {
		h, ok := impl.NearSwitched(k.g, k.set)
		hasList(t, "NearSwitched", []any{k.g, k.set}, h, ok, k.want)
	}
}

func TestPromise51NoSets(t *testing.T) {
	eachKind(func(g []int) {
		for _, set := range append(noSets(len(g)), 1<<len(g)|1, 1<<(len(g)+1), 64, 127, -1<<len(g), least+1) {
			h, ok := impl.NearSwitched(g, set)
			failsList(t, "NearSwitched", []any{g, set}, h, ok)
		}
	})
}

func TestPromise51InvalidGraphs(t *testing.T) {
	for _, g := range noGraphs() {
		for _, set := range []int{0, 1, 2, 3, 63, 64, -1, least, most} {
			h, ok := impl.NearSwitched(g, set)
			failsList(t, "NearSwitched", []any{g, set}, h, ok)
		}
	}
}

// switchLeastByWords returns the least of the least codes of a graph switched at all sets.
func switchLeastByWords(g []int) int {
	best := most
	for set := range 1 << len(g) {
		best = min(best, classOf(switchedByWords(g, set)).least)
	}
	return best
}

// wantSwitchLeast checks what NearSwitchLeast returns for a graph switched at some sets.
func wantSwitchLeast(t *testing.T, g []int, sets []int) {
	t.Helper()
	want := switchLeastByWords(g)
	for _, set := range sets {
		h := must(t)(impl.NearSwitched(g, set))
		code, ok := impl.NearSwitchLeast(h)
		hasNumber(t, "NearSwitchLeast of the graph switched", []any{g, set}, code, ok, want)
		if code > mustNumber(t)(impl.AlikeLeast(h)) {
			t.Fatalf("NearSwitchLeast of %v: %d", h, code)
		}
	}
}

// Promise 52: the least code of all switched graphs.
func TestPromise52SwitchedGraphs(t *testing.T) {
	eachKind(func(g []int) { wantSwitchLeast(t, g, []int{0, 1, 1 << (len(g) - 1)}) })
}

func TestPromise52SwitchedAtAllSets(t *testing.T) {
	for _, g := range append(ones(5), hosts...) {
		var sets []int
		for set := range 1 << len(g) {
			sets = append(sets, set)
		}
		wantSwitchLeast(t, g, sets)
	}
}

// By switching, the graphs of 1, 2 and so on nodes fall, but for names, into 1, 1, 2, 3, 7
// and 16 classes.
func TestPromise52HowManyThereAre(t *testing.T) {
	for n, want := range map[int]int{1: 1, 2: 1, 3: 2, 4: 3, 5: 7, 6: 16} {
		found := map[int]bool{}
		for _, code := range leastOnes(n) {
			found[mustNumber(t)(impl.NearSwitchLeast(drawn(n, code)))] = true
		}
		if len(found) != want {
			t.Errorf("of %d nodes there are %d least codes of switched graphs, not %d", n, len(found), want)
		}
	}
}

func TestPromise52KnownCodes(t *testing.T) {
	for _, k := range []struct {
		g    []int
		code int
	}{
		{one, 0}, {edge2, 0}, {[]int{0, 0}, 0}, {way3, 0}, {[]int{0, 0, 0}, 0}, {ring3, 1}, {edgeAlone, 1}, {none4, 0}, {full4, 7}, {way4, 1}, {edges22, 7}, {kite, 1},
		{ring5, 13}, {full5, 63}, {star5, 0}, {full6, 1023}, {none6, 0}, {rings33, 1023}, {noneLike6, 117},
	} {
		code, ok := impl.NearSwitchLeast(k.g)
		hasNumber(t, "NearSwitchLeast", k.g, code, ok, k.code)
	}
}

// twinsByWords reports whether two nodes have the same neighbours, each other not counted.
func twinsByWords(g []int, v int, w int) bool {
	for x := range g {
		if x != v && x != w && g[v]>>x&1 != g[w]>>x&1 {
			return false
		}
	}
	return true
}

// twinBlocksByWords puts each node into the block of a twin ahead of it, or a new one.
func twinBlocksByWords(g []int) []int {
	var list, first []int
	for v := range g {
		place := slices.IndexFunc(first, func(w int) bool { return twinsByWords(g, v, w) })
		if place < 0 {
			list, first = append(list, 1<<v), append(first, v)
		} else {
			list[place] |= 1 << v
		}
	}
	return list
}

// wantTwins checks all that promise 53 says of a graph.
func wantTwins(t *testing.T, g []int, want []int) {
	t.Helper()
	list, ok := impl.NearTwins(g)
	hasList(t, "NearTwins", g, list, ok, want)
	all, same := 0, mustNumber(t)(impl.AlikeSame(g))
	for _, block := range list {
		size := len(nodesOf(block, len(g)))
		if block&all != 0 || size == 0 || same%factorials[size] != 0 {
			t.Fatalf("NearTwins of %v: %v", g, list)
		}
		all |= block
	}
	if all != 1<<len(g)-1 {
		t.Fatalf("NearTwins of %v: %v", g, list)
	}
	list, ok = impl.NearTwins(must(t)(impl.GraphOther(g)))
	hasList(t, "NearTwins of the other pairs", g, list, ok, want)
}

// Promise 53: the blocks of twins.
func TestPromise53AllGraphs(t *testing.T) {
	eachGraph(6, func(g []int, _ int) {
		wantTwins(t, g, twinBlocksByWords(g))
	})
}

// Each block has all twins of each of its nodes, and no other nodes.
func TestPromise53AllTwins(t *testing.T) {
	eachKind(func(g []int) {
		blockOf := make([]int, len(g))
		for _, block := range must(t)(impl.NearTwins(g)) {
			for _, v := range nodesOf(block, len(g)) {
				blockOf[v] = block
			}
		}
		for v := range g {
			for w := range g {
				if (blockOf[v]>>w&1 == 1) != twinsByWords(g, v, w) {
					t.Fatalf("NearTwins of %v: the node %d has the block %d", g, v, blockOf[v])
				}
			}
		}
	})
}

func TestPromise53KnownBlocks(t *testing.T) {
	for _, k := range []struct{ g, blocks []int }{
		{one, []int{1}}, {edge2, []int{3}}, {[]int{0, 0}, []int{3}}, {[]int{0, 0, 0}, []int{7}}, {none4, []int{15}}, {none6, []int{63}}, {ring3, []int{7}}, {full4, []int{15}}, {full5, []int{31}}, {full6, []int{63}},
		// Without twins.
		{way4, []int{1, 2, 4, 8}}, {ring5, []int{1, 2, 4, 8, 16}}, {ring6, []int{1, 2, 4, 8, 16, 32}}, {prism, []int{1, 2, 4, 8, 16, 32}}, {noneLike6, []int{1, 2, 4, 8, 16, 32}},
		// Twins that are no neighbours, twins that are, and both.
		{way3, []int{5, 2}}, {star5, []int{1, 30}}, {[]int{10, 5, 10, 5}, []int{5, 10}}, {ring4, []int{5, 10, 16}}, {edgeAlone, []int{3, 4}}, {edges22, []int{3, 12}}, {rings33, []int{7, 56}}, {ring3edge, []int{7, 24}},
		{bowtie, []int{3, 4, 24}}, {edgeTwo, []int{3, 12}}, {kite, []int{5, 10}}, {way5, []int{1, 2, 4, 8, 16}}, {[]int{6, 5, 3, 0, 0, 0}, []int{7, 56}}, {[]int{32, 16, 32, 16, 10, 5}, []int{5, 10, 16, 32}},
		{[]int{40, 52, 50, 33, 38, 31}, []int{9, 22, 32}},
	} {
		wantTwins(t, k.g, k.blocks)
	}
}

// Promise 54: graphs that are alike to themselves in one way alone.
func TestPromise54AllGraphs(t *testing.T) {
	eachGraph(6, func(g []int, _ int) {
		if got, want := impl.NearNone(g), classOf(g).same == 1; got != want {
			t.Fatalf("NearNone of %v is %v", g, got)
		}
	})
}

func TestPromise54WhatFollows(t *testing.T) {
	kinds := 0
	for n := 1; n <= 6; n++ {
		for _, code := range leastOnes(n) {
			g := drawn(n, code)
			if !impl.NearNone(g) {
				continue
			}
			kinds++
			orbits, ok := impl.AlikeOrbits(g)
			hasList(t, "AlikeOrbits", g, orbits, ok, []int{1, 2, 4, 8, 16, 32}[:n])
			same, ok := impl.AlikeSame(g)
			hasNumber(t, "AlikeSame", g, same, ok, 1)
			if n > 1 && n < 6 {
				t.Errorf("NearNone holds for %v", g)
			}
		}
	}
	// Of six nodes there are eight such graphs but for names.
	if kinds != 1+8 {
		t.Errorf("NearNone holds for %d kinds of graphs", kinds)
	}
}

func TestPromise54KnownGraphs(t *testing.T) {
	for _, g := range [][]int{one, noneLike6, otherOf(noneLike6), renamed(noneLike6, backwards(6)), {44, 20, 11, 5, 2, 1}} {
		if !impl.NearNone(g) {
			t.Errorf("NearNone does not hold for %v", g)
		}
	}
	for _, g := range [][]int{{0, 0}, edge2, way3, ring3, edgeAlone, {0, 0, 0}, way4, edges22, full4, none4, kite, way5, ring5, star5, bowtie, ring3edge, full5, ring6, rings33, prism, full6, none6} {
		if impl.NearNone(g) {
			t.Errorf("NearNone holds for %v", g)
		}
	}
}

func TestPromises52To54InvalidGraphs(t *testing.T) {
	for _, g := range noGraphs() {
		code, ok := impl.NearSwitchLeast(g)
		failsNumber(t, "NearSwitchLeast", g, code, ok)
		list, ok := impl.NearTwins(g)
		failsList(t, "NearTwins", g, list, ok)
		if impl.NearNone(g) {
			t.Errorf("NearNone holds for %v, which is no graph", g)
		}
	}
}

// Results share no memory with arguments or earlier results, and arguments stay as they are.
func TestNearMemoryIsNotShared(t *testing.T) {
	for _, k := range [][2][]int{{one, one}, {way4, full4}, {ring5, way5}, {ring6, rings33}, {noneLike6, none6}} {
		g, h := roomy(k[0]), roomy(k[1])
		calls := map[string]func() ([]int, bool){
			"NearNames":           func() ([]int, bool) { return impl.NearNames(g, h) },
			"NearNames of itself": func() ([]int, bool) { return impl.NearNames(g, g) },
			"NearTwins":           func() ([]int, bool) { return impl.NearTwins(g) },
		}
		for set := range 1 << len(g) {
			calls[fmt.Sprint("NearSwitched at ", set)] = func() ([]int, bool) { return impl.NearSwitched(g, set) }
		}
		wantOwnMemory(t, calls)
		impl.NearLeast(g, h)
		impl.NearLeast(g, g)
		impl.NearSwitched(g, -1)
		impl.NearSwitchLeast(g)
		impl.NearNone(g)
		wantAsBefore(t, g, k[0])
		wantAsBefore(t, h, k[1])
	}
}
