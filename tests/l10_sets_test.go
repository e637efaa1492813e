package tests

import (
	"slices"
	"testing"

	"loop.example/graphpieces/impl"
)

// A way of four nodes whose names in order have more greedy colours than needed.
var crossed4 = []int{4, 8, 9, 6}

// numberOfSet are the functions that tell a number of a graph, for each graph.
var numberOfSet = []struct {
	name string
	tell func(g []int) (int, bool)
}{
	{"SetFree", impl.SetFree},
	{"SetFull", impl.SetFull},
	{"SetCover", impl.SetCover},
	{"SetWatch", impl.SetWatch},
	{"SetMatch", impl.SetMatch},
	{"SetColours", impl.SetColours},
}

// edgesAmong counts the edges that join two of some nodes.
func edgesAmong(g []int, nodes []int) int {
	return edgesOf(partOf(g, nodes))
}

// without returns all nodes of a graph that are not among some.
func without(g []int, nodes []int) []int {
	return slices.DeleteFunc(nodesOf(1<<len(g)-1, len(g)), func(v int) bool {
		return slices.Contains(nodes, v)
	})
}

func freeByWords(g []int, nodes []int) bool {
	return edgesAmong(g, nodes) == 0
}

func fullByWords(g []int, nodes []int) bool {
	return edgesAmong(g, nodes) == pairCount(len(nodes))
}

func coverByWords(g []int, nodes []int) bool {
	for place, pair := range pairOrder[:pairCount(len(g))] {
		if codeOf(g)>>place&1 == 1 && !slices.Contains(nodes, pair[0]) && !slices.Contains(nodes, pair[1]) {
			return false
		}
	}
	return true
}

func watchingByWords(g []int, nodes []int) bool {
	return !slices.ContainsFunc(without(g, nodes), func(v int) bool {
		return !slices.ContainsFunc(nodes, func(w int) bool { return g[w]>>v&1 == 1 })
	})
}

// nodesOfEdges returns how many edges of a set each node has.
func nodesOfEdges(g []int, set int) []int {
	times := make([]int, len(g))
	for _, place := range nodesOf(set, pairCount(len(g))) {
		times[pairOrder[place][0]]++
		times[pairOrder[place][1]]++
	}
	return times
}

// setCounts returns how many sets of 0, 1 and so on nodes fit.
func setCounts(g []int, fits func(g []int, nodes []int) bool) []int {
	counts := make([]int, len(g)+1)
	for size := range counts {
		for _, nodes := range setsOf(len(g), size) {
			if fits(g, nodes) {
				counts[size]++
			}
		}
	}
	return counts
}

// firstSize and lastSize return the least and the greatest size that has sets, or -1.
func firstSize(counts []int) int {
	return slices.IndexFunc(counts, func(count int) bool { return count > 0 })
}

func lastSize(counts []int) int {
	for size, count := range slices.Backward(counts) {
		if count > 0 {
			return size
		}
	}
	return -1
}

// edgeCounts returns how many sets of 0, 1 and so on edges fit, by how many of them each
// node has.
func edgeCounts(g []int, fits func(times int) bool) []int {
	counts := make([]int, edgesOf(g)+1)
	for _, set := range edgeSets(g) {
		if !slices.ContainsFunc(nodesOfEdges(g, set), func(times int) bool { return !fits(times) }) {
			counts[sizeOf(set)]++
		}
	}
	return counts
}

// fewestColours returns the least number of colours for which some list of them serves.
func fewestColours(g []int) int {
	for k := 1; ; k++ {
		if paintable(g, nil, k) {
			return k
		}
	}
}

// paintable reports whether a list of colours can be gone on with, with k colours.
func paintable(g []int, begun []int, k int) bool {
	if len(begun) == len(g) {
		return true
	}
	for colour := range k {
		fits := true
		for v, other := range begun {
			fits = fits && (other != colour || g[v]>>len(begun)&1 == 0)
		}
		if fits && paintable(g, append(slices.Clone(begun), colour), k) {
			return true
		}
	}
	return false
}

// greedyByWords gives each node in turn the least colour that no neighbour has so far.
func greedyByWords(g []int, p []int) []int {
	colours := slices.Repeat([]int{-1}, len(g))
	for _, v := range p {
		var taken []int
		for w := range g {
			if g[v]>>w&1 == 1 {
				taken = append(taken, colours[w])
			}
		}
		colour := 0
		for slices.Contains(taken, colour) {
			colour++
		}
		colours[v] = colour
	}
	return colours
}

// bestByWords returns the first of all names whose greedy colours are the fewest.
func bestByWords(g []int, all [][]int) []int {
	number := fewestColours(g)
	for _, p := range all {
		if slices.Max(greedyByWords(g, p)) < number {
			return p
		}
	}
	return nil
}

// hasNeighbours reports whether each node of a graph has a neighbour.
func hasNeighbours(g []int) bool {
	return !slices.Contains(g, 0)
}

// failsLines checks that SetLines fails for a list.
func failsLines(t *testing.T, g []int) {
	t.Helper()
	count, ok := impl.SetLines(g)
	failsNumber(t, "SetLines", g, count, ok)
}

// failsGreedy checks that SetGreedy fails for two lists.
func failsGreedy(t *testing.T, g []int, p []int) {
	t.Helper()
	colours, ok := impl.SetGreedy(g, p)
	failsList(t, "SetGreedy", []any{g, p}, colours, ok)
}

// failsSets checks that all functions of the chapter fail for a list.
func failsSets(t *testing.T, g []int) {
	t.Helper()
	for _, f := range numberOfSet {
		count, ok := f.tell(g)
		failsNumber(t, f.name, g, count, ok)
	}
	failsLines(t, g)
	list, ok := impl.SetCounts(g)
	failsList(t, "SetCounts", g, list, ok)
	list, ok = impl.SetBest(g)
	failsList(t, "SetBest", g, list, ok)
	for n := range 8 {
		failsGreedy(t, g, backwards(n))
	}
	failsGreedy(t, g, backwards(len(g)))
	failsGreedy(t, g, g)
}

func TestPromises78To89NoGraphs(t *testing.T) {
	for _, g := range noGraphs() {
		failsSets(t, g)
	}
}

// knownSets are graphs whose numbers were found by hand; lines is -1 where it fails.
var knownSets = []struct {
	g                                              []int
	free, full, cover, watch, match, lines, colour int
	counts, best                                   []int
}{
	{one, 1, 1, 0, 1, 0, -1, 1, []int{1, 1}, []int{0}},
	{edge2, 1, 2, 1, 1, 1, 1, 2, []int{1, 2}, []int{0, 1}},
	{[]int{0, 0}, 2, 1, 0, 2, 0, -1, 1, []int{1, 2, 1}, []int{0, 1}},
	{[]int{0, 0, 0}, 3, 1, 0, 3, 0, -1, 1, []int{1, 3, 3, 1}, []int{0, 1, 2}},
	{edgeAlone, 2, 2, 1, 2, 1, -1, 2, []int{1, 3, 2}, []int{0, 1, 2}},
	{way3, 2, 2, 1, 1, 1, 2, 2, []int{1, 3, 1}, []int{0, 1, 2}},
	{ring3, 1, 3, 2, 1, 1, 2, 3, []int{1, 3}, []int{0, 1, 2}},
	{none4, 4, 1, 0, 4, 0, -1, 1, []int{1, 4, 6, 4, 1}, []int{0, 1, 2, 3}},
	{way4, 2, 2, 2, 2, 2, 2, 2, []int{1, 4, 3}, []int{0, 1, 2, 3}},
	{crossed4, 2, 2, 2, 2, 2, 2, 2, []int{1, 4, 3}, []int{0, 2, 3, 1}},
	{[]int{14, 1, 1, 1}, 3, 2, 1, 1, 1, 3, 2, []int{1, 4, 3, 1}, []int{0, 1, 2, 3}},
	{[]int{10, 5, 10, 5}, 2, 2, 2, 2, 2, 2, 2, []int{1, 4, 2}, []int{0, 1, 2, 3}},
	{edges22, 2, 2, 2, 2, 2, 2, 2, []int{1, 4, 4}, []int{0, 1, 2, 3}},
	{[]int{6, 5, 3, 0}, 2, 3, 2, 2, 1, -1, 3, []int{1, 4, 3}, []int{0, 1, 2, 3}},
	{pan4, 2, 3, 2, 1, 2, 2, 3, []int{1, 4, 2}, []int{0, 1, 2, 3}},
	{full4, 1, 4, 3, 1, 2, 2, 4, []int{1, 4}, []int{0, 1, 2, 3}},
	{ring5, 2, 2, 3, 2, 2, 3, 3, []int{1, 5, 5}, []int{0, 1, 2, 3, 4}},
	{way5, 3, 2, 2, 2, 2, 3, 2, []int{1, 5, 6, 1}, []int{0, 1, 2, 3, 4}},
	{star5, 4, 2, 1, 1, 1, 4, 2, []int{1, 5, 6, 4, 1}, []int{0, 1, 2, 3, 4}},
	{ring3edge, 2, 3, 3, 2, 2, 3, 3, []int{1, 5, 6}, []int{0, 1, 2, 3, 4}},
	{ring4, 3, 2, 2, 3, 2, -1, 2, []int{1, 5, 6, 2}, []int{0, 1, 2, 3, 4}},
	{bowtie, 2, 3, 3, 1, 2, 3, 3, []int{1, 5, 4}, []int{0, 1, 2, 3, 4}},
	{twoThree, 3, 2, 2, 2, 2, 3, 2, []int{1, 5, 4, 1}, []int{0, 1, 2, 3, 4}},
	{full5, 1, 5, 4, 1, 2, 3, 5, []int{1, 5}, []int{0, 1, 2, 3, 4}},
	{none6, 6, 1, 0, 6, 0, -1, 1, []int{1, 6, 15, 20, 15, 6, 1}, []int{0, 1, 2, 3, 4, 5}},
	{ring6, 3, 2, 3, 2, 3, 3, 2, []int{1, 6, 9, 2}, []int{0, 1, 2, 3, 4, 5}},
	{rings33, 2, 3, 4, 2, 2, 4, 3, []int{1, 6, 9}, []int{0, 1, 2, 3, 4, 5}},
	{way6, 3, 2, 3, 2, 3, 3, 2, []int{1, 6, 10, 4}, []int{0, 1, 2, 3, 4, 5}},
	{star6, 5, 2, 1, 1, 1, 5, 2, []int{1, 6, 10, 10, 5, 1}, []int{0, 1, 2, 3, 4, 5}},
	{prism, 2, 3, 4, 2, 3, 3, 3, []int{1, 6, 6}, []int{0, 1, 2, 3, 5, 4}},
	{full6, 1, 6, 5, 1, 3, 3, 6, []int{1, 6}, []int{0, 1, 2, 3, 4, 5}},
}

func TestPromises78To88KnownGraphs(t *testing.T) {
	for _, k := range knownSets {
		for i, want := range []int{k.free, k.full, k.cover, k.watch, k.match, k.colour} {
			count, ok := numberOfSet[i].tell(k.g)
			hasNumber(t, numberOfSet[i].name, k.g, count, ok, want)
		}
		if k.lines < 0 {
			failsLines(t, k.g)
		} else {
			count, ok := impl.SetLines(k.g)
			hasNumber(t, "SetLines", k.g, count, ok, k.lines)
		}
		counts, ok := impl.SetCounts(k.g)
		hasList(t, "SetCounts", k.g, counts, ok, k.counts)
		best, ok := impl.SetBest(k.g)
		hasList(t, "SetBest", k.g, best, ok, k.best)
	}
}

// Promise 78: free sets, full ones of the other pairs, and covers.
func TestPromise78FreeSets(t *testing.T) {
	eachKind(func(g []int) {
		free, ok := impl.SetFree(g)
		hasNumber(t, "SetFree", g, free, ok, lastSize(setCounts(g, freeByWords)))
		full, ok := impl.SetFull(must(t)(impl.GraphOther(g)))
		hasNumber(t, "SetFull of the other pairs", g, full, ok, free)
		cover, ok := impl.SetCover(g)
		hasNumber(t, "SetCover", g, cover, ok, len(g)-free)
	})
}

// Promise 79: full sets.
func TestPromise79FullSets(t *testing.T) {
	eachKind(func(g []int) {
		full, ok := impl.SetFull(g)
		hasNumber(t, "SetFull", g, full, ok, lastSize(setCounts(g, fullByWords)))
		free := mustNumber(t)(impl.SetFree(g))
		colours := mustNumber(t)(impl.SetColours(g))
		if full > colours || free*colours < len(g) {
			t.Fatalf("SetFull of %v: %d, SetFree %d, SetColours %d", g, full, free, colours)
		}
	})
}

// Promise 80: covers.
func TestPromise80Covers(t *testing.T) {
	eachKind(func(g []int) {
		cover, ok := impl.SetCover(g)
		hasNumber(t, "SetCover", g, cover, ok, firstSize(setCounts(g, coverByWords)))
		match := mustNumber(t)(impl.SetMatch(g))
		if cover < match || cover > 2*match || paintable(g, nil, 2) && cover != match {
			t.Fatalf("SetCover of %v: %d, SetMatch %d", g, cover, match)
		}
	})
}

// Promise 81: watching sets.
func TestPromise81WatchingSets(t *testing.T) {
	eachKind(func(g []int) {
		watch, ok := impl.SetWatch(g)
		hasNumber(t, "SetWatch", g, watch, ok, firstSize(setCounts(g, watchingByWords)))
		if watch > mustNumber(t)(impl.SetFree(g)) || hasNeighbours(g) && 2*watch > len(g) {
			t.Fatalf("SetWatch of %v: %d", g, watch)
		}
	})
}

// Promise 82: matchings.
func TestPromise82Matchings(t *testing.T) {
	eachKind(func(g []int) {
		match, ok := impl.SetMatch(g)
		hasNumber(t, "SetMatch", g, match, ok, lastSize(edgeCounts(g, func(times int) bool { return times <= 1 })))
		if 2*match > len(g) || (match == 0) != (edgesOf(g) == 0) {
			t.Fatalf("SetMatch of %v: %d", g, match)
		}
	})
}

// Promise 83: edges that have all nodes.
func TestPromise83Lines(t *testing.T) {
	eachKind(func(g []int) {
		if !hasNeighbours(g) {
			failsLines(t, g)
			return
		}
		lines, ok := impl.SetLines(g)
		hasNumber(t, "SetLines", g, lines, ok, firstSize(edgeCounts(g, func(times int) bool { return times >= 1 })))
		match := mustNumber(t)(impl.SetMatch(g))
		if lines+match != len(g) || lines < mustNumber(t)(impl.SetFree(g)) {
			t.Fatalf("SetLines of %v: %d, SetMatch %d", g, lines, match)
		}
	})
}

// Wherever a node without neighbours is put in, SetLines fails.
func TestPromise83NodesWithoutNeighbours(t *testing.T) {
	for _, g := range [][]int{{0}, {0, 0}, none4, none6, edgeAlone, {0, 4, 2}, {4, 0, 1}, ring4, {6, 5, 3, 0}, {0, 12, 10, 6}, {10, 5, 10, 5, 0, 0}} {
		failsLines(t, g)
	}
	eachGraph(5, func(g []int, _ int) {
		for _, alone := range [][]int{append(slices.Clone(g), 0), renamed(append(slices.Clone(g), 0), backwards(len(g)+1))} {
			failsLines(t, alone)
			// It watches only itself, and is in no matching and no least cover.
			watch, ok := impl.SetWatch(alone)
			hasNumber(t, "SetWatch", alone, watch, ok, mustNumber(t)(impl.SetWatch(g))+1)
			match, ok := impl.SetMatch(alone)
			hasNumber(t, "SetMatch", alone, match, ok, mustNumber(t)(impl.SetMatch(g)))
			cover, ok := impl.SetCover(alone)
			hasNumber(t, "SetCover", alone, cover, ok, mustNumber(t)(impl.SetCover(g)))
			free, ok := impl.SetFree(alone)
			hasNumber(t, "SetFree", alone, free, ok, mustNumber(t)(impl.SetFree(g))+1)
			full, ok := impl.SetFull(alone)
			hasNumber(t, "SetFull", alone, full, ok, mustNumber(t)(impl.SetFull(g)))
			colours, ok := impl.SetColours(alone)
			hasNumber(t, "SetColours", alone, colours, ok, mustNumber(t)(impl.SetColours(g)))
		}
	})
}

// Promise 84: numbers of free sets.
func TestPromise84NumbersOfFreeSets(t *testing.T) {
	eachKind(func(g []int) {
		all := setCounts(g, freeByWords)
		counts, ok := impl.SetCounts(g)
		hasList(t, "SetCounts", g, counts, ok, all[:lastSize(all)+1])
		if len(counts) != mustNumber(t)(impl.SetFree(g))+1 || counts[0] != 1 || counts[1] != len(g) {
			t.Fatalf("SetCounts of %v: %v", g, counts)
		}
		if others := edgesOf(otherOf(g)); len(counts) > 2 && counts[2] != others || len(counts) == 2 && others != 0 {
			t.Fatalf("SetCounts of %v: %v, and %d other pairs", g, counts, others)
		}
	})
}

func TestPromise84AllPairsAndNoEdges(t *testing.T) {
	for n := 1; n <= 6; n++ {
		full := drawn(n, codeCount(n)-1)
		counts, ok := impl.SetCounts(full)
		hasList(t, "SetCounts", full, counts, ok, []int{1, n})
		want := make([]int, n+1)
		for k := range want {
			want[k] = choices(n, k)
		}
		counts, ok = impl.SetCounts(drawn(n, 0))
		hasList(t, "SetCounts of no edges", n, counts, ok, want)
	}
}

// Promise 85: colours, and the numbers of ways to give them.
func TestPromise85Colours(t *testing.T) {
	eachKind(func(g []int) {
		colours, ok := impl.SetColours(g)
		hasNumber(t, "SetColours", g, colours, ok, fewestColours(g))
		if len(g) > 5 {
			return
		}
		ways := mustNumber(t)(impl.TutteColours(g, colours))
		fewer, ok := impl.TutteColours(g, colours-1)
		hasNumber(t, "TutteColours of 1 less", g, fewer, ok, 0)
		if ways == 0 {
			t.Fatalf("TutteColours of %v and %d is 0", g, colours)
		}
	})
}

// Graphs of no edges need one colour, all pairs as many as nodes, and rounds two or three.
func TestPromise85KnownColours(t *testing.T) {
	for n := 1; n <= 6; n++ {
		none, ok := impl.SetColours(drawn(n, 0))
		hasNumber(t, "SetColours of no edges", n, none, ok, 1)
		full, ok := impl.SetColours(drawn(n, codeCount(n)-1))
		hasNumber(t, "SetColours of all pairs", n, full, ok, n)
	}
	for n := 3; n <= 6; n++ {
		ring := make([]int, n)
		for v := range ring {
			ring[v] = 1<<((v+1)%n) | 1<<((v+n-1)%n)
		}
		colours, ok := impl.SetColours(ring)
		hasNumber(t, "SetColours", ring, colours, ok, 2+n%2)
	}
	// A round of five and a node that is a neighbour of each need four, without four full nodes.
	wheel := []int{50, 37, 42, 52, 41, 31}
	colours, ok := impl.SetColours(wheel)
	hasNumber(t, "SetColours", wheel, colours, ok, 4)
	full, ok := impl.SetFull(wheel)
	hasNumber(t, "SetFull", wheel, full, ok, 3)
}

// Promise 86: colours of the graph and of that of the other pairs.
func TestPromise86ColoursOfTheOtherPairs(t *testing.T) {
	eachKind(func(g []int) {
		colours := mustNumber(t)(impl.SetColours(g))
		other := mustNumber(t)(impl.SetColours(must(t)(impl.GraphOther(g))))
		if colours+other > len(g)+1 || colours*other < len(g) {
			t.Fatalf("SetColours of %v: %d, and %d of the other pairs", g, colours, other)
		}
	})
}

// wantGreedy checks the greedy colours of names.
func wantGreedy(t *testing.T, g []int, p []int, fewest int) {
	t.Helper()
	colours, ok := impl.SetGreedy(g, p)
	hasList(t, "SetGreedy", []any{g, p}, colours, ok, greedyByWords(g, p))
	for v, colour := range colours {
		if colour > degreeOf(g, v) {
			t.Fatalf("SetGreedy of %v and %v: %v", g, p, colours)
		}
		for w := range v {
			if g[v]>>w&1 == 1 && colours[w] == colour {
				t.Fatalf("SetGreedy of %v and %v: %v, and %d and %d are an edge", g, p, colours, v, w)
			}
		}
	}
	if coloursIn(colours) < fewest {
		t.Fatalf("SetGreedy of %v and %v: %v", g, p, colours)
	}
}

// Promise 87: greedy colours of all names.
func TestPromise87AllNames(t *testing.T) {
	var all [7][][]int
	for n := range all {
		all[n] = namings(n)
	}
	want := func(g []int) {
		fewest := mustNumber(t)(impl.SetColours(g))
		for _, p := range all[len(g)] {
			wantGreedy(t, g, p, fewest)
		}
	}
	eachGraph(5, func(g []int, _ int) { want(g) })
	for _, code := range leastOnes(6) {
		want(drawn(6, code))
	}
}

func TestPromise87KnownColours(t *testing.T) {
	for _, k := range []struct {
		g, p, colours []int
	}{
		{one, []int{0}, []int{0}}, {edge2, []int{0, 1}, []int{0, 1}}, {edge2, []int{1, 0}, []int{1, 0}}, {[]int{0, 0}, []int{1, 0}, []int{0, 0}},
		{way4, []int{0, 1, 2, 3}, []int{0, 1, 0, 1}}, {way4, []int{3, 2, 1, 0}, []int{1, 0, 1, 0}}, {way4, []int{0, 3, 1, 2}, []int{0, 1, 2, 0}}, {way4, []int{0, 2, 3, 1}, []int{0, 1, 0, 1}},
		{crossed4, []int{0, 1, 2, 3}, []int{0, 0, 1, 2}}, {crossed4, []int{0, 2, 3, 1}, []int{0, 1, 1, 0}}, {crossed4, []int{3, 2, 1, 0}, []int{0, 1, 1, 0}},
		{star5, []int{0, 1, 2, 3, 4}, []int{0, 1, 1, 1, 1}}, {star5, []int{4, 3, 2, 1, 0}, []int{1, 0, 0, 0, 0}}, {ring5, []int{4, 3, 2, 1, 0}, []int{2, 1, 0, 1, 0}},
		{none6, []int{5, 4, 3, 2, 1, 0}, []int{0, 0, 0, 0, 0, 0}}, {full6, []int{2, 0, 5, 1, 4, 3}, []int{1, 3, 0, 5, 4, 2}}, {ring6, []int{0, 3, 1, 2, 4, 5}, []int{0, 1, 2, 0, 1, 2}},
	} {
		colours, ok := impl.SetGreedy(k.g, k.p)
		hasList(t, "SetGreedy", []any{k.g, k.p}, colours, ok, k.colours)
	}
}

func TestPromise87NoNames(t *testing.T) {
	for n := 1; n <= 6; n++ {
		for _, code := range []int{0, 1 & (codeCount(n) - 1), codeCount(n) - 1} {
			g := drawn(n, code)
			for _, p := range noNames(n) {
				failsGreedy(t, g, p)
			}
			for other := range 9 {
				if other != n {
					failsGreedy(t, g, backwards(other))
				}
			}
			failsGreedy(t, g, make([]int, n+1))
		}
	}
	failsGreedy(t, edge2, []int{0, 0})
	failsGreedy(t, way3, []int{2, 1, 2})
	failsGreedy(t, way3, []int{0, 1, 3})
	failsGreedy(t, way3, []int{-1, 0, 1})
}

// Promise 88: the first names with the fewest greedy colours.
func TestPromise88FirstNames(t *testing.T) {
	var all [7][][]int
	for n := range all {
		all[n] = ordered(n)
	}
	eachKind(func(g []int) {
		best, ok := impl.SetBest(g)
		hasList(t, "SetBest", g, best, ok, bestByWords(g, all[len(g)]))
		colours := must(t)(impl.SetGreedy(g, best))
		if slices.Max(colours) != mustNumber(t)(impl.SetColours(g))-1 {
			t.Fatalf("SetBest of %v: %v with the colours %v", g, best, colours)
		}
	})
}

// Where the names in order do not serve, others do; where many names serve, the first one is told.
func TestPromise88KnownNames(t *testing.T) {
	for _, k := range []struct {
		g, best []int
	}{
		{crossed4, []int{0, 2, 3, 1}}, {append(slices.Clone(crossed4), 0), []int{0, 2, 3, 1, 4}}, {[]int{40, 20, 34, 17, 10, 5}, []int{0, 2, 1, 3, 4, 5}}, {ring6, []int{0, 1, 2, 3, 4, 5}},
	} {
		best, ok := impl.SetBest(k.g)
		hasList(t, "SetBest", k.g, best, ok, k.best)
	}
	for n := 1; n <= 6; n++ {
		for _, code := range []int{0, codeCount(n) - 1} {
			best, ok := impl.SetBest(drawn(n, code))
			want := backwards(n)
			slices.Reverse(want)
			hasList(t, "SetBest", []int{n, code}, best, ok, want)
		}
	}
}

// The same graph with many names has other first names.
func TestPromise88ManyNamesOfOneGraph(t *testing.T) {
	all := ordered(6)
	for _, g := range [][]int{ring6, way6, prism, broom6} {
		for i := 0; i < len(all); i += 7 {
			h := renamed(g, all[i])
			best, ok := impl.SetBest(h)
			hasList(t, "SetBest", h, best, ok, bestByWords(h, all))
		}
	}
}

// wantNumbersJoined checks the numbers of two graphs beside each other.
func wantNumbersJoined(t *testing.T, g []int, h []int) {
	t.Helper()
	both := must(t)(impl.GraphJoin(g, h))
	sum := func(a int, b int) int { return a + b }
	greater := func(a int, b int) int { return max(a, b) }
	for i, together := range []func(int, int) int{sum, greater, sum, sum, sum, greater} {
		f := numberOfSet[i]
		count, ok := f.tell(both)
		hasNumber(t, f.name, []any{g, h}, count, ok, together(mustNumber(t)(f.tell(g)), mustNumber(t)(f.tell(h))))
	}
	if !hasNeighbours(both) {
		failsLines(t, both)
		return
	}
	lines, ok := impl.SetLines(both)
	hasNumber(t, "SetLines", both, lines, ok, mustNumber(t)(impl.SetLines(g))+mustNumber(t)(impl.SetLines(h)))
}

// Promise 89: graphs beside each other.
func TestPromise89GraphsBesideEachOther(t *testing.T) {
	eachGraph(5, func(g []int, _ int) {
		eachGraph(6-len(g), func(h []int, _ int) { wantNumbersJoined(t, g, h) })
	})
}

// The numbers are the same whatever the nodes are called.
func TestPromises78To89OtherNames(t *testing.T) {
	eachNamed(6, func(g []int) {
		one := drawn(len(g), classOf(g).least)
		for _, f := range numberOfSet {
			count, ok := f.tell(g)
			hasNumber(t, f.name, g, count, ok, mustNumber(t)(f.tell(one)))
		}
	})
}

// Lists share no memory with arguments or earlier results, and arguments stay as they are.
func TestSetsMemoryIsNotShared(t *testing.T) {
	for _, k := range knownSets {
		n := len(k.g)
		g, p := roomy(k.g), roomy(backwards(n))
		wantOwnMemory(t, map[string]func() ([]int, bool){
			"SetCounts": func() ([]int, bool) { return impl.SetCounts(g) },
			"SetBest":   func() ([]int, bool) { return impl.SetBest(g) },
			"SetGreedy": func() ([]int, bool) { return impl.SetGreedy(g, p) },
		})
		for _, f := range numberOfSet {
			f.tell(g)
		}
		impl.SetLines(g)
		impl.SetGreedy(g, p[1:])
		wantAsBefore(t, g, k.g)
		wantAsBefore(t, p, backwards(n))
	}
	for _, list := range noGraphs() {
		g, p := roomy(list), roomy(backwards(len(list)))
		failsSets(t, g)
		failsGreedy(t, g, p)
		wantAsBefore(t, g, list)
		wantAsBefore(t, p, backwards(len(list)))
	}
	for n := 1; n <= 6; n++ {
		for _, list := range noNames(n) {
			p := roomy(list)
			failsGreedy(t, drawn(n, 0), p)
			wantAsBefore(t, p, list)
		}
	}
}
