package tests

import (
	"slices"
	"testing"

	"loop.example/graphpieces/impl"
)

// Two graphs that are not alike and have the same polynomial: a star, and a ring with a
// node alone.
var (
	star5 = []int{30, 1, 1, 1, 1}
	ring4 = []int{10, 5, 10, 5, 0}
)

// lengthsOfNoWalks are lengths of which walks are not counted.
var lengthsOfNoWalks = []int{-1, -2, -12, least, 13, 14, 64, 1 << 32, most}

// walksFrom returns how many walks of length k lead from a node to each node, found by
// going on from all nodes step by step.
func walksFrom(g []int, v int, k int) []int {
	ways := make([]int, len(g))
	ways[v] = 1
	for range k {
		next := make([]int, len(g))
		for a := range g {
			for _, b := range nodesOf(g[a], len(g)) {
				next[b] += ways[a]
			}
		}
		ways = next
	}
	return ways
}

// walksOf returns the numbers of walks and of closed walks of length k.
func walksOf(g []int, k int) (int, int) {
	all, closed := 0, 0
	for v := range g {
		for w, ways := range walksFrom(g, v, k) {
			all += ways
			if v == w {
				closed += ways
			}
		}
	}
	return all, closed
}

// walksByLists returns the numbers of walks and of closed walks of length k, found among
// all lists of k + 1 nodes.
func walksByLists(g []int, k int) (int, int) {
	all, closed := 0, 0
	for _, walk := range lists(k+1, 0, len(g)-1) {
		right := true
		for i := range k {
			right = right && g[walk[i]]>>walk[i+1]&1 == 1
		}
		if right {
			all++
			if walk[0] == walk[k] {
				closed++
			}
		}
	}
	return all, closed
}

// signOf returns 1 for names with an even number of pairs in the wrong order, and -1 for
// others.
func signOf(p []int) int {
	sign := 1
	for i := range p {
		for j := range i {
			if p[j] > p[i] {
				sign = -sign
			}
		}
	}
	return sign
}

// polyOf multiplies the determinant out: each names take one number from each row.
func polyOf(g []int, all [][]int) []int {
	poly := make([]int, len(g)+1)
	for _, p := range all {
		product, power := signOf(p), 0
		for v, w := range p {
			if v == w {
				power++
			} else {
				product *= -(g[v] >> w & 1)
			}
		}
		poly[power] += product
	}
	return poly
}

// polyOfEach returns polyOf for graphs of any number of nodes.
func polyOfEach() func(g []int) []int {
	var all [7][][]int
	for n := range all {
		all[n] = namings(n)
	}
	return func(g []int) []int { return polyOf(g, all[len(g)]) }
}

// treesOf tries all sets of n - 1 edges.
func treesOf(g []int) int {
	count, code := 0, codeOf(g)
	for set := range code + 1 {
		if set&^code == 0 {
			h := drawn(len(g), set)
			if edgesOf(h) == len(g)-1 && linkedBySteps(h) {
				count++
			}
		}
	}
	return count
}

// threesOf tries all sets of three nodes.
func threesOf(g []int) int {
	count := 0
	for a := range g {
		for b := range a {
			for c := range b {
				count += g[a] >> b & (g[a] >> c) & (g[b] >> c) & 1
			}
		}
	}
	return count
}

// risingDegreesOf returns the degrees in order of size.
func risingDegreesOf(g []int) []int {
	var degrees []int
	for v := range g {
		degrees = append(degrees, degreeOf(g, v))
	}
	slices.Sort(degrees)
	return degrees
}

// Promise 24: decks tell the same degrees.
func TestPromise24DegreesOfDecksAndNumbers(t *testing.T) {
	eachKind(func(g []int) {
		want := must(t)(impl.NumberDegrees(g))
		if degrees, ok := impl.DeckDegrees(g); ok || len(g) >= 3 {
			hasList(t, "DeckDegrees", g, degrees, ok, want)
		}
	})
}

// Promise 25: walks of all lengths, the shortest ones by nodes, edges and degrees.
func TestPromise25Walks(t *testing.T) {
	eachKind(func(g []int) {
		squares := 0
		for v := range g {
			squares += degreeOf(g, v) * degreeOf(g, v)
		}
		for k, want := range []int{len(g), 2 * edgesOf(g), squares} {
			count, ok := impl.NumberWalks(g, k)
			hasNumber(t, "NumberWalks", []any{g, k}, count, ok, want)
		}
		for k := range 13 {
			all, closed := walksOf(g, k)
			count, ok := impl.NumberWalks(g, k)
			hasNumber(t, "NumberWalks", []any{g, k}, count, ok, all)
			count, ok = impl.NumberClosed(g, k)
			hasNumber(t, "NumberClosed", []any{g, k}, count, ok, closed)
		}
	})
}

func TestPromise25WalksByLists(t *testing.T) {
	for _, g := range [][]int{{0}, {0, 0}, {2, 1}, {2, 5, 2}, {6, 5, 3}, {0, 4, 2}, way4, star5} {
		for k := range 6 {
			all, closed := walksByLists(g, k)
			count, ok := impl.NumberWalks(g, k)
			hasNumber(t, "NumberWalks", []any{g, k}, count, ok, all)
			count, ok = impl.NumberClosed(g, k)
			hasNumber(t, "NumberClosed", []any{g, k}, count, ok, closed)
		}
	}
}

func TestPromise25KnownWalks(t *testing.T) {
	for _, k := range []struct {
		g                   []int
		length, all, closed int
	}{
		{[]int{0}, 0, 1, 1}, {[]int{0}, 1, 0, 0}, {[]int{0}, 12, 0, 0}, {[]int{2, 1}, 0, 2, 2}, {[]int{2, 1}, 11, 2, 0}, {[]int{2, 1}, 12, 2, 2},
		{[]int{2, 5, 2}, 0, 3, 3}, {[]int{2, 5, 2}, 3, 8, 0}, {[]int{2, 5, 2}, 12, 192, 128}, {[]int{6, 5, 3}, 3, 24, 6},
		{none6, 0, 6, 6}, {none6, 1, 0, 0}, {none6, 12, 0, 0}, {full6, 0, 6, 6}, {full6, 1, 30, 0}, {full6, 2, 150, 30},
		{full6, 11, 292968750, 48828120}, {full6, 12, 1464843750, 244140630}, {ring5, 12, 20480, 4740}, {ring4, 0, 5, 5},
	} {
		count, ok := impl.NumberWalks(k.g, k.length)
		hasNumber(t, "NumberWalks", []any{k.g, k.length}, count, ok, k.all)
		count, ok = impl.NumberClosed(k.g, k.length)
		hasNumber(t, "NumberClosed", []any{k.g, k.length}, count, ok, k.closed)
	}
}

func TestPromise25OtherLengthsAndInvalidGraphs(t *testing.T) {
	for _, g := range [][]int{{0}, {0, 0}, {2, 1}, way4, ring5, full6, none6} {
		for _, k := range lengthsOfNoWalks {
			count, ok := impl.NumberWalks(g, k)
			failsNumber(t, "NumberWalks", []any{g, k}, count, ok)
		}
	}
	for _, g := range noGraphs() {
		for _, k := range append([]int{0, 1, 2, 6, 12}, lengthsOfNoWalks...) {
			count, ok := impl.NumberWalks(g, k)
			failsNumber(t, "NumberWalks", []any{g, k}, count, ok)
		}
	}
}

// Promise 26: walks of one length and of twice this length.
func TestPromise26LongerWalks(t *testing.T) {
	eachKind(func(g []int) {
		for k := range 7 {
			count := mustNumber(t)(impl.NumberWalks(g, k))
			twice := mustNumber(t)(impl.NumberWalks(g, 2*k))
			if count*count > twice*len(g) {
				t.Fatalf("NumberWalks of %v: %d for %d, %d for %d", g, count, k, twice, 2*k)
			}
		}
	})
	// Where all degrees are the same, no less will do.
	for _, g := range [][]int{{0}, {2, 1}, {6, 5, 3}, ring5, ring6, rings33, full6, none6} {
		count := mustNumber(t)(impl.NumberWalks(g, 6))
		twice, ok := impl.NumberWalks(g, 12)
		hasNumber(t, "NumberWalks", []any{g, 12}, twice, ok, count*count/len(g))
	}
}

// Promise 27: closed walks, the shortest ones by nodes, edges and sets of three.
func TestPromise27ClosedWalks(t *testing.T) {
	eachKind(func(g []int) {
		three := mustNumber(t)(impl.NumberThree(g))
		for k, want := range []int{len(g), 0, 2 * edgesOf(g), 6 * three} {
			count, ok := impl.NumberClosed(g, k)
			hasNumber(t, "NumberClosed", []any{g, k}, count, ok, want)
		}
		for k := range 13 {
			closed := mustNumber(t)(impl.NumberClosed(g, k))
			if all := mustNumber(t)(impl.NumberWalks(g, k)); closed > all {
				t.Fatalf("of %d walks of length %d of %v %d are closed", all, k, g, closed)
			}
		}
	})
}

func TestPromise27OtherLengthsAndInvalidGraphs(t *testing.T) {
	for _, g := range [][]int{{0}, {0, 0}, {2, 1}, way4, ring5, full6, none6} {
		for _, k := range lengthsOfNoWalks {
			count, ok := impl.NumberClosed(g, k)
			failsNumber(t, "NumberClosed", []any{g, k}, count, ok)
		}
	}
	for _, g := range noGraphs() {
		for _, k := range append([]int{0, 1, 2, 3, 12}, lengthsOfNoWalks...) {
			count, ok := impl.NumberClosed(g, k)
			failsNumber(t, "NumberClosed", []any{g, k}, count, ok)
		}
	}
}

// Promise 28: the polynomial is the determinant, and its last numbers tell nodes, edges
// and sets of three.
func TestPromise28Polynomials(t *testing.T) {
	poly := polyOfEach()
	eachKind(func(g []int) {
		got, ok := impl.NumberPoly(g)
		hasList(t, "NumberPoly", g, got, ok, poly(g))
		n := len(g)
		last := []int{1, 0, -mustNumber(t)(impl.GraphEdges(g)), -2 * mustNumber(t)(impl.NumberThree(g))}
		for i, want := range last[:min(4, n+1)] {
			if got[n-i] != want {
				t.Fatalf("NumberPoly of %v is %v, at the place %d not %d", g, got, n-i, want)
			}
		}
	})
}

func TestPromise28KnownPolynomials(t *testing.T) {
	for _, k := range []struct{ g, poly []int }{
		{[]int{0}, []int{0, 1}}, {[]int{0, 0}, []int{0, 0, 1}}, {[]int{2, 1}, []int{-1, 0, 1}}, {[]int{2, 5, 2}, []int{0, -2, 0, 1}},
		{[]int{6, 5, 3}, []int{-2, -3, 0, 1}}, {[]int{0, 4, 2}, []int{0, -1, 0, 1}}, {way4, []int{1, 0, -3, 0, 1}}, {ring5, []int{-2, 5, 0, -5, 0, 1}},
		{star5, []int{0, 0, 0, -4, 0, 1}}, {ring4, []int{0, 0, 0, -4, 0, 1}}, {none6, []int{0, 0, 0, 0, 0, 0, 1}},
		{full6, []int{-5, -24, -45, -40, -15, 0, 1}}, {ring6, []int{-4, 0, 9, 0, -6, 0, 1}}, {rings33, []int{4, 12, 9, -4, -6, 0, 1}},
	} {
		poly, ok := impl.NumberPoly(k.g)
		hasList(t, "NumberPoly", k.g, poly, ok, k.poly)
	}
}

func TestPromise28InvalidGraphs(t *testing.T) {
	for _, g := range noGraphs() {
		poly, ok := impl.NumberPoly(g)
		failsList(t, "NumberPoly", g, poly, ok)
	}
}

// Promise 29: closed walks answer to the polynomial.
func TestPromise29PolynomialsOfClosedWalks(t *testing.T) {
	eachKind(func(g []int) {
		sum := 0
		for k, number := range must(t)(impl.NumberPoly(g)) {
			sum += number * mustNumber(t)(impl.NumberClosed(g, k))
		}
		if sum != 0 {
			t.Fatalf("closed walks of %v times its polynomial add up to %d", g, sum)
		}
	})
}

// Promise 30: trees are there just where all is linked.
func TestPromise30Trees(t *testing.T) {
	eachKind(func(g []int) {
		trees, ok := impl.NumberTrees(g)
		linked := linkedBySteps(g)
		if (trees != 0) != linked || impl.GraphLinked(g) != linked {
			t.Fatalf("NumberTrees of %v: %d", g, trees)
		}
		if linked && edgesOf(g) == len(g)-1 {
			hasNumber(t, "NumberTrees", g, trees, ok, 1)
		}
		hasNumber(t, "NumberTrees", g, trees, ok, treesOf(g))
	})
}

func TestPromise30KnownTrees(t *testing.T) {
	for _, k := range []struct {
		g     []int
		trees int
	}{
		{[]int{0}, 1}, {[]int{0, 0}, 0}, {[]int{2, 1}, 1}, {[]int{2, 5, 2}, 1}, {[]int{6, 5, 3}, 3}, {[]int{0, 4, 2}, 0}, {way4, 1}, {star5, 1},
		{ring4, 0}, {ring5, 5}, {ring6, 6}, {rings33, 0}, {[]int{14, 13, 11, 7}, 16}, {full6, 1296}, {none6, 0}, {[]int{30, 29, 27, 23, 15, 0}, 0},
		{[]int{56, 56, 56, 7, 7, 7}, 81},
	} {
		trees, ok := impl.NumberTrees(k.g)
		hasNumber(t, "NumberTrees", k.g, trees, ok, k.trees)
	}
}

func TestPromise30InvalidGraphs(t *testing.T) {
	for _, g := range noGraphs() {
		trees, ok := impl.NumberTrees(g)
		failsNumber(t, "NumberTrees", g, trees, ok)
	}
}

// Promise 31: sets of three nodes of a graph and of its other pairs.
func TestPromise31SetsOfThree(t *testing.T) {
	eachGraph(impl.NodesMax, func(g []int, _ int) {
		three, ok := impl.NumberThree(g)
		hasNumber(t, "NumberThree", g, three, ok, threesOf(g))
		other := mustNumber(t)(impl.NumberThree(must(t)(impl.GraphOther(g))))
		n, mixed := len(g), 0
		for _, degree := range must(t)(impl.GraphDegrees(g)) {
			mixed += degree * (n - 1 - degree)
		}
		if want := n*(n-1)*(n-2)/6 - mixed/2; mixed%2 != 0 || three+other != want {
			t.Fatalf("NumberThree of %v and of its other pairs: %d and %d", g, three, other)
		}
	})
	for _, k := range []struct {
		g     []int
		three int
	}{
		{[]int{0}, 0}, {[]int{2, 1}, 0}, {[]int{2, 5, 2}, 0}, {[]int{6, 5, 3}, 1}, {[]int{14, 13, 11, 7}, 4}, {ring6, 0}, {rings33, 2},
		{ring3edge, 1}, {full6, 20}, {none6, 0},
	} {
		three, ok := impl.NumberThree(k.g)
		hasNumber(t, "NumberThree", k.g, three, ok, k.three)
	}
}

func TestPromise31InvalidGraphs(t *testing.T) {
	for _, g := range noGraphs() {
		three, ok := impl.NumberThree(g)
		failsNumber(t, "NumberThree", g, three, ok)
	}
}

// Promise 32: degrees in order of size.
func TestPromise32RisingDegrees(t *testing.T) {
	eachGraph(impl.NodesMax, func(g []int, _ int) {
		degrees, ok := impl.NumberDegrees(g)
		hasList(t, "NumberDegrees", g, degrees, ok, risingDegreesOf(g))
		sum := 0
		for _, degree := range degrees {
			sum += degree
		}
		if !slices.IsSorted(degrees) || sum != 2*edgesOf(g) {
			t.Fatalf("NumberDegrees of %v: %v", g, degrees)
		}
	})
	eachKind(func(g []int) {
		one := must(t)(impl.GraphOf(len(g), mustNumber(t)(impl.AlikeLeast(g))))
		degrees, ok := impl.NumberDegrees(one)
		hasList(t, "NumberDegrees", one, degrees, ok, must(t)(impl.NumberDegrees(g)))
	})
	for _, k := range []struct{ g, degrees []int }{
		{[]int{0}, []int{0}}, {[]int{2, 5, 2}, []int{1, 1, 2}}, {star5, []int{1, 1, 1, 1, 4}}, {ring4, []int{0, 2, 2, 2, 2}},
		{full6, []int{5, 5, 5, 5, 5, 5}}, {none6, []int{0, 0, 0, 0, 0, 0}},
	} {
		degrees, ok := impl.NumberDegrees(k.g)
		hasList(t, "NumberDegrees", k.g, degrees, ok, k.degrees)
	}
}

func TestPromise32InvalidGraphs(t *testing.T) {
	for _, g := range noGraphs() {
		degrees, ok := impl.NumberDegrees(g)
		failsList(t, "NumberDegrees", g, degrees, ok)
	}
}

// wantNumberSame checks NumberSame of two graphs, also exchanged, and what follows if it
// holds.
func wantNumberSame(t *testing.T, g []int, h []int, want bool) {
	t.Helper()
	if impl.NumberSame(g, h) != want || impl.NumberSame(h, g) != want {
		t.Fatalf("NumberSame of %v and %v is not %v", g, h, want)
	}
	if !want {
		return
	}
	for k := 4; k <= 5; k++ {
		count, ok := impl.NumberClosed(g, k)
		hasNumber(t, "NumberClosed", []any{g, k}, count, ok, mustNumber(t)(impl.NumberClosed(h, k)))
	}
}

// Promise 33: graphs have the same polynomial just if all its numbers are the same.
func TestPromise33SamePolynomials(t *testing.T) {
	poly := polyOfEach()
	var graphs, polys [][]int
	for n := 1; n <= 6; n++ {
		for _, code := range leastOnes(n) {
			g := renamed(drawn(n, code), backwards(n))
			graphs, polys = append(graphs, g), append(polys, poly(g))
		}
	}
	pairs := 0
	for i, g := range graphs {
		for j, h := range graphs[:i+1] {
			same := slices.Equal(polys[i], polys[j])
			wantNumberSame(t, g, h, same)
			if same && i != j {
				pairs++
			}
		}
	}
	if pairs != 6 {
		t.Errorf("%d pairs of graphs that are not alike have the same polynomial", pairs)
	}
}

func TestPromise33KnownPairs(t *testing.T) {
	for _, k := range []struct {
		g, h []int
		same bool
	}{
		{star5, ring4, true}, {[]int{16, 16, 16, 16, 15}, []int{0, 20, 10, 20, 10}, true}, {[]int{60, 0, 1, 1, 1, 1}, []int{10, 5, 10, 5, 0, 0}, true},
		{ring6, rings33, false}, {way5, ring3edge, false}, {[]int{0}, []int{0}, true}, {[]int{0}, []int{0, 0}, false}, {[]int{0, 0, 0, 0, 0}, none6, false},
		{[]int{2, 1}, []int{2, 1, 0}, false}, {full6, full6, true}, {none6, none6, true}, {full6, none6, false}, {star5, append(slices.Clone(ring4), 0), false},
		{[]int{2, 5, 2}, []int{4, 4, 3}, true},
	} {
		wantNumberSame(t, k.g, k.h, k.same)
	}
}

func TestPromise33InvalidGraphs(t *testing.T) {
	for _, g := range noGraphs() {
		for _, h := range [][]int{g, {0}, {0, 0}, {2, 1}, {6, 5, 3}, way4, full6, none6} {
			if impl.NumberSame(g, h) || impl.NumberSame(h, g) {
				t.Errorf("NumberSame holds for %v and %v", g, h)
			}
		}
	}
}

// wantSameNumbers checks that two graphs have the same degrees, trees and polynomial.
func wantSameNumbers(t *testing.T, g []int, h []int) {
	t.Helper()
	if !impl.NumberSame(g, h) {
		t.Fatalf("NumberSame does not hold for %v and %v", g, h)
	}
	degrees, ok := impl.NumberDegrees(g)
	hasList(t, "NumberDegrees", g, degrees, ok, must(t)(impl.NumberDegrees(h)))
	trees, ok := impl.NumberTrees(g)
	hasNumber(t, "NumberTrees", g, trees, ok, mustNumber(t)(impl.NumberTrees(h)))
}

// Promise 34: graphs that are alike have the same numbers.
func TestPromise34AlikeGraphs(t *testing.T) {
	eachKind(func(g []int) {
		one := drawn(len(g), classOf(g).least)
		if !impl.AlikeIn(g, one) {
			t.Fatalf("AlikeIn does not hold for %v and %v", g, one)
		}
		wantSameNumbers(t, g, one)
		wantSameNumbers(t, g, g)
	})
}

// Promise 35: graphs with the same deck have the same numbers.
func TestPromise35SameDecks(t *testing.T) {
	eachKind(func(g []int) {
		h := renamed(g, backwards(len(g)))
		if len(g) < 3 {
			return
		}
		if !impl.DeckSame(g, h) {
			t.Fatalf("DeckSame does not hold for %v and %v", g, h)
		}
		wantSameNumbers(t, g, h)
		three, ok := impl.NumberThree(g)
		hasNumber(t, "NumberThree", g, three, ok, mustNumber(t)(impl.NumberThree(h)))
		if impl.GraphLinked(g) != impl.GraphLinked(h) {
			t.Fatalf("GraphLinked tells %v and %v apart", g, h)
		}
	})
	// Decks of two nodes do not tell an edge, so there it does not hold.
	if !impl.DeckSame([]int{2, 1}, []int{0, 0}) || impl.NumberSame([]int{2, 1}, []int{0, 0}) {
		t.Error("graphs of two nodes have the same deck and other polynomials")
	}
}

// Results share no memory with arguments or earlier results, and arguments stay as they are.
func TestNumberMemoryIsNotShared(t *testing.T) {
	g, h := roomy(star5), roomy(ring4)
	wantOwnMemory(t, map[string]func() ([]int, bool){
		"NumberPoly":    func() ([]int, bool) { return impl.NumberPoly(g) },
		"NumberDegrees": func() ([]int, bool) { return impl.NumberDegrees(g) },
	})
	for k := range 13 {
		impl.NumberWalks(g, k)
		impl.NumberClosed(g, k)
	}
	impl.NumberTrees(g)
	impl.NumberThree(g)
	impl.NumberSame(g, h)
	wantAsBefore(t, g, star5)
	wantAsBefore(t, h, ring4)
}
