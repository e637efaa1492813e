package tests

import (
	"fmt"
	"runtime"
	"sync"
	"testing"

	"loop.example/graphpieces/impl"
)

// Some more graphs by name: ways of two and of three nodes, a ring of three, all pairs of
// four and of five, no edges of four, two edges apart, and an edge beside a node.
var (
	one       = []int{0}
	edge2     = []int{2, 1}
	way3      = []int{2, 5, 2}
	ring3     = []int{6, 5, 3}
	full4     = []int{14, 13, 11, 7}
	full5     = []int{30, 29, 27, 23, 15}
	none4     = []int{0, 0, 0, 0}
	edges22   = []int{2, 1, 8, 4}
	edgeAlone = []int{2, 1, 0}
)

// setsOf returns all sets of k of n nodes, each one as a list in order.
func setsOf(n int, k int) [][]int {
	var all [][]int
	for set := range 1 << n {
		if nodes := nodesOf(set, n); len(nodes) == k {
			all = append(all, nodes)
		}
	}
	return all
}

// choices returns the ways to choose k of n.
func choices(n int, k int) int {
	return factorials[n] / factorials[k] / factorials[n-k]
}

// piecesOf counts, for the least code of each graph of k nodes, the sets of nodes whose
// graph has it, by the table of all graphs.
func piecesOf(g []int, k int) map[int]int {
	found := map[int]int{}
	for _, nodes := range setsOf(len(g), k) {
		found[classOf(partOf(g, nodes)).least]++
	}
	return found
}

// pieced is a graph with what piecesOf finds for each number of nodes.
type pieced struct {
	g      []int
	pieces [7]map[int]int
}

func piecedOf(g []int) pieced {
	p := pieced{g: g}
	for k := 1; k <= len(g); k++ {
		p.pieces[k] = piecesOf(g, k)
	}
	return p
}

// copiesOf counts the copies of h in g.
func copiesOf(h []int, g []int) int {
	return piecesOf(g, len(h))[classOf(h).least]
}

// copiesInCards counts the copies of h in all graphs that come by dropping a node of g.
func copiesInCards(h []int, g []int) int {
	sum := 0
	for v := range g {
		sum += copiesOf(h, dropped(g, v))
	}
	return sum
}

// looseByWords counts the loose copies of h in g as the document's words have it: among
// all sets of edges of g, each one with all sets of nodes.
func looseByWords(h []int, g []int) int {
	count := 0
	for set := range codeOf(g) + 1 {
		if set&^codeOf(g) != 0 || edgesOf(drawn(len(g), set)) != edgesOf(h) {
			continue
		}
		alone := drawn(len(g), set)
		for _, nodes := range setsOf(len(g), len(h)) {
			part := partOf(alone, nodes)
			// The part lacks edges whose nodes are not all in the set.
			if edgesOf(part) == edgesOf(alone) && classOf(part).least == classOf(h).least {
				count++
			}
		}
	}
	return count
}

// picturesOf counts the pictures of h among some lists of nodes of g, and those of them
// that have no node twice.
func picturesOf(h []int, g []int, all [][]int) (int, int) {
	count, single := 0, 0
	for _, list := range all {
		right, seen := true, 0
		for i := range h {
			for j := range i {
				right = right && (h[i]>>j&1 == 0 || g[list[i]]>>list[j]&1 == 1)
			}
			seen |= 1 << list[i]
		}
		if !right {
			continue
		}
		count++
		if len(nodesOf(seen, len(g))) == len(h) {
			single++
		}
	}
	return count, single
}

// listsOfNodes returns, for each number of nodes of g, all lists of 0 to 4 of them.
func listsOfNodes() [7][5][][]int {
	var all [7][5][][]int
	for n := range all {
		for k := range all[n] {
			all[n][k] = lists(k, 0, n-1)
		}
	}
	return all
}

// ones returns a graph of each kind of 1 to n nodes.
func ones(n int) [][]int {
	var all [][]int
	for k := 1; k <= n; k++ {
		for _, code := range leastOnes(k) {
			all = append(all, drawn(k, code))
		}
	}
	return all
}

// eachNamed calls do for a graph of each kind of 1 to n nodes, with names of two sorts.
func eachNamed(n int, do func(h []int)) {
	for _, h := range ones(n) {
		do(h)
		do(renamed(h, backwards(len(h))))
	}
}

// hosts are graphs of all numbers of nodes in which copies are looked for.
var hosts = [][]int{one, {0, 0}, edge2, way3, ring3, way4, full4, edges22, ring5, ring3edge, full5, ring6, rings33, prism, full6, none6}

// countings are the functions that count something of one graph in another one.
var countings = []struct {
	name  string
	count func(h []int, g []int) (int, bool)
}{
	{"CopyCount", impl.CopyCount},
	{"CopyLoose", impl.CopyLoose},
	{"CopyPictures", impl.CopyPictures},
	{"CopyByDeck", impl.CopyByDeck},
	{"CopyMost", impl.CopyMost},
}

// counts has two graphs and what has to be counted for them.
type counts struct {
	h, g  []int
	count int
}

// wantCounts checks what a function counts for some graphs.
func wantCounts(t *testing.T, what string, count func(h []int, g []int) (int, bool), known []counts) {
	t.Helper()
	for _, k := range known {
		got, ok := count(k.h, k.g)
		hasNumber(t, what, []any{k.h, k.g}, got, ok, k.count)
	}
}

// wantCopies checks all that promise 43 says of two graphs.
func wantCopies(t *testing.T, h []int, g []int, want int) {
	t.Helper()
	count, ok := impl.CopyCount(h, g)
	hasNumber(t, "CopyCount", []any{h, g}, count, ok, want)
	count, ok = impl.CopyCount(otherOf(h), otherOf(g))
	hasNumber(t, "CopyCount of the other pairs", []any{h, g}, count, ok, want)
}

// Promise 43: copies are sets of nodes whose graph is alike.
func TestPromise43Copies(t *testing.T) {
	var all [][]int
	eachNamed(4, func(h []int) { all = append(all, h) })
	all = append(all, ones(5)...)
	eachKind(func(g []int) {
		pieces := piecedOf(g).pieces
		for _, h := range all {
			count, ok := impl.CopyCount(h, g)
			hasNumber(t, "CopyCount", []any{h, g}, count, ok, pieces[len(h)][classOf(h).least])
		}
	})
}

func TestPromise43OtherPairs(t *testing.T) {
	for _, h := range ones(5) {
		for _, g := range append(ones(5), hosts...) {
			wantCopies(t, h, g, copiesOf(h, g))
		}
	}
}

func TestPromise43GraphsThatAreAlike(t *testing.T) {
	eachKind(func(g []int) {
		wantCopies(t, g, g, 1)
		wantCopies(t, drawn(len(g), classOf(g).least), g, 1)
		wantCopies(t, renamed(g, backwards(len(g))), g, 1)
	})
	for n := 1; n <= 6; n++ {
		for _, c := range leastOnes(n) {
			turned := renamed(drawn(n, c), backwards(n))
			for _, d := range leastOnes(n) {
				count, ok := impl.CopyCount(drawn(n, d), turned)
				if want := classOf(turned).least == d; !ok || (count == 1) != want || count > 1 {
					t.Fatalf("CopyCount of %v and %v: %v, %v", drawn(n, d), turned, count, ok)
				}
			}
		}
	}
}

func TestPromise43GreaterGraphs(t *testing.T) {
	for _, h := range append(ones(5), ring6, rings33, prism, full6, none6) {
		for _, g := range ones(len(h) - 1) {
			wantCopies(t, h, g, 0)
		}
	}
}

func TestPromise43KnownCopies(t *testing.T) {
	wantCounts(t, "CopyCount", impl.CopyCount, []counts{
		{one, one, 1}, {one, edge2, 2}, {one, full6, 6}, {one, none6, 6}, {edge2, one, 0}, {[]int{0, 0}, one, 0}, {full6, one, 0}, {none6, one, 0},
		{edge2, edge2, 1}, {edge2, []int{0, 0}, 0}, {[]int{0, 0}, edge2, 0}, {[]int{0, 0}, []int{0, 0}, 1}, {edge2, ring5, 5}, {[]int{0, 0}, ring5, 5},
		{way3, []int{10, 5, 10, 5}, 4}, {way3, ring3, 0}, {way3, way3, 1}, {edgeAlone, ring3, 0}, {edgeAlone, edges22, 4}, {way3, full6, 0},
		{ring3, full6, 20}, {[]int{0, 0, 0}, none6, 20}, {ring3, rings33, 2}, {ring3, ring6, 0}, {edgeAlone, rings33, 18}, {ring3, ring3edge, 1},
		{way4, ring5, 5}, {way4, ring6, 6}, {way4, way5, 2}, {way4, rings33, 0}, {edges22, ring6, 3}, {edges22, rings33, 9}, {edges22, edges22, 1},
		{full4, full6, 15}, {none4, none6, 15}, {full4, none6, 0}, {none4, full6, 0}, {full4, full4, 1}, {none4, star5, 1}, {full5, full6, 6}, {full6, full6, 1},
		{none6, none6, 1}, {full6, none6, 0}, {ring5, prism, 0}, {ring4, prism, 0}, {[]int{10, 5, 10, 5}, prism, 3}, {ring3, prism, 2}, {ring5, ring6, 0},
		{ring3edge, rings33, 6}, {way5, ring6, 6}, {ring6, rings33, 0}, {rings33, rings33, 1}, {ring5, ring5, 1}, {full5, full4, 0}, {way5, way4, 0}, {none6, []int{0, 0, 0, 0, 0}, 0},
	})
}

// Invalid graphs on either side fail in all functions that count.
func TestPromises43To47InvalidGraphs(t *testing.T) {
	for _, f := range countings {
		for _, wrong := range noGraphs() {
			count, ok := f.count(wrong, wrong)
			failsNumber(t, f.name, []any{wrong, wrong}, count, ok)
			for _, g := range hosts {
				count, ok = f.count(wrong, g)
				failsNumber(t, f.name, []any{wrong, g}, count, ok)
				count, ok = f.count(g, wrong)
				failsNumber(t, f.name, []any{g, wrong}, count, ok)
			}
		}
	}
}

// Promise 44: loose copies are more than copies, and fewer than pictures for each of the
// names that make the graph itself.
func TestPromise44LooseCopies(t *testing.T) {
	all := listsOfNodes()
	eachKind(func(g []int) {
		eachNamed(4, func(h []int) {
			// Each loose copy is met by as many lists of different nodes.
			pictures, single := picturesOf(h, g, all[len(g)][len(h)])
			loose, ok := impl.CopyLoose(h, g)
			hasNumber(t, "CopyLoose", []any{h, g}, loose, ok, single/classOf(h).same)
			if loose < mustNumber(t)(impl.CopyCount(h, g)) {
				t.Fatalf("CopyLoose of %v and %v: %d", h, g, loose)
			}
			count, ok := impl.CopyPictures(h, g)
			hasNumber(t, "CopyPictures", []any{h, g}, count, ok, pictures)
			if loose*mustNumber(t)(impl.AlikeSame(h)) > count {
				t.Fatalf("CopyLoose of %v and %v: %d, and %d pictures", h, g, loose, count)
			}
		})
	})
}

func TestPromise44LooseCopiesByWords(t *testing.T) {
	eachGraph(4, func(h []int, _ int) {
		for _, g := range ones(5) {
			loose, ok := impl.CopyLoose(h, g)
			hasNumber(t, "CopyLoose", []any{h, g}, loose, ok, looseByWords(h, g))
		}
	})
}

func TestPromise44KnownLooseCopies(t *testing.T) {
	wantCounts(t, "CopyLoose", impl.CopyLoose, []counts{
		{one, one, 1}, {one, full6, 6}, {edge2, one, 0}, {edge2, edge2, 1}, {[]int{0, 0}, edge2, 1}, {[]int{0, 0}, full6, 15}, {edge2, full6, 15}, {edge2, none6, 0},
		{way3, ring3, 3}, {way3, way3, 1}, {edgeAlone, ring3, 3}, {edgeAlone, full6, 60}, {edgeAlone, edges22, 4}, {[]int{0, 0, 0}, ring3, 1}, {ring3, full6, 20}, {ring3, ring6, 0},
		{way4, full4, 12}, {[]int{10, 5, 10, 5}, full4, 3}, {[]int{10, 5, 10, 5}, full6, 45}, {full4, full4, 1}, {full4, full6, 15}, {full4, none6, 0}, {none4, full6, 15}, {none4, none6, 15},
		{edges22, full4, 3}, {edges22, way4, 1}, {edges22, ring6, 9}, {edges22, rings33, 9}, {edges22, ring3edge, 3}, {edges22, star5, 0}, {way4, ring6, 6}, {way4, rings33, 0},
		{[]int{14, 1, 1, 1}, full4, 4}, {[]int{14, 1, 1, 1}, star5, 4}, {[]int{6, 5, 3, 0}, full4, 4}, {[]int{6, 5, 3, 0}, rings33, 6}, {[]int{2, 5, 2, 0}, full4, 12}, {[]int{2, 1, 0, 0}, edges22, 2},
		// More nodes than there are.
		{way3, edge2, 0}, {[]int{0, 0}, one, 0}, {none4, ring3, 0}, {full4, ring3, 0}, {way4, ring3, 0}, {none4, one, 0},
	})
}

// Loose copies and pictures of graphs of more than four nodes are not counted in any graph.
func TestPromise44MoreThanFourNodes(t *testing.T) {
	var great [][]int
	for _, code := range leastOnes(5) {
		great = append(great, drawn(5, code))
	}
	for _, h := range append(great, ring6, rings33, prism, full6, none6) {
		for _, g := range append(noGraphs(), append(hosts, h)...) {
			count, ok := impl.CopyLoose(h, g)
			failsNumber(t, "CopyLoose", []any{h, g}, count, ok)
			count, ok = impl.CopyPictures(h, g)
			failsNumber(t, "CopyPictures", []any{h, g}, count, ok)
		}
	}
}

// Promise 45: pictures of few nodes are nodes, edges and walks.
func TestPromise45PicturesOfFewNodes(t *testing.T) {
	eachGraph(impl.NodesMax, func(g []int, _ int) {
		count, ok := impl.CopyPictures(one, g)
		hasNumber(t, "CopyPictures", []any{one, g}, count, ok, len(g))
		count, ok = impl.CopyPictures(edge2, g)
		hasNumber(t, "CopyPictures", []any{edge2, g}, count, ok, 2*mustNumber(t)(impl.GraphEdges(g)))
		walks := mustNumber(t)(impl.NumberWalks(g, 2))
		for _, code := range []int{3, 5, 6} {
			h := drawn(3, code)
			count, ok = impl.CopyPictures(h, g)
			hasNumber(t, "CopyPictures", []any{h, g}, count, ok, walks)
		}
	})
}

func TestPromise45AllNamesOfPictures(t *testing.T) {
	all := listsOfNodes()
	eachGraph(4, func(h []int, _ int) {
		for _, g := range append(ones(4), hosts...) {
			want, _ := picturesOf(h, g, all[len(g)][len(h)])
			count, ok := impl.CopyPictures(h, g)
			hasNumber(t, "CopyPictures", []any{h, g}, count, ok, want)
		}
	})
}

func TestPromise45KnownPictures(t *testing.T) {
	wantCounts(t, "CopyPictures", impl.CopyPictures, []counts{
		{one, one, 1}, {one, full6, 6}, {edge2, one, 0}, {edge2, ring3, 6}, {edge2, none6, 0}, {edge2, full6, 30}, {[]int{0, 0}, edge2, 4}, {[]int{0, 0}, none6, 36}, {[]int{0, 0}, full6, 36},
		{way3, ring3, 12}, {ring3, ring3, 6}, {ring3, full4, 24}, {ring3, ring5, 0}, {edgeAlone, ring3, 18}, {[]int{0, 0, 0}, way4, 64}, {way3, rings33, 24},
		{full4, full4, 24}, {full4, full6, 360}, {full4, none6, 0}, {none4, none6, 1296}, {none4, full6, 1296}, {edges22, rings33, 144}, {edges22, ring6, 144}, {ring3, rings33, 12},
		// More nodes than there are: some of them are the same ones.
		{way3, edge2, 2}, {way4, edge2, 2}, {[]int{10, 5, 10, 5}, edge2, 2}, {ring3, edge2, 0}, {[]int{0, 0}, one, 1}, {none4, one, 1}, {way4, one, 0}, {edges22, ring3, 36},
		{full4, ring3, 0}, {way4, ring3, 24}, {[]int{14, 1, 1, 1}, way3, 10}, {[]int{6, 5, 3, 0}, ring3, 18},
	})
}

// Promise 46: each copy is in all cards but those without one of its nodes.
func TestPromise46CopiesInDecks(t *testing.T) {
	for _, h := range ones(5) {
		for _, g := range append(ones(5), hosts...) {
			sum, ok := impl.CopyByDeck(h, g)
			if len(g) == 1 {
				failsNumber(t, "CopyByDeck", []any{h, g}, sum, ok)
				continue
			}
			hasNumber(t, "CopyByDeck", []any{h, g}, sum, ok, copiesInCards(h, g))
			if len(h) < len(g) && sum != (len(g)-len(h))*mustNumber(t)(impl.CopyCount(h, g)) {
				t.Fatalf("CopyByDeck of %v and %v: %d", h, g, sum)
			}
		}
	}
	eachKind(func(g []int) {
		for _, h := range [][]int{one, edge2, way3, edgeAlone, way4, edges22, ring5} {
			sum, ok := impl.CopyByDeck(h, g)
			if len(h) < len(g) {
				hasNumber(t, "CopyByDeck", []any{h, g}, sum, ok, (len(g)-len(h))*copiesOf(h, g))
			}
		}
	})
}

func TestPromise46AsManyNodesAndMore(t *testing.T) {
	eachKind(func(g []int) {
		for _, h := range [][]int{g, otherOf(g), renamed(g, backwards(len(g))), full6, none6} {
			sum, ok := impl.CopyByDeck(h, g)
			if len(g) == 1 {
				failsNumber(t, "CopyByDeck", []any{h, g}, sum, ok)
			} else {
				hasNumber(t, "CopyByDeck", []any{h, g}, sum, ok, 0)
			}
		}
	})
}

func TestPromise46KnownSums(t *testing.T) {
	wantCounts(t, "CopyByDeck", impl.CopyByDeck, []counts{
		{one, edge2, 2}, {one, []int{0, 0}, 2}, {one, full6, 30}, {one, none6, 30}, {edge2, way3, 2}, {edge2, ring3, 3}, {edge2, full6, 60}, {edge2, none6, 0}, {[]int{0, 0}, none6, 60},
		{way3, ring5, 10}, {way3, ring6, 18}, {ring3, rings33, 6}, {ring3, ring3edge, 2}, {edges22, ring6, 6}, {way4, way5, 2}, {way5, ring6, 6}, {full5, full6, 6}, {ring3edge, rings33, 6},
		{edge2, edge2, 0}, {ring5, ring5, 0}, {full6, full6, 0}, {none6, none6, 0}, {full6, edge2, 0}, {way4, ring3, 0}, {[]int{0, 0, 0}, []int{0, 0}, 0},
	})
}

func TestPromise46OneNodeAlone(t *testing.T) {
	for _, h := range append(ones(5), hosts...) {
		sum, ok := impl.CopyByDeck(h, one)
		failsNumber(t, "CopyByDeck", []any{h, one}, sum, ok)
	}
}

// mostOf returns the greatest number of nodes of a piece that both graphs have.
func mostOf(p pieced, q pieced) int {
	most := 0
	for k := range p.pieces {
		for code := range p.pieces[k] {
			if q.pieces[k][code] > 0 {
				most = k
			}
		}
	}
	return most
}

// wantMost checks all that promise 47 says of two graphs.
func wantMost(t *testing.T, g []int, h []int, want int) {
	t.Helper()
	most, ok := impl.CopyMost(g, h)
	hasNumber(t, "CopyMost", []any{g, h}, most, ok, want)
	most, ok = impl.CopyMost(h, g)
	hasNumber(t, "CopyMost", []any{h, g}, most, ok, want)
	most, ok = impl.CopyMost(otherOf(g), otherOf(h))
	hasNumber(t, "CopyMost of the other pairs", []any{g, h}, most, ok, want)
	if len(h) > len(g) {
		g, h = h, g
	}
	if copies := mustNumber(t)(impl.CopyCount(h, g)); (want == len(h)) != (copies > 0) {
		t.Fatalf("CopyMost of %v and %v: %d; there are %d copies", g, h, want, copies)
	}
}

// Promise 47: the greatest graph that two graphs have.
func TestPromise47GreatestCopies(t *testing.T) {
	var all []pieced
	for _, g := range append(ones(5), hosts...) {
		all = append(all, piecedOf(g))
	}
	for i, p := range all {
		for _, q := range all[:i+1] {
			wantMost(t, p.g, q.g, mostOf(p, q))
		}
	}
	for i, c := range leastOnes(6) {
		p, q := piecedOf(drawn(6, c)), piecedOf(renamed(drawn(6, leastOnes(6)[(i*37+5)%156]), backwards(6)))
		wantMost(t, p.g, q.g, mostOf(p, q))
	}
}

func TestPromise47GraphsThatAreAlike(t *testing.T) {
	eachKind(func(g []int) {
		for _, h := range [][]int{g, drawn(len(g), classOf(g).least)} {
			most, ok := impl.CopyMost(g, h)
			hasNumber(t, "CopyMost", []any{g, h}, most, ok, len(g))
		}
		most, ok := impl.CopyMost(one, g)
		hasNumber(t, "CopyMost", []any{one, g}, most, ok, 1)
	})
}

func TestPromise47KnownGraphs(t *testing.T) {
	for _, k := range []counts{
		{one, one, 1}, {one, full6, 1}, {one, none6, 1}, {edge2, []int{0, 0}, 1}, {edge2, edge2, 2}, {full6, none6, 1}, {full6, full4, 4}, {none6, none4, 4}, {full6, full6, 6},
		{ring6, rings33, 4}, {ring6, ring5, 4}, {star5, ring4, 3}, {way4, way5, 4}, {way5, ring6, 5}, {ring5, ring3edge, 3}, {full6, rings33, 3}, {none6, ring6, 3}, {prism, rings33, 3},
		{rings33, ring3edge, 5}, {ring6, prism, 4}, {ring5, ring5, 5}, {ring5, otherOf(ring5), 5}, {way3, edgeAlone, 2}, {full4, way4, 2}, {ring6, renamed(ring6, []int{2, 0, 5, 1, 4, 3}), 6},
	} {
		wantMost(t, k.h, k.g, k.count)
	}
}

// Promise 48: all graphs of k nodes that have a copy.
func TestPromise48AllCopies(t *testing.T) {
	eachKind(func(g []int) {
		for k := 1; k <= len(g); k++ {
			want := piecesOf(g, k)
			codes, ok := impl.CopyAll(g, k)
			if !ok || len(codes) != len(want) {
				t.Fatalf("CopyAll of %v and %d: %v, %v", g, k, codes, ok)
			}
			sum, last := 0, -1
			for _, code := range codes {
				copies := mustNumber(t)(impl.CopyCount(must(t)(impl.GraphOf(k, code)), g))
				if code <= last || copies == 0 || copies != want[code] {
					t.Fatalf("CopyAll of %v and %d: %v", g, k, codes)
				}
				sum, last = sum+copies, code
			}
			if sum != choices(len(g), k) {
				t.Fatalf("CopyAll of %v and %d: %v; all copies are %d", g, k, codes, sum)
			}
		}
	})
}

func TestPromise48KnownCopies(t *testing.T) {
	for _, k := range []struct {
		g     []int
		k     int
		codes []int
	}{
		{one, 1, []int{0}}, {edge2, 1, []int{0}}, {edge2, 2, []int{1}}, {[]int{0, 0}, 2, []int{0}}, {way3, 2, []int{0, 1}}, {way3, 3, []int{3}}, {ring3, 2, []int{1}}, {ring3, 3, []int{7}},
		{way4, 3, []int{1, 3}}, {way4, 4, []int{13}}, {edges22, 3, []int{1}}, {edges22, 4, []int{12}}, {ring5, 3, []int{1, 3}}, {ring5, 4, []int{13}}, {ring5, 5, []int{236}},
		{ring6, 1, []int{0}}, {ring6, 2, []int{0, 1}}, {ring6, 3, []int{0, 1, 3}}, {ring6, 4, []int{3, 12, 13}}, {rings33, 3, []int{1, 7}}, {rings33, 4, []int{7, 12}},
		{ring3edge, 3, []int{1, 7}}, {ring3edge, 4, []int{7, 12}}, {star5, 4, []int{0, 11}}, {none6, 5, []int{0}}, {none6, 6, []int{0}}, {full6, 1, []int{0}}, {full6, 3, []int{7}},
		{full6, 4, []int{63}}, {full6, 5, []int{1023}}, {full6, 6, []int{32767}}, {prism, 3, []int{1, 3, 7}},
	} {
		codes, ok := impl.CopyAll(k.g, k.k)
		hasList(t, "CopyAll", []any{k.g, k.k}, codes, ok, k.codes)
	}
}

func TestPromise48NoSuchNumbersOfNodes(t *testing.T) {
	eachKind(func(g []int) {
		for _, k := range []int{0, -1, -2, -len(g), least, len(g) + 1, len(g) + 2, 7, 63, 64, 1 << 32, most} {
			codes, ok := impl.CopyAll(g, k)
			failsList(t, "CopyAll", []any{g, k}, codes, ok)
		}
	})
}

func TestPromise48InvalidGraphs(t *testing.T) {
	for _, g := range noGraphs() {
		for _, k := range []int{-1, 0, 1, 2, 3, 6, 7, len(g), len(g) + 1} {
			codes, ok := impl.CopyAll(g, k)
			failsList(t, "CopyAll", []any{g, k}, codes, ok)
		}
	}
}

// Results share no memory with arguments or earlier results, and arguments stay as they are.
func TestCopyMemoryIsNotShared(t *testing.T) {
	for _, list := range [][]int{way4, ring5, full4, {12, 8, 1, 3}} {
		g, h := roomy(list), roomy(way3)
		calls := map[string]func() ([]int, bool){}
		for k := 1; k <= len(list); k++ {
			calls[fmt.Sprint("CopyAll of ", k)] = func() ([]int, bool) { return impl.CopyAll(g, k) }
		}
		wantOwnMemory(t, calls)
		for _, f := range countings {
			f.count(h, g)
			f.count(g, h)
			f.count(g, g)
		}
		impl.CopyAll(g, 0)
		wantAsBefore(t, g, list)
		wantAsBefore(t, h, way3)
	}
}

// All goroutines have ended when a function returns, but for the last steps of their ends.
func TestCopyGoroutinesEnd(t *testing.T) {
	before := runtime.NumGoroutine()
	for range 300 {
		for _, f := range countings {
			f.count(way4, full6)
		}
		impl.CopyAll(full6, 3)
	}
	for range 1000 {
		if runtime.NumGoroutine() <= before {
			return
		}
		runtime.Gosched()
	}
	if after := runtime.NumGoroutine(); after > before+64 {
		t.Errorf("%d goroutines are left of %d", after, before)
	}
}

// Many calls at once, with the same lists, return the same as one alone.
func TestCopyCallsAtOnce(t *testing.T) {
	g, h := []int{14, 21, 3, 1, 34, 16}, way3
	tell := func() string {
		var told []any
		for _, f := range countings {
			count, ok := f.count(h, g)
			told = append(told, f.name, count, ok)
		}
		for k := range 8 {
			codes, ok := impl.CopyAll(g, k)
			told = append(told, codes, ok)
		}
		return fmt.Sprint(told...)
	}
	want := tell()
	var callers sync.WaitGroup
	results := make([]string, 32)
	for i := range results {
		callers.Go(func() {
			for range 20 {
				if results[i] = tell(); results[i] != want {
					return
				}
			}
		})
	}
	callers.Wait()
	for _, got := range results {
		if got != want {
			t.Errorf("many calls at once: %s, one alone: %s", got, want)
		}
	}
}
