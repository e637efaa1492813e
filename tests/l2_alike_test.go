package tests

import (
	"fmt"
	"slices"
	"testing"

	"loop.example/graphpieces/impl"
)

// Some more graphs by name: a ring of six, two rings of three, a way of five, and a ring
// of three beside an edge.
var (
	ring6     = []int{34, 5, 10, 20, 40, 17}
	rings33   = []int{6, 5, 3, 48, 40, 24}
	way5      = []int{2, 5, 10, 20, 8}
	ring3edge = []int{6, 5, 3, 16, 8}
)

// factorials has the number of names of 0, 1 and so on nodes.
var factorials = []int{1, 1, 2, 6, 24, 120, 720}

// firstNames finds the first names that make g the graph h by trying all of them.
func firstNames(g []int, h []int, all [][]int) []int {
	for _, p := range all {
		if slices.Equal(renamed(g, p), h) {
			return p
		}
	}
	return nil
}

// wantAlike checks all that promises 11 and 12 say of two graphs of as many nodes.
func wantAlike(t *testing.T, g []int, h []int) {
	t.Helper()
	want := classOf(g).least == classOf(h).least
	if got := impl.AlikeIn(g, h); got != want {
		t.Fatalf("AlikeIn of %v and %v is %v", g, h, got)
	}
	p, ok := impl.AlikeFirst(g, h)
	if !want {
		failsList(t, "AlikeFirst", []any{g, h}, p, ok)
		return
	}
	if !ok || len(p) != len(g) {
		t.Fatalf("AlikeFirst of %v and %v: %v, %v", g, h, p, ok)
	}
	if !impl.AlikeIn(h, g) || !impl.AlikeIn(otherOf(g), otherOf(h)) {
		t.Fatalf("AlikeIn of %v and %v does not hold for both exchanged or for the other pairs", g, h)
	}
	named, ok := impl.GraphNamed(g, p)
	hasList(t, "GraphNamed by AlikeFirst", []any{g, h, p}, named, ok, h)
}

// Promise 11: all pairs of small graphs, and all graphs of 5 nodes beside one of each kind.
func TestPromise11AlikeByAllNames(t *testing.T) {
	eachGraph(4, func(g []int, _ int) {
		for code := range codeCount(len(g)) {
			wantAlike(t, g, drawn(len(g), code))
		}
	})
	for _, least := range leastOnes(5) {
		for code := range codeCount(5) {
			wantAlike(t, drawn(5, least), drawn(5, code))
		}
	}
}

func TestPromise11AlikeOfMostNodes(t *testing.T) {
	ones := leastOnes(6)
	for _, c := range ones {
		turned := renamed(drawn(6, c), []int{3, 5, 1, 0, 2, 4})
		for _, d := range ones {
			wantAlike(t, turned, drawn(6, d))
		}
	}
	for code := range codeCount(6) {
		g := drawn(6, code)
		wantAlike(t, g, g)
		wantAlike(t, g, drawn(6, classOf(g).least))
	}
}

func TestPromise11OtherNumbersOfNodes(t *testing.T) {
	eachGraph(3, func(g []int, _ int) {
		eachGraph(5, func(h []int, _ int) {
			if len(g) == len(h) {
				return
			}
			if impl.AlikeIn(g, h) || impl.AlikeIn(h, g) {
				t.Fatalf("AlikeIn holds for %v and %v", g, h)
			}
			p, ok := impl.AlikeFirst(g, h)
			failsList(t, "AlikeFirst", []any{g, h}, p, ok)
			p, ok = impl.AlikeFirst(h, g)
			failsList(t, "AlikeFirst", []any{h, g}, p, ok)
		})
	})
	for n := 1; n < 6; n++ {
		for last := range 2 {
			g := drawn(n, last*(codeCount(n)-1))
			if impl.AlikeIn(g, none6) || impl.AlikeIn(none6, g) || impl.AlikeIn(g, full6) || impl.AlikeIn(full6, g) {
				t.Errorf("AlikeIn holds for %v and a graph of 6 nodes", g)
			}
		}
	}
}

func TestPromise11KnownPairs(t *testing.T) {
	for _, k := range []struct {
		g, h  []int
		alike bool
	}{
		{[]int{0}, []int{0}, true}, {[]int{2, 1}, []int{2, 1}, true}, {[]int{2, 1}, []int{0, 0}, false},
		{[]int{2, 5, 2}, []int{6, 1, 1}, true}, {[]int{2, 5, 2}, []int{6, 5, 3}, false},
		{ring6, rings33, false}, {way5, ring3edge, false}, {way4, otherOf(way4), true}, {ring5, otherOf(ring5), true},
		{ring6, otherOf(ring6), false}, {full6, full6, true}, {none6, none6, true}, {full6, none6, false},
	} {
		if impl.AlikeIn(k.g, k.h) != k.alike || impl.AlikeIn(k.h, k.g) != k.alike {
			t.Errorf("AlikeIn of %v and %v is not %v", k.g, k.h, k.alike)
		}
	}
}

func TestPromise11InvalidGraphs(t *testing.T) {
	for _, g := range noGraphs() {
		for _, h := range [][]int{g, {0}, {2, 1}, way4, full6, none6} {
			if impl.AlikeIn(g, h) || impl.AlikeIn(h, g) {
				t.Errorf("AlikeIn holds for %v and %v", g, h)
			}
		}
	}
}

// Promise 12: the names of AlikeFirst are the first ones of all that lead to the second graph.
func TestPromise12FirstNames(t *testing.T) {
	want := func(g []int, h []int, all [][]int) {
		p, ok := impl.AlikeFirst(g, h)
		hasList(t, "AlikeFirst", []any{g, h}, p, ok, firstNames(g, h, all))
		if !impl.AlikeIn(g, h) {
			t.Fatalf("AlikeIn does not hold for %v and %v", g, h)
		}
	}
	for n := 1; n <= 6; n++ {
		all := ordered(n)
		step := max(1, len(all)/37)
		for _, code := range leastOnes(n) {
			g := drawn(n, code)
			for i := 0; i < len(all); i += step {
				h := renamed(g, all[i])
				want(g, h, all)
				want(h, g, all)
			}
		}
	}
}

func TestPromise12KnownNames(t *testing.T) {
	for _, k := range []struct{ g, h, p []int }{
		{[]int{0}, []int{0}, []int{0}}, {[]int{2, 1}, []int{2, 1}, []int{0, 1}},
		{[]int{2, 5, 2}, []int{6, 1, 1}, []int{1, 0, 2}}, {[]int{6, 1, 1}, []int{2, 5, 2}, []int{1, 0, 2}},
		{[]int{2, 1, 0}, []int{0, 4, 2}, []int{1, 2, 0}}, {way4, []int{12, 8, 1, 3}, []int{1, 3, 0, 2}},
		{ring6, ring6, []int{0, 1, 2, 3, 4, 5}}, {full6, full6, []int{0, 1, 2, 3, 4, 5}},
	} {
		p, ok := impl.AlikeFirst(k.g, k.h)
		hasList(t, "AlikeFirst", []any{k.g, k.h}, p, ok, k.p)
	}
}

func TestPromise12NoNames(t *testing.T) {
	for _, k := range []struct{ g, h []int }{{ring6, rings33}, {way5, ring3edge}, {full6, none6}, {[]int{0}, []int{0, 0}}, {ring5, ring6}} {
		p, ok := impl.AlikeFirst(k.g, k.h)
		failsList(t, "AlikeFirst", []any{k.g, k.h}, p, ok)
	}
	for _, g := range noGraphs() {
		for _, h := range [][]int{g, {0}, {2, 1}, way4, full6, none6} {
			p, ok := impl.AlikeFirst(g, h)
			failsList(t, "AlikeFirst", []any{g, h}, p, ok)
			p, ok = impl.AlikeFirst(h, g)
			failsList(t, "AlikeFirst", []any{h, g}, p, ok)
		}
	}
}

// Promise 13: the least code is that of a graph that is alike, and none is less.
func TestPromise13LeastCodes(t *testing.T) {
	eachGraph(impl.NodesMax, func(g []int, code int) {
		c, ok := impl.AlikeLeast(g)
		hasNumber(t, "AlikeLeast", g, c, ok, classOf(g).least)
		if c > code || !impl.AlikeIn(must(t)(impl.GraphOf(len(g), c)), g) {
			t.Fatalf("AlikeLeast of %v: %d", g, c)
		}
	})
	for _, k := range []struct {
		g    []int
		code int
	}{
		{[]int{0}, 0}, {[]int{0, 0}, 0}, {[]int{2, 1}, 1}, {[]int{0, 4, 2}, 1}, {[]int{2, 5, 2}, 3}, {[]int{6, 5, 3}, 7},
		{full6, 32767}, {none6, 0}, {[]int{0, 0, 0, 0, 32, 16}, 1},
	} {
		c, ok := impl.AlikeLeast(k.g)
		hasNumber(t, "AlikeLeast", k.g, c, ok, k.code)
	}
}

func TestPromise13InvalidGraphs(t *testing.T) {
	for _, g := range noGraphs() {
		c, ok := impl.AlikeLeast(g)
		failsNumber(t, "AlikeLeast", g, c, ok)
	}
}

// Promise 14: the names that change nothing, counted.
func TestPromise14Automorphisms(t *testing.T) {
	eachGraph(impl.NodesMax, func(g []int, _ int) {
		same, ok := impl.AlikeSame(g)
		hasNumber(t, "AlikeSame", g, same, ok, classOf(g).same)
		if many := mustNumber(t)(impl.AlikeMany(g)); same*many != factorials[len(g)] {
			t.Fatalf("AlikeSame and AlikeMany of %v: %d and %d", g, same, many)
		}
		other, ok := impl.AlikeSame(otherOf(g))
		hasNumber(t, "AlikeSame of GraphOther", g, other, ok, same)
	})
	for _, k := range []struct {
		g    []int
		same int
	}{
		{[]int{0}, 1}, {[]int{0, 0}, 2}, {[]int{2, 1}, 2}, {[]int{2, 5, 2}, 2}, {way4, 2}, {ring5, 10}, {ring6, 12},
		{rings33, 72}, {way5, 2}, {ring3edge, 12}, {full6, 720}, {none6, 720},
	} {
		same, ok := impl.AlikeSame(k.g)
		hasNumber(t, "AlikeSame", k.g, same, ok, k.same)
	}
}

func TestPromise14InvalidGraphs(t *testing.T) {
	for _, g := range noGraphs() {
		same, ok := impl.AlikeSame(g)
		failsNumber(t, "AlikeSame", g, same, ok)
	}
}

// orbitsByNames finds the orbits by trying all names.
func orbitsByNames(g []int, all [][]int) []int {
	var orbits []int
	called := make([]int, len(g))
	for _, p := range all {
		if slices.Equal(renamed(g, p), g) {
			for v, name := range p {
				called[v] |= 1 << name
			}
		}
	}
	for v, orbit := range called {
		if orbit&(1<<v-1) == 0 {
			orbits = append(orbits, orbit)
		}
	}
	return orbits
}

// wantOrbits checks AlikeOrbits against all names, and what promise 15 says of them.
func wantOrbits(t *testing.T, g []int, all [][]int) {
	t.Helper()
	orbits, ok := impl.AlikeOrbits(g)
	hasList(t, "AlikeOrbits", g, orbits, ok, orbitsByNames(g, all))
	together := 0
	for _, orbit := range orbits {
		size := len(nodesOf(orbit, len(g)))
		if orbit&together != 0 || mustNumber(t)(impl.AlikeSame(g))%size != 0 {
			t.Fatalf("AlikeOrbits of %v: %v", g, orbits)
		}
		together |= orbit
	}
	if together != 1<<len(g)-1 {
		t.Fatalf("AlikeOrbits of %v: %v have not all nodes", g, orbits)
	}
}

// Promise 15: orbits are what automorphisms call a node.
func TestPromise15Orbits(t *testing.T) {
	for n := 1; n <= 5; n++ {
		all := namings(n)
		for code := range codeCount(n) {
			wantOrbits(t, drawn(n, code), all)
		}
	}
	all := namings(6)
	for _, code := range leastOnes(6) {
		g := drawn(6, code)
		wantOrbits(t, g, all)
		wantOrbits(t, renamed(g, []int{2, 0, 5, 1, 4, 3}), all)
		wantOrbits(t, renamed(g, backwards(6)), all)
	}
	for _, k := range []struct{ g, orbits []int }{
		{[]int{0}, []int{1}}, {[]int{0, 0}, []int{3}}, {[]int{2, 5, 2}, []int{5, 2}}, {[]int{6, 1, 1}, []int{1, 6}},
		{way4, []int{9, 6}}, {way5, []int{17, 10, 4}}, {ring3edge, []int{7, 24}}, {ring6, []int{63}}, {full6, []int{63}},
		{none6, []int{63}}, {[]int{8, 4, 10, 21, 40, 16}, []int{1, 34, 20, 8}},
	} {
		orbits, ok := impl.AlikeOrbits(k.g)
		hasList(t, "AlikeOrbits", k.g, orbits, ok, k.orbits)
	}
}

func TestPromise15InvalidGraphs(t *testing.T) {
	for _, g := range noGraphs() {
		orbits, ok := impl.AlikeOrbits(g)
		failsList(t, "AlikeOrbits", g, orbits, ok)
	}
}

// Promise 16: each kind of graph stands once in AlikeAll.
func TestPromise16AllLeastCodes(t *testing.T) {
	counts := []int{0, 1, 2, 4, 11, 34}
	for n := 1; n <= 5; n++ {
		codes, ok := impl.AlikeAll(n)
		hasList(t, "AlikeAll", n, codes, ok, leastOnes(n))
		if len(codes) != counts[n] {
			t.Errorf("AlikeAll of %d has %d codes", n, len(codes))
		}
		sum := 0
		for _, code := range codes {
			g := must(t)(impl.GraphOf(n, code))
			least, ok := impl.AlikeLeast(g)
			hasNumber(t, "AlikeLeast", g, least, ok, code)
			sum += mustNumber(t)(impl.AlikeMany(g))
		}
		if sum != codeCount(n) {
			t.Errorf("the graphs alike to those of AlikeAll of %d are %d", n, sum)
		}
	}
	for n, want := range [][]int{1: {0}, 2: {0, 1}, 3: {0, 1, 3, 7}} {
		if n > 0 {
			codes, ok := impl.AlikeAll(n)
			hasList(t, "AlikeAll", n, codes, ok, want)
		}
	}
}

func TestPromise16InvalidNumbersOfNodes(t *testing.T) {
	for _, n := range []int{least, -64, -5, -2, -1, 0, 6, 7, 8, 63, 64, 65, 1 << 32, most} {
		codes, ok := impl.AlikeAll(n)
		failsList(t, "AlikeAll", n, codes, ok)
	}
}

// Promise 17: only no edge and all pairs are alike to nothing else.
func TestPromise17Many(t *testing.T) {
	eachGraph(impl.NodesMax, func(g []int, code int) {
		many, ok := impl.AlikeMany(g)
		hasNumber(t, "AlikeMany", g, many, ok, classOf(g).many)
		if (many == 1) != (code == 0 || code == codeCount(len(g))-1) {
			t.Fatalf("AlikeMany of %v: %d", g, many)
		}
	})
	for _, k := range []struct {
		g    []int
		many int
	}{
		{[]int{0}, 1}, {[]int{2, 1}, 1}, {[]int{2, 5, 2}, 3}, {way4, 12}, {ring5, 12}, {ring6, 60}, {rings33, 10}, {full6, 1}, {none6, 1},
	} {
		many, ok := impl.AlikeMany(k.g)
		hasNumber(t, "AlikeMany", k.g, many, ok, k.many)
	}
}

func TestPromise17InvalidGraphs(t *testing.T) {
	for _, g := range noGraphs() {
		many, ok := impl.AlikeMany(g)
		failsNumber(t, "AlikeMany", g, many, ok)
	}
}

// Promise 18: own graphs have half of all pairs as edges, and are linked.
func TestPromise18Own(t *testing.T) {
	count := map[int]int{}
	eachGraph(impl.NodesMax, func(g []int, code int) {
		own := impl.AlikeOwn(g)
		if own != (classOf(g).least == classOf(otherOf(g)).least) {
			t.Fatalf("AlikeOwn of %v is %v", g, own)
		}
		if !own {
			return
		}
		n := len(g)
		if 4*mustNumber(t)(impl.GraphEdges(g)) != n*(n-1) || !impl.GraphLinked(g) {
			t.Fatalf("AlikeOwn holds for %v", g)
		}
		if code == classOf(g).least {
			count[n]++
		}
	})
	if fmt.Sprint(count) != "map[1:1 4:1 5:2]" {
		t.Errorf("the numbers of kinds of own graphs are %v", count)
	}
	for _, g := range [][]int{{0}, way4, ring5, {2, 13, 26, 6, 4}} {
		if !impl.AlikeOwn(g) {
			t.Errorf("AlikeOwn does not hold for %v", g)
		}
	}
	for _, g := range [][]int{{0, 0}, {2, 1}, {2, 5, 2}, {14, 1, 1, 1}, {6, 5, 3, 0}, full6, none6} {
		if impl.AlikeOwn(g) {
			t.Errorf("AlikeOwn holds for %v", g)
		}
	}
}

func TestPromise18InvalidGraphs(t *testing.T) {
	for _, g := range noGraphs() {
		if impl.AlikeOwn(g) {
			t.Errorf("AlikeOwn holds for %v", g)
		}
	}
}

// Results share no memory with arguments or earlier results, and arguments stay as they are.
func TestAlikeMemoryIsNotShared(t *testing.T) {
	g, h := roomy(way4), roomy([]int{12, 8, 1, 3})
	wantOwnMemory(t, map[string]func() ([]int, bool){
		"AlikeFirst":  func() ([]int, bool) { return impl.AlikeFirst(g, h) },
		"AlikeOrbits": func() ([]int, bool) { return impl.AlikeOrbits(g) },
		"AlikeAll":    func() ([]int, bool) { return impl.AlikeAll(4) },
	})
	impl.AlikeIn(g, h)
	impl.AlikeLeast(g)
	impl.AlikeSame(g)
	impl.AlikeMany(g)
	impl.AlikeOwn(g)
	wantAsBefore(t, g, way4)
	wantAsBefore(t, h, []int{12, 8, 1, 3})
}
