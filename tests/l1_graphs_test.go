package tests

import (
	"slices"
	"testing"

	"loop.example/graphpieces/impl"
)

// Some graphs by name: a way of four nodes, a ring of five, and all pairs of six.
var (
	way4  = []int{2, 5, 10, 4}
	ring5 = []int{18, 5, 10, 20, 9}
	full6 = []int{62, 61, 59, 55, 47, 31}
	none6 = []int{0, 0, 0, 0, 0, 0}
)

// linkedBySteps judges by ways of edges from each node to each other one.
func linkedBySteps(g []int) bool {
	var far [6][6]bool
	for v := range g {
		for w := range g {
			far[v][w] = v == w || g[v]>>w&1 == 1
		}
	}
	for by := range g {
		for v := range g {
			for w := range g {
				far[v][w] = far[v][w] || far[v][by] && far[by][w]
			}
		}
	}
	for v := range g {
		for w := range g {
			if !far[v][w] {
				return false
			}
		}
	}
	return true
}

// Promise 1: what GraphIn calls a graph comes back from its code.
func TestPromise1GraphsComeBackFromCodes(t *testing.T) {
	eachGraph(impl.NodesMax, func(g []int, code int) {
		wantGraph(t, "drawn", g)
		c := mustNumber(t)(impl.GraphCode(g))
		back, ok := impl.GraphOf(len(g), c)
		hasList(t, "GraphOf", []int{len(g), c}, back, ok, g)
	})
}

func TestPromise1GraphInTellsWhatIsNone(t *testing.T) {
	for _, g := range noGraphs() {
		if impl.GraphIn(g) {
			t.Errorf("GraphIn holds for %v", g)
		}
	}
}

// All short lists of small numbers, most of which are no graphs.
func TestPromise1GraphInJudgesAllShortLists(t *testing.T) {
	for n := 1; n <= 3; n++ {
		g := make([]int, n)
		var try func(i int)
		try = func(i int) {
			if i == n {
				if impl.GraphIn(g) != isGraph(g) {
					t.Errorf("GraphIn of %v is %v", g, !isGraph(g))
				}
				return
			}
			for set := -2; set < 18; set++ {
				g[i] = set
				try(i + 1)
			}
		}
		try(0)
	}
}

// A graph stops being one when one bit of it is changed.
func TestPromise1GraphInSeesEachBit(t *testing.T) {
	for _, whole := range [][]int{{0}, {2, 1}, {0, 0}, way4, ring5, full6, none6} {
		for v := range whole {
			for bit := range 64 {
				g := slices.Clone(whole)
				g[v] ^= 1 << bit
				if impl.GraphIn(g) {
					t.Errorf("GraphIn holds for %v", g)
				}
			}
		}
	}
}

func TestPromise1LimitOfNodes(t *testing.T) {
	if impl.NodesMax != 6 {
		t.Fatalf("NodesMax is %d", impl.NodesMax)
	}
	for n := range 10 {
		want := n >= 1 && n <= 6
		if impl.GraphIn(make([]int, n)) != want {
			t.Errorf("GraphIn of %d nodes without edges is %v", n, !want)
		}
	}
}

// Promise 2: GraphCode has the bits of the document's list of pairs, and GraphOther all others.
func TestPromise2CodesByPairs(t *testing.T) {
	eachGraph(impl.NodesMax, func(g []int, code int) {
		c, ok := impl.GraphCode(g)
		hasNumber(t, "GraphCode", g, c, ok, code)
		back, ok := impl.GraphOf(len(g), code)
		hasList(t, "GraphOf", []int{len(g), code}, back, ok, g)
		other := must(t)(impl.GraphOther(g))
		rest, ok := impl.GraphCode(other)
		hasNumber(t, "GraphCode of GraphOther", g, rest, ok, codeCount(len(g))-1-code)
	})
}

func TestPromise2CodesOfKnownGraphs(t *testing.T) {
	known := []struct {
		g    []int
		code int
	}{
		{[]int{0}, 0}, {[]int{0, 0}, 0}, {[]int{2, 1}, 1},
		{[]int{2, 1, 0}, 1}, {[]int{4, 0, 1}, 2}, {[]int{0, 4, 2}, 4}, {[]int{2, 5, 2}, 5}, {[]int{6, 5, 3}, 7},
		{way4, 1 + 4 + 32}, {ring5, 1 + 4 + 32 + 64 + 512}, {full6, 32767}, {none6, 0},
		{[]int{0, 0, 0, 0, 32, 16}, 16384}, {[]int{32, 0, 0, 0, 0, 1}, 1024},
	}
	for _, k := range known {
		c, ok := impl.GraphCode(k.g)
		hasNumber(t, "GraphCode", k.g, c, ok, k.code)
		back, ok := impl.GraphOf(len(k.g), k.code)
		hasList(t, "GraphOf", []int{len(k.g), k.code}, back, ok, k.g)
	}
}

func TestPromise2InvalidCodesAndGraphs(t *testing.T) {
	for _, g := range noGraphs() {
		c, ok := impl.GraphCode(g)
		failsNumber(t, "GraphCode", g, c, ok)
	}
	for n := 1; n <= impl.NodesMax; n++ {
		for _, code := range noCodes(n) {
			g, ok := impl.GraphOf(n, code)
			failsList(t, "GraphOf", []int{n, code}, g, ok)
		}
	}
	for _, n := range []int{least, -64, -1, 0, 7, 8, 12, 64, 1 << 32, most} {
		for _, code := range []int{0, 1, -1, most} {
			g, ok := impl.GraphOf(n, code)
			failsList(t, "GraphOf", []int{n, code}, g, ok)
		}
	}
}

// Promise 3: twice the edges are the sum of the degrees.
func TestPromise3EdgesAndDegrees(t *testing.T) {
	eachGraph(impl.NodesMax, func(g []int, code int) {
		edges, ok := impl.GraphEdges(g)
		hasNumber(t, "GraphEdges", g, edges, ok, edgesOf(g))
		sum := 0
		for _, d := range must(t)(impl.GraphDegrees(g)) {
			sum += d
		}
		if sum != 2*edges {
			t.Fatalf("%v: %d edges, and the degrees are %d together", g, edges, sum)
		}
	})
	for _, k := range []struct {
		g     []int
		edges int
	}{{[]int{0}, 0}, {[]int{2, 1}, 1}, {way4, 3}, {ring5, 5}, {full6, 15}, {none6, 0}} {
		edges, ok := impl.GraphEdges(k.g)
		hasNumber(t, "GraphEdges", k.g, edges, ok, k.edges)
	}
}

func TestPromise3InvalidGraphs(t *testing.T) {
	for _, g := range noGraphs() {
		edges, ok := impl.GraphEdges(g)
		failsNumber(t, "GraphEdges", g, edges, ok)
	}
}

// Promise 4: the degrees of both graphs are all other nodes together.
func TestPromise4DegreesOfBoth(t *testing.T) {
	eachGraph(impl.NodesMax, func(g []int, code int) {
		degrees := must(t)(impl.GraphDegrees(g))
		others := must(t)(impl.GraphDegrees(must(t)(impl.GraphOther(g))))
		if len(degrees) != len(g) || len(others) != len(g) {
			t.Fatalf("GraphDegrees of %v: %v", g, degrees)
		}
		for v, d := range degrees {
			if d != degreeOf(g, v) || d+others[v] != len(g)-1 {
				t.Fatalf("%v: the degrees of %d are %d and %d", g, v, d, others[v])
			}
		}
	})
	for _, k := range []struct{ g, degrees []int }{
		{[]int{0}, []int{0}}, {[]int{0, 8, 8, 6}, []int{0, 1, 1, 2}}, {way4, []int{1, 2, 2, 1}},
		{ring5, []int{2, 2, 2, 2, 2}}, {full6, []int{5, 5, 5, 5, 5, 5}}, {none6, none6},
	} {
		degrees, ok := impl.GraphDegrees(k.g)
		hasList(t, "GraphDegrees", k.g, degrees, ok, k.degrees)
	}
}

func TestPromise4InvalidGraphs(t *testing.T) {
	for _, g := range noGraphs() {
		degrees, ok := impl.GraphDegrees(g)
		failsList(t, "GraphDegrees", g, degrees, ok)
	}
}

// Promise 5: GraphOther leads back, and of both graphs one at least is linked.
func TestPromise5Others(t *testing.T) {
	eachGraph(impl.NodesMax, func(g []int, code int) {
		other, ok := impl.GraphOther(g)
		hasList(t, "GraphOther", g, other, ok, drawn(len(g), codeCount(len(g))-1-code))
		back, ok := impl.GraphOther(other)
		hasList(t, "GraphOther twice", g, back, ok, g)
		if !impl.GraphLinked(g) && !impl.GraphLinked(other) {
			t.Fatalf("neither %v nor %v is linked", g, other)
		}
	})
	for _, k := range []struct{ g, other []int }{
		{[]int{0}, []int{0}}, {[]int{0, 0}, []int{2, 1}}, {way4, []int{12, 8, 1, 3}}, {full6, none6}, {none6, full6},
	} {
		other, ok := impl.GraphOther(k.g)
		hasList(t, "GraphOther", k.g, other, ok, k.other)
	}
}

func TestPromise5InvalidGraphs(t *testing.T) {
	for _, g := range noGraphs() {
		other, ok := impl.GraphOther(g)
		failsList(t, "GraphOther", g, other, ok)
	}
}

// wantNamed checks GraphNamed against its words: the node i is called p[i].
func wantNamed(t *testing.T, g []int, p []int) {
	t.Helper()
	h := must(t)(impl.GraphNamed(g, p))
	wantGraph(t, "GraphNamed", h)
	if len(h) != len(g) || edgesOf(h) != edgesOf(g) {
		t.Fatalf("GraphNamed of %v by %v: %v has not as many nodes and edges", g, p, h)
	}
	for i := range g {
		if degreeOf(h, p[i]) != degreeOf(g, i) {
			t.Fatalf("GraphNamed of %v by %v: the degree of %d is not that of its name", g, p, i)
		}
		for j := range g {
			if g[i]>>j&1 != h[p[i]]>>p[j]&1 {
				t.Fatalf("GraphNamed of %v by %v: %v", g, p, h)
			}
		}
	}
}

// Promise 6: names change only what nodes are called.
func TestPromise6Named(t *testing.T) {
	for n := 1; n <= 6; n++ {
		codes := codeCount(n)
		step := max(1, codes/97)
		for _, p := range namings(n) {
			for code := 0; code < codes; code += step {
				wantNamed(t, drawn(n, code), p)
			}
			wantNamed(t, drawn(n, codes-1), p)
		}
	}
	turn := []int{1, 2, 3, 4, 5, 0}
	for code := range codeCount(6) {
		wantNamed(t, drawn(6, code), turn)
	}
}

func TestPromise6KnownNames(t *testing.T) {
	for _, k := range []struct{ g, p, named []int }{
		{[]int{0}, []int{0}, []int{0}},
		{[]int{2, 1, 0}, []int{0, 2, 1}, []int{4, 0, 1}},
		{[]int{2, 1, 0}, []int{1, 2, 0}, []int{0, 4, 2}},
		{way4, []int{2, 0, 3, 1}, []int{12, 8, 1, 3}},
		{ring5, []int{0, 1, 2, 3, 4}, ring5},
		{full6, []int{5, 3, 1, 0, 2, 4}, full6},
	} {
		named, ok := impl.GraphNamed(k.g, k.p)
		hasList(t, "GraphNamed", []any{k.g, k.p}, named, ok, k.named)
	}
}

func TestPromise6InvalidNamesAndGraphs(t *testing.T) {
	for _, g := range noGraphs() {
		named, ok := impl.GraphNamed(g, backwards(len(g)))
		failsList(t, "GraphNamed", g, named, ok)
	}
	for n := 1; n <= impl.NodesMax; n++ {
		for _, p := range noNames(n) {
			for _, code := range []int{0, codeCount(n) / 3, codeCount(n) - 1} {
				named, ok := impl.GraphNamed(drawn(n, code), p)
				failsList(t, "GraphNamed", []any{n, code, p}, named, ok)
			}
		}
	}
}

// wantPart checks that h is the graph of some nodes of g, called by their places.
func wantPart(t *testing.T, what string, g []int, nodes []int, h []int) {
	t.Helper()
	wantGraph(t, what, h)
	if len(h) != len(nodes) {
		t.Fatalf("%s of %v and %v: %v", what, g, nodes, h)
	}
	for i, v := range nodes {
		for j, w := range nodes {
			if h[i]>>j&1 != g[v]>>w&1 {
				t.Fatalf("%s of %v and %v: %v", what, g, nodes, h)
			}
		}
	}
}

// Promise 7: a node is dropped with its edges, and nothing else.
func TestPromise7Dropped(t *testing.T) {
	eachGraph(impl.NodesMax, func(g []int, code int) {
		for v := range g {
			if len(g) == 1 {
				continue
			}
			h := must(t)(impl.GraphDrop(g, v))
			wantPart(t, "GraphDrop", g, nodesOf(1<<len(g)-1-1<<v, len(g)), h)
			if edgesOf(h) != edgesOf(g)-degreeOf(g, v) {
				t.Fatalf("GraphDrop of %v and %d has %d edges", g, v, edgesOf(h))
			}
		}
	})
	for _, k := range []struct {
		g    []int
		v    int
		drop []int
	}{
		{[]int{2, 1}, 0, []int{0}}, {[]int{2, 1}, 1, []int{0}}, {[]int{2, 5, 2}, 1, []int{0, 0}}, {[]int{2, 5, 2}, 2, []int{2, 1}},
		{way4, 1, []int{0, 4, 2}}, {ring5, 0, way4}, {full6, 5, []int{30, 29, 27, 23, 15}},
	} {
		h, ok := impl.GraphDrop(k.g, k.v)
		hasList(t, "GraphDrop", []any{k.g, k.v}, h, ok, k.drop)
	}
}

func TestPromise7InvalidNodesAndGraphs(t *testing.T) {
	for _, v := range []int{-1, 0, 1, most, least} {
		h, ok := impl.GraphDrop([]int{0}, v)
		failsList(t, "GraphDrop of one node alone", v, h, ok)
	}
	for _, g := range noGraphs() {
		h, ok := impl.GraphDrop(g, 0)
		failsList(t, "GraphDrop", g, h, ok)
	}
	for _, g := range [][]int{{0, 0}, {2, 1}, way4, ring5, full6, none6} {
		for _, v := range noNodes(len(g)) {
			h, ok := impl.GraphDrop(g, v)
			failsList(t, "GraphDrop", []any{g, v}, h, ok)
		}
	}
}

// wantParts checks GraphPart for all sets of a graph.
func wantParts(t *testing.T, g []int) {
	t.Helper()
	for set := 1; set < 1<<len(g); set++ {
		h := must(t)(impl.GraphPart(g, set))
		wantPart(t, "GraphPart", g, nodesOf(set, len(g)), h)
		if edgesOf(h) > edgesOf(g) {
			t.Fatalf("GraphPart of %v and %d has more edges", g, set)
		}
	}
	whole, ok := impl.GraphPart(g, 1<<len(g)-1)
	hasList(t, "GraphPart of all nodes", g, whole, ok, g)
}

// Promise 8: a part has the edges of its nodes, and all nodes are the graph.
func TestPromise8Parts(t *testing.T) {
	eachGraph(5, func(g []int, code int) {
		wantParts(t, g)
	})
	for code := 0; code < codeCount(6); code += 11 {
		wantParts(t, drawn(6, code))
	}
	wantParts(t, full6)
	for _, k := range []struct {
		g    []int
		set  int
		part []int
	}{
		{[]int{0}, 1, []int{0}}, {way4, 8, []int{0}}, {way4, 5, []int{0, 0}}, {way4, 13, []int{0, 4, 2}},
		{ring5, 26, []int{0, 4, 2}}, {full6, 42, []int{6, 5, 3}},
	} {
		h, ok := impl.GraphPart(k.g, k.set)
		hasList(t, "GraphPart", []any{k.g, k.set}, h, ok, k.part)
	}
}

func TestPromise8InvalidSetsAndGraphs(t *testing.T) {
	for _, g := range noGraphs() {
		h, ok := impl.GraphPart(g, 1)
		failsList(t, "GraphPart", g, h, ok)
	}
	for _, g := range [][]int{{0}, {0, 0}, {2, 1}, way4, ring5, full6, none6} {
		for _, set := range append(noSets(len(g)), 0) {
			h, ok := impl.GraphPart(g, set)
			failsList(t, "GraphPart", []any{g, set}, h, ok)
		}
	}
}

// wantJoined checks GraphJoin of two graphs that are not too great together.
func wantJoined(t *testing.T, g []int, h []int) {
	t.Helper()
	both := must(t)(impl.GraphJoin(g, h))
	wantGraph(t, "GraphJoin", both)
	if len(both) != len(g)+len(h) || edgesOf(both) != edgesOf(g)+edgesOf(h) {
		t.Fatalf("GraphJoin of %v and %v: %v", g, h, both)
	}
	if impl.GraphLinked(both) {
		t.Fatalf("GraphJoin of %v and %v is linked", g, h)
	}
	first := 1<<len(g) - 1
	second := 1<<len(both) - 1 - first
	part, ok := impl.GraphPart(both, first)
	hasList(t, "GraphPart of GraphJoin", []any{g, h}, part, ok, g)
	part, ok = impl.GraphPart(both, second)
	hasList(t, "GraphPart of GraphJoin", []any{g, h}, part, ok, h)
}

// Promise 9: a joined graph is both, side by side.
func TestPromise9Joined(t *testing.T) {
	eachGraph(4, func(g []int, _ int) {
		eachGraph(min(4, 6-len(g)), func(h []int, _ int) {
			wantJoined(t, g, h)
		})
	})
	eachGraph(5, func(g []int, _ int) {
		wantJoined(t, g, []int{0})
		wantJoined(t, []int{0}, g)
	})
	for _, k := range []struct{ g, h, both []int }{
		{[]int{0}, []int{0}, []int{0, 0}}, {[]int{0}, []int{2, 1}, []int{0, 4, 2}}, {[]int{2, 1}, []int{0}, []int{2, 1, 0}},
		{[]int{2, 5, 2}, []int{6, 5, 3}, []int{2, 5, 2, 48, 40, 24}}, {[]int{2, 1}, way4, []int{2, 1, 8, 20, 40, 16}},
	} {
		both, ok := impl.GraphJoin(k.g, k.h)
		hasList(t, "GraphJoin", []any{k.g, k.h}, both, ok, k.both)
	}
}

func TestPromise9TooManyNodesAndInvalidGraphs(t *testing.T) {
	for n := 1; n <= 6; n++ {
		for m := 1; m <= 6; m++ {
			for _, last := range []int{0, 1} {
				g, h := drawn(n, last*(codeCount(n)-1)), drawn(m, last*(codeCount(m)-1))
				both, ok := impl.GraphJoin(g, h)
				if n+m > 6 {
					failsList(t, "GraphJoin", []any{g, h}, both, ok)
				} else if !ok || len(both) != n+m {
					t.Errorf("GraphJoin of %v and %v: %v, %v", g, h, both, ok)
				}
			}
		}
	}
	for _, g := range noGraphs() {
		both, ok := impl.GraphJoin(g, []int{0})
		failsList(t, "GraphJoin", []any{g, 0}, both, ok)
		both, ok = impl.GraphJoin([]int{0}, g)
		failsList(t, "GraphJoin", []any{0, g}, both, ok)
		both, ok = impl.GraphJoin(g, g)
		failsList(t, "GraphJoin", []any{g, g}, both, ok)
	}
}

// Promise 10: linked graphs have edges enough, under any names.
func TestPromise10Linked(t *testing.T) {
	eachGraph(impl.NodesMax, func(g []int, code int) {
		linked := impl.GraphLinked(g)
		if linked != linkedBySteps(g) {
			t.Fatalf("GraphLinked of %v is %v", g, linked)
		}
		if linked && edgesOf(g) < len(g)-1 {
			t.Fatalf("%v is linked with %d edges", g, edgesOf(g))
		}
		turned := must(t)(impl.GraphNamed(g, backwards(len(g))))
		if impl.GraphLinked(turned) != linked {
			t.Fatalf("GraphLinked of %v and of %v differ", g, turned)
		}
	})
	for _, g := range [][]int{{0}, {2, 1}, {2, 5, 2}, way4, ring5, full6, {8, 4, 10, 21, 40, 16}} {
		if !impl.GraphLinked(g) {
			t.Errorf("GraphLinked does not hold for %v", g)
		}
	}
	for _, g := range [][]int{{0, 0}, {2, 1, 0}, {0, 4, 2}, {2, 1, 8, 4}, none6, {6, 5, 3, 48, 40, 24}, {0, 60, 58, 54, 46, 30}} {
		if impl.GraphLinked(g) {
			t.Errorf("GraphLinked holds for %v", g)
		}
	}
}

func TestPromise10InvalidGraphs(t *testing.T) {
	for _, g := range noGraphs() {
		if impl.GraphLinked(g) {
			t.Errorf("GraphLinked holds for %v", g)
		}
	}
}

// One node alone is a graph of its own in every function.
func TestOneNodeAlone(t *testing.T) {
	one := []int{0}
	if !impl.GraphIn(one) || !impl.GraphLinked(one) {
		t.Error("one node alone is a linked graph")
	}
	c, ok := impl.GraphCode(one)
	hasNumber(t, "GraphCode", one, c, ok, 0)
	edges, ok := impl.GraphEdges(one)
	hasNumber(t, "GraphEdges", one, edges, ok, 0)
	for what, call := range map[string]func() ([]int, bool){
		"GraphOf":      func() ([]int, bool) { return impl.GraphOf(1, 0) },
		"GraphDegrees": func() ([]int, bool) { return impl.GraphDegrees(one) },
		"GraphOther":   func() ([]int, bool) { return impl.GraphOther(one) },
		"GraphNamed":   func() ([]int, bool) { return impl.GraphNamed(one, []int{0}) },
		"GraphPart":    func() ([]int, bool) { return impl.GraphPart(one, 1) },
	} {
		g, ok := call()
		hasList(t, what, one, g, ok, one)
	}
	h, ok := impl.GraphDrop(one, 0)
	failsList(t, "GraphDrop", one, h, ok)
}

// Results share no memory with arguments, spare capacity counted, and arguments stay as they are.
func TestGraphMemoryIsNotShared(t *testing.T) {
	g, h, p := roomy(way4), roomy([]int{2, 1}), roomy([]int{0, 1, 2, 3})
	wantOwnMemory(t, map[string]func() ([]int, bool){
		"GraphOf":      func() ([]int, bool) { return impl.GraphOf(4, 37) },
		"GraphDegrees": func() ([]int, bool) { return impl.GraphDegrees(g) },
		"GraphOther":   func() ([]int, bool) { return impl.GraphOther(g) },
		"GraphNamed":   func() ([]int, bool) { return impl.GraphNamed(g, p) },
		"GraphDrop":    func() ([]int, bool) { return impl.GraphDrop(g, 3) },
		"GraphPart":    func() ([]int, bool) { return impl.GraphPart(g, 15) },
		"GraphJoin":    func() ([]int, bool) { return impl.GraphJoin(g, h) },
	})
	impl.GraphIn(g)
	impl.GraphCode(g)
	impl.GraphEdges(g)
	impl.GraphLinked(g)
	wantAsBefore(t, g, way4)
	wantAsBefore(t, h, []int{2, 1})
	wantAsBefore(t, p, []int{0, 1, 2, 3})
}
