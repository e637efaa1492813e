package impl

import (
	"iter"
	"math/bits"
	"slices"
)

// NodesMax is the greatest number of nodes.
const NodesMax = 6

// graph has the set of the neighbours of each node. It may be longer than
// NodesMax where two graphs stand beside each other.
type graph []int

// asGraph reads a list as a graph. The list is not copied: methods only read
// their graph, but for link, which is for graphs that are just being made.
func asGraph(list []int) (graph, bool) {
	g := graph(list)
	if len(g) < 1 || len(g) > NodesMax {
		return nil, false
	}
	for _, set := range g {
		if !g.hasSet(set) {
			return nil, false
		}
	}
	for v := range g.nodes() {
		for w := range nodesIn(g[v]) {
			if w == v || !g.edge(w, v) {
				return nil, false
			}
		}
	}
	return g, true
}

// asGraphs reads two lists as graphs.
func asGraphs(first []int, second []int) (graph, graph, bool) {
	g, okFirst := asGraph(first)
	h, okSecond := asGraph(second)
	if !okFirst || !okSecond {
		return nil, nil, false
	}
	return g, h, true
}

// told returns what a list tells as a graph, and true, or false if it is none.
func told[T any](list []int, tell func(graph) T) (T, bool) {
	g, ok := asGraph(list)
	if !ok {
		var none T
		return none, false
	}
	return tell(g), true
}

// graphOf returns the graph of n nodes with a code.
func graphOf(n int, code int) graph {
	g := make(graph, n)
	place := 0
	for a, b := range pairs(n) {
		if code>>place&1 == 1 {
			g.link(a, b)
		}
		place++
	}
	return g
}

// isCode reports whether a number is the code of a graph of n nodes, n at most NodesMax.
func isCode(n int, code int) bool {
	return code >= 0 && code < 1<<(n*(n-1)/2)
}

// nodesIn returns the nodes of a set, the least one first.
func nodesIn(set int) iter.Seq[int] {
	return func(yield func(int) bool) {
		for rest := uint(set); rest != 0; rest &= rest - 1 {
			if !yield(bits.TrailingZeros(rest)) {
				return
			}
		}
	}
}

// pairs returns the pairs of n nodes in the order of codes, the lesser node first.
func pairs(n int) iter.Seq2[int, int] {
	return func(yield func(int, int) bool) {
		for b := range n {
			for a := range b {
				if !yield(a, b) {
					return
				}
			}
		}
	}
}

// areNames reports whether a list has each of n nodes once.
func areNames(p []int, n int) bool {
	if len(p) != n {
		return false
	}
	seen := 0
	for _, name := range p {
		if name < 0 || name >= n || seen>>name&1 == 1 {
			return false
		}
		seen |= 1 << name
	}
	return true
}

// all returns the set of all nodes.
func (g graph) all() int {
	return 1<<len(g) - 1
}

// nodes returns all nodes, the least one first.
func (g graph) nodes() iter.Seq[int] {
	return nodesIn(g.all())
}

// hasSet reports whether a number is a set of nodes.
func (g graph) hasSet(set int) bool {
	return set >= 0 && set <= g.all()
}

// edge reports whether b is a neighbour of a.
func (g graph) edge(a int, b int) bool {
	return g[a]>>b&1 == 1
}

// edges returns the edges in the order of pairs, the lesser node first.
func (g graph) edges() iter.Seq2[int, int] {
	return func(yield func(int, int) bool) {
		for a, b := range pairs(len(g)) {
			if g.edge(a, b) && !yield(a, b) {
				return
			}
		}
	}
}

// link makes a pair an edge.
func (g graph) link(a int, b int) {
	g[a] |= 1 << b
	g[b] |= 1 << a
}

// flipped returns the graph in which a pair is an edge just if it is none here.
func (g graph) flipped(a int, b int) graph {
	h := slices.Clone(g)
	h[a] ^= 1 << b
	h[b] ^= 1 << a
	return h
}

// code returns the code, for at most NodesMax nodes.
func (g graph) code() int {
	code, place := 0, 0
	for a, b := range pairs(len(g)) {
		if g.edge(a, b) {
			code |= 1 << place
		}
		place++
	}
	return code
}

// size returns the number of edges.
func (g graph) size() int {
	count := 0
	for range g.edges() {
		count++
	}
	return count
}

// degree returns the number of neighbours of a node.
func (g graph) degree(v int) int {
	return bits.OnesCount(uint(g[v]))
}

// degrees returns the number of neighbours of each node, in order.
func (g graph) degrees() []int {
	list := make([]int, len(g))
	for v := range g.nodes() {
		list[v] = g.degree(v)
	}
	return list
}

// other returns the graph of the other pairs.
func (g graph) other() graph {
	h := make(graph, len(g))
	for v := range g.nodes() {
		h[v] = g.all() &^ g[v] &^ (1 << v)
	}
	return h
}

// named returns the graph in which each node v is called p[v].
func (g graph) named(p []int) graph {
	h := make(graph, len(g))
	for a, b := range g.edges() {
		h.link(p[a], p[b])
	}
	return h
}

// part returns the graph of the nodes of a set, called from 0 on in their order.
func (g graph) part(set int) graph {
	kept := slices.Collect(nodesIn(set))
	h := make(graph, len(kept))
	for i, j := range pairs(len(kept)) {
		if g.edge(kept[i], kept[j]) {
			h.link(i, j)
		}
	}
	return h
}

// drop returns the graph without a node.
func (g graph) drop(v int) graph {
	return g.part(g.all() &^ (1 << v))
}

// beside returns the graph of both, without edges between.
func (g graph) beside(h graph) graph {
	both := make(graph, len(g)+len(h))
	copy(both, g)
	for v, set := range h {
		both[len(g)+v] = set << len(g)
	}
	return both
}

// linked reports whether ways lead from the node 0, and so from each node, to all.
func (g graph) linked() bool {
	return g.reached(1) == g.all()
}

// reached returns the set of all nodes to which ways lead from the nodes of a set, with these.
func (g graph) reached(set int) int {
	for {
		wider := set
		for v := range nodesIn(set) {
			wider |= g[v]
		}
		if wider == set {
			return set
		}
		set = wider
	}
}

// GraphIn reports whether a list is a graph.
func GraphIn(g []int) bool {
	_, ok := asGraph(g)
	return ok
}

// GraphCode returns the code of a graph, and true. It fails if g is no graph.
func GraphCode(g []int) (int, bool) {
	return told(g, graph.code)
}

// GraphOf returns the graph of n nodes with a code, and true.
// It fails if n is not from 1 to NodesMax, or if there is no such code.
func GraphOf(n int, c int) ([]int, bool) {
	if n < 1 || n > NodesMax || !isCode(n, c) {
		return nil, false
	}
	return graphOf(n, c), true
}

// GraphEdges returns the number of edges, and true. It fails if g is no graph.
func GraphEdges(g []int) (int, bool) {
	return told(g, graph.size)
}

// GraphDegrees returns the number of neighbours of each node, in order, and true.
// It fails if g is no graph.
func GraphDegrees(g []int) ([]int, bool) {
	return told(g, graph.degrees)
}

// GraphOther returns the graph in which just the pairs are edges that are none in a graph, and true.
// It fails if g is no graph.
func GraphOther(g []int) ([]int, bool) {
	return told(g, graph.other)
}

// GraphNamed returns the graph in which the node i is called as the number at the place i of names tells, and true.
// It fails if g is no graph, or if p does not have each of its nodes once.
func GraphNamed(g []int, p []int) ([]int, bool) {
	x, ok := asGraph(g)
	if !ok || !areNames(p, len(x)) {
		return nil, false
	}
	return x.named(p), true
}

// GraphDrop returns the graph without a node, all greater ones called 1 less, and true.
// It fails if g is no graph or has one node alone, or if v is none of its nodes.
func GraphDrop(g []int, v int) ([]int, bool) {
	x, ok := asGraph(g)
	if !ok || len(x) == 1 || v < 0 || v >= len(x) {
		return nil, false
	}
	return x.drop(v), true
}

// GraphPart returns the graph of the nodes of a set that is not empty, called from 0 on in their order, and true.
// It fails if g is no graph, or if set is empty or no set of its nodes.
func GraphPart(g []int, set int) ([]int, bool) {
	x, ok := asGraph(g)
	if !ok || set == 0 || !x.hasSet(set) {
		return nil, false
	}
	return x.part(set), true
}

// GraphJoin returns the graph with the nodes of a graph, and those of a second one called by as many more, without edges between, and true.
// It fails if one of both is no graph, or if they have more than NodesMax nodes together.
func GraphJoin(g []int, h []int) ([]int, bool) {
	x, y, ok := asGraphs(g, h)
	if !ok || len(x)+len(y) > NodesMax {
		return nil, false
	}
	return x.beside(y), true
}

// GraphLinked reports whether ways of edges lead from each node to each other one.
// It does not hold if g is no graph.
func GraphLinked(g []int) bool {
	x, ok := asGraph(g)
	return ok && x.linked()
}
