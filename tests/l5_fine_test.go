package tests

import (
	"fmt"
	"slices"
	"testing"

	"loop.example/graphpieces/impl"
)

// Graphs of six nodes in which all degrees are 3: two rings of three with an edge between
// each two nodes, and each node of one three linked with each one of the other three.
var (
	prism   = []int{14, 21, 35, 49, 42, 28}
	threes6 = []int{56, 56, 56, 7, 7, 7}
)

// besideOf returns the graph of both, without edges between, of any number of nodes.
func besideOf(g []int, h []int) []int {
	both := slices.Clone(g)
	for _, set := range h {
		both = append(both, set<<len(g))
	}
	return both
}

// lookOf returns the look of a node by the document's words.
func lookOf(g []int, colours []int, v int) []int {
	var seen []int
	for _, w := range nodesOf(g[v], len(g)) {
		seen = append(seen, colours[w])
	}
	slices.Sort(seen)
	return append([]int{colours[v]}, seen...)
}

// finerOf counts for each node the different looks that are less than its own.
func finerOf(g []int, colours []int) []int {
	finer := make([]int, len(g))
	for v := range g {
		lesser := map[string]bool{}
		for w := range g {
			if look := lookOf(g, colours, w); slices.Compare(look, lookOf(g, colours, v)) < 0 {
				lesser[fmt.Sprint(look)] = true
			}
		}
		finer[v] = len(lesser)
	}
	return finer
}

// coloursIn counts different colours.
func coloursIn(colours []int) int {
	found := map[int]bool{}
	for _, colour := range colours {
		found[colour] = true
	}
	return len(found)
}

// endOf makes colours finer until as many come as there were ahead.
func endOf(g []int, colours []int) []int {
	for {
		finer := finerOf(g, colours)
		if coloursIn(finer) == coloursIn(colours) {
			return finer
		}
		colours = finer
	}
}

// evenOf counts the neighbours of each colour for each two nodes of one colour.
func evenOf(g []int, colours []int) bool {
	for v := range g {
		for w := range v {
			if colours[v] != colours[w] {
				continue
			}
			for _, colour := range colours {
				if seenOf(g, colours, v, colour) != seenOf(g, colours, w, colour) {
					return false
				}
			}
		}
	}
	return true
}

// seenOf counts the neighbours of a node that have a colour.
func seenOf(g []int, colours []int, v int, colour int) int {
	count := 0
	for w := range g {
		if g[v]>>w&1 == 1 && colours[w] == colour {
			count++
		}
	}
	return count
}

// refines reports whether nodes of different colours have different finer ones.
func refines(finer []int, colours []int) bool {
	for v := range colours {
		for w := range v {
			if colours[v] != colours[w] && finer[v] == finer[w] {
				return false
			}
		}
	}
	return true
}

// fewestEven returns the least number of colours of all even ones that are finer than some.
func fewestEven(g []int, colours []int) int {
	fewest := len(g)
	for _, others := range lists(len(g), 0, len(g)-1) {
		if count := coloursIn(others); count < fewest && refines(others, colours) && evenOf(g, others) {
			fewest = count
		}
	}
	return fewest
}

// sameBeside judges two graphs by the end of plain colours for both beside each other.
func sameBeside(g []int, h []int) bool {
	end := endOf(besideOf(g, h), make([]int, len(g)+len(h)))
	first, second := end[:len(g)], end[len(g):]
	slices.Sort(first)
	slices.Sort(second)
	return slices.Equal(first, second)
}

// sameUnfolded judges two graphs without colours: by all that can be met on walks of up
// to twelve steps from each node, which is told by a text.
func sameUnfolded(g []int, h []int) bool {
	known := map[string]int{}
	unfold := func(g []int) []int {
		tells := make([]int, len(g))
		for range 12 {
			next := make([]int, len(g))
			for v := range g {
				key := fmt.Sprint(lookOf(g, tells, v))
				if known[key] == 0 {
					known[key] = len(known) + 1
				}
				next[v] = known[key]
			}
			tells = next
		}
		slices.Sort(tells)
		return tells
	}
	return slices.Equal(unfold(g), unfold(h))
}

// colourLists returns lists of colours of n nodes: all those of a few colours, the least
// and the greatest one among them, which are no numbers in a row.
func colourLists(n int) [][]int {
	palette := []int{1000, 0, 10, 9}
	if n > 4 {
		palette = palette[:2]
	}
	all := lists(n, 0, len(palette)-1)
	for _, list := range all {
		for i, place := range list {
			list[i] = palette[place]
		}
	}
	return all
}

// eachColoured calls do for every graph of 1 to 5 nodes and each kind of 6, with colours.
func eachColoured(do func(g []int, colours []int)) {
	var all [7][][]int
	for n := range all {
		all[n] = colourLists(n)
	}
	eachKind(func(g []int) {
		for _, colours := range all[len(g)] {
			do(g, colours)
		}
	})
}

// noColours returns lists that are no colours of n nodes, by their length or by a number
// that is no colour.
func noColours(n int) [][]int {
	plain := make([]int, n)
	all := [][]int{nil, {}, plain[1:], append(slices.Clone(plain), 0), append(backwards(n), n), slices.Concat(plain, plain), make([]int, 64)}
	for i := range n {
		for _, wrong := range []int{-1, -1000, least, 1001, 1002, 1 << 32, most} {
			colours := backwards(n)
			colours[i] = wrong
			all = append(all, colours)
		}
	}
	return all
}

// colouredGraphs are graphs of all numbers of nodes.
var colouredGraphs = [][]int{{0}, {0, 0}, {2, 1}, {2, 5, 2}, {6, 5, 3}, way4, ring5, prism, full6, none6}

// eachInvalid calls do for graphs with lists that are no colours of them, and for lists
// that are no graphs with some of as many numbers, with few and with none.
func eachInvalid(do func(g []int, colours []int)) {
	for _, g := range colouredGraphs {
		for _, colours := range noColours(len(g)) {
			do(g, colours)
		}
	}
	for _, g := range noGraphs() {
		for _, colours := range [][]int{nil, {0}, {1000}, {0, 0, 0}, make([]int, len(g)), {-1}, {1001, 0}} {
			do(g, colours)
		}
	}
}

// Promise 36: finer colours are places in the order of looks.
func TestPromise36FinerColours(t *testing.T) {
	eachColoured(func(g []int, colours []int) {
		finer, ok := impl.FineStep(g, colours)
		hasList(t, "FineStep", []any{g, colours}, finer, ok, finerOf(g, colours))
		if !refines(finer, colours) {
			t.Fatalf("FineStep of %v and %v: %v", g, colours, finer)
		}
		for _, colour := range finer {
			if colour < 0 || colour >= coloursIn(finer) {
				t.Fatalf("FineStep of %v and %v: %v", g, colours, finer)
			}
		}
	})
}

func TestPromise36KnownSteps(t *testing.T) {
	for _, k := range []struct{ g, colours, finer []int }{
		{[]int{0}, []int{0}, []int{0}}, {[]int{0}, []int{1000}, []int{0}}, {[]int{0, 0}, []int{1000, 0}, []int{1, 0}}, {[]int{2, 1}, []int{5, 5}, []int{0, 0}},
		{[]int{2, 5, 2}, []int{0, 0, 0}, []int{0, 1, 0}}, {[]int{2, 5, 2}, []int{7, 1000, 7}, []int{0, 1, 0}}, {[]int{2, 5, 2}, []int{1000, 7, 1000}, []int{1, 0, 1}},
		{[]int{2, 5, 2}, []int{9, 10, 10}, []int{0, 1, 2}}, {[]int{2, 5, 2}, []int{100, 20, 3}, []int{2, 1, 0}}, {[]int{0, 4, 2}, []int{0, 0, 0}, []int{0, 1, 1}},
		// One node with few neighbours of great colours, and one with many of little ones.
		{[]int{14, 1, 1, 1, 32, 16}, []int{5, 0, 0, 0, 5, 1000}, []int{1, 0, 0, 0, 2, 3}},
		// Looks that begin in the same way, and neighbours whose colours stand the wrong way round.
		{[]int{6, 1, 1, 16, 8, 0}, []int{4, 9, 8, 4, 8, 4}, []int{2, 4, 3, 1, 3, 0}},
		{way4, []int{0, 1, 0, 1}, []int{0, 3, 1, 2}}, {way5, make([]int, 5), []int{0, 1, 1, 1, 0}}, {full6, []int{3, 1, 4, 1, 5, 9}, []int{1, 0, 2, 0, 3, 4}},
		{none6, []int{3, 1, 4, 1, 5, 9}, []int{1, 0, 2, 0, 3, 4}}, {none6, []int{1000, 0, 1000, 0, 1000, 0}, []int{1, 0, 1, 0, 1, 0}},
	} {
		finer, ok := impl.FineStep(k.g, k.colours)
		hasList(t, "FineStep", []any{k.g, k.colours}, finer, ok, k.finer)
	}
}

func TestPromise36OtherColoursAndInvalidGraphs(t *testing.T) {
	eachInvalid(func(g []int, colours []int) {
		finer, ok := impl.FineStep(g, colours)
		failsList(t, "FineStep", []any{g, colours}, finer, ok)
	})
}

// wantEven checks that FineEven holds, by the document's words too.
func wantEven(t *testing.T, g []int, colours []int) {
	t.Helper()
	if !impl.FineEven(g, colours) || !evenOf(g, colours) {
		t.Fatalf("colours %v of %v are not even", colours, g)
	}
}

// Promise 37: the end of plain colours is even, and FineMany counts its colours.
func TestPromise37EndOfPlainColours(t *testing.T) {
	eachGraph(impl.NodesMax, func(g []int, _ int) {
		end := must(t)(impl.FineEnd(g))
		wantEven(t, g, end)
		many, ok := impl.FineMany(g)
		hasNumber(t, "FineMany", g, many, ok, coloursIn(end))
	})
	eachKind(func(g []int) {
		end, ok := impl.FineEnd(g)
		hasList(t, "FineEnd", g, end, ok, endOf(g, make([]int, len(g))))
	})
}

func TestPromise37FewestColours(t *testing.T) {
	for n := 1; n <= 5; n++ {
		for _, code := range leastOnes(n) {
			g := drawn(n, code)
			many, ok := impl.FineMany(g)
			hasNumber(t, "FineMany", g, many, ok, fewestEven(g, make([]int, n)))
		}
	}
}

func TestPromise37KnownEnds(t *testing.T) {
	for _, k := range []struct {
		g, end []int
		many   int
	}{
		{[]int{0}, []int{0}, 1}, {[]int{0, 0}, []int{0, 0}, 1}, {[]int{2, 1}, []int{0, 0}, 1}, {[]int{2, 5, 2}, []int{0, 1, 0}, 2}, {[]int{0, 4, 2}, []int{0, 1, 1}, 2},
		{way4, []int{0, 1, 1, 0}, 2}, {way5, []int{0, 1, 2, 1, 0}, 3}, {star5, []int{1, 0, 0, 0, 0}, 2}, {ring4, []int{1, 1, 1, 1, 0}, 2}, {ring5, make([]int, 5), 1},
		{ring3edge, []int{1, 1, 1, 0, 0}, 2}, {ring6, none6, 1}, {rings33, none6, 1}, {prism, none6, 1}, {full6, none6, 1}, {none6, none6, 1},
		// A way of six, and a ring of three from which ways of one and of two edges go off.
		{[]int{2, 5, 10, 20, 40, 16}, []int{0, 1, 2, 2, 1, 0}, 3}, {[]int{14, 21, 3, 1, 34, 16}, []int{4, 5, 3, 1, 2, 0}, 6},
	} {
		end, ok := impl.FineEnd(k.g)
		hasList(t, "FineEnd", k.g, end, ok, k.end)
		many, ok := impl.FineMany(k.g)
		hasNumber(t, "FineMany", k.g, many, ok, k.many)
	}
}

func TestPromise37InvalidGraphs(t *testing.T) {
	for _, g := range noGraphs() {
		end, ok := impl.FineEnd(g)
		failsList(t, "FineEnd", g, end, ok)
		many, ok := impl.FineMany(g)
		failsNumber(t, "FineMany", g, many, ok)
	}
}

// Promise 38: the end of some colours is even, and its own end.
func TestPromise38EndOfSomeColours(t *testing.T) {
	eachColoured(func(g []int, colours []int) {
		end, ok := impl.FineFrom(g, colours)
		hasList(t, "FineFrom", []any{g, colours}, end, ok, endOf(g, colours))
		again, ok := impl.FineFrom(g, end)
		hasList(t, "FineFrom", []any{g, end}, again, ok, end)
		wantEven(t, g, end)
		if !refines(end, colours) {
			t.Fatalf("FineFrom of %v and %v: %v", g, colours, end)
		}
	})
	eachKind(func(g []int) {
		end := must(t)(impl.FineEnd(g))
		again, ok := impl.FineFrom(g, make([]int, len(g)))
		hasList(t, "FineFrom", []any{g, "all 0"}, again, ok, end)
		again, ok = impl.FineFrom(g, end)
		hasList(t, "FineFrom", []any{g, end}, again, ok, end)
	})
}

func TestPromise38FewestColours(t *testing.T) {
	for n := 1; n <= 4; n++ {
		for _, code := range leastOnes(n) {
			g := drawn(n, code)
			for _, colours := range colourLists(n) {
				if end := must(t)(impl.FineFrom(g, colours)); coloursIn(end) != fewestEven(g, colours) {
					t.Fatalf("FineFrom of %v and %v: %v", g, colours, end)
				}
			}
		}
	}
}

func TestPromise38KnownEnds(t *testing.T) {
	for _, k := range []struct{ g, colours, end []int }{
		// Also where no more colours come, it is the last ones that count.
		{[]int{0}, []int{1000}, []int{0}}, {[]int{0}, []int{0}, []int{0}}, {[]int{6, 5, 3}, []int{7, 7, 7}, []int{0, 0, 0}}, {[]int{2, 5, 2}, []int{7, 1000, 7}, []int{0, 1, 0}},
		{[]int{2, 5, 2}, []int{1000, 7, 1000}, []int{1, 0, 1}}, {none6, []int{5, 0, 1000, 5, 9, 0}, []int{1, 0, 3, 1, 2, 0}},
		{way4, []int{0, 1, 1, 0}, []int{0, 1, 1, 0}}, {way4, []int{1, 0, 0, 1}, []int{1, 0, 0, 1}}, {way4, []int{0, 0, 0, 1}, []int{0, 1, 2, 3}},
		{ring6, []int{1, 0, 0, 0, 0, 0}, []int{3, 2, 1, 0, 1, 2}}, {rings33, []int{1, 0, 0, 0, 0, 0}, []int{2, 1, 1, 0, 0, 0}},
		{full6, []int{0, 0, 0, 0, 0, 1000}, []int{0, 0, 0, 0, 0, 1}}, {way5, []int{3, 3, 3, 3, 3}, []int{0, 1, 2, 1, 0}},
	} {
		end, ok := impl.FineFrom(k.g, k.colours)
		hasList(t, "FineFrom", []any{k.g, k.colours}, end, ok, k.end)
	}
}

func TestPromise38OtherColoursAndInvalidGraphs(t *testing.T) {
	eachInvalid(func(g []int, colours []int) {
		end, ok := impl.FineFrom(g, colours)
		failsList(t, "FineFrom", []any{g, colours}, end, ok)
	})
}

// Promise 39: there are no more colours than orbits, and one alone just if all degrees
// are the same.
func TestPromise39ColoursAndOrbits(t *testing.T) {
	eachKind(func(g []int) {
		many := mustNumber(t)(impl.FineMany(g))
		orbits := must(t)(impl.AlikeOrbits(g))
		degrees := must(t)(impl.GraphDegrees(g))
		if many > len(orbits) || (many == 1) != (coloursIn(degrees) == 1) {
			t.Fatalf("FineMany of %v: %d; it has %d orbits and the degrees %v", g, many, len(orbits), degrees)
		}
	})
	// All degrees are the same, and of 720 or 120 names few make the graph itself.
	for _, k := range []struct {
		g    []int
		same int
	}{{ring5, 10}, {ring6, 12}, {prism, 12}, {rings33, 72}, {threes6, 72}, {[]int{2, 1, 8, 4, 32, 16}, 48}} {
		same, ok := impl.AlikeSame(k.g)
		hasNumber(t, "AlikeSame", k.g, same, ok, k.same)
		many, ok := impl.FineMany(k.g)
		hasNumber(t, "FineMany", k.g, many, ok, 1)
	}
}

// wantFineSame checks FineSame of two graphs, also exchanged, and what follows if it holds.
func wantFineSame(t *testing.T, g []int, h []int, want bool) {
	t.Helper()
	if impl.FineSame(g, h) != want || impl.FineSame(h, g) != want {
		t.Fatalf("FineSame of %v and %v is not %v", g, h, want)
	}
	if !want {
		return
	}
	degrees, ok := impl.NumberDegrees(g)
	hasList(t, "NumberDegrees", g, degrees, ok, must(t)(impl.NumberDegrees(h)))
	walks, ok := impl.NumberWalks(g, 6)
	hasNumber(t, "NumberWalks", []any{g, 6}, walks, ok, mustNumber(t)(impl.NumberWalks(h, 6)))
}

// Promise 40: graphs of as many nodes are told apart by the colours of both beside each other.
func TestPromise40SameColours(t *testing.T) {
	missed := 0
	for n := 1; n <= 6; n++ {
		ones := leastOnes(n)
		for i, c := range ones {
			turned := renamed(drawn(n, c), backwards(n))
			for j, d := range ones[:i+1] {
				h := drawn(n, d)
				same := sameUnfolded(turned, h)
				if n < 6 && same != sameBeside(turned, h) {
					t.Fatalf("the tests do not agree on %v and %v", turned, h)
				}
				wantFineSame(t, turned, h, same)
				if same && j < i {
					missed++
				}
			}
		}
	}
	if missed != 4 {
		t.Errorf("%d pairs of graphs that are not alike are not told apart by colours", missed)
	}
}

func TestPromise40KnownPairs(t *testing.T) {
	for _, k := range []struct {
		g, h []int
		same bool
	}{
		{ring6, rings33, true}, {prism, threes6, true}, {otherOf(ring6), otherOf(rings33), true}, {ring6, prism, false}, {full6, full6, true}, {none6, none6, true},
		{full6, none6, false}, {ring6, ring6, true}, {ring6, otherOf(prism), true}, {way5, ring3edge, false}, {star5, ring4, false}, {[]int{0}, []int{0}, true},
		{[]int{2, 1}, []int{2, 1}, true}, {[]int{2, 1}, []int{0, 0}, false}, {[]int{2, 5, 2}, []int{6, 1, 1}, true}, {[]int{0, 0, 0}, []int{6, 5, 3}, false},
		// Not alike, with different degrees in each one.
		{[]int{38, 33, 25, 20, 12, 3}, []int{56, 40, 24, 7, 5, 3}, true}, {[]int{42, 37, 26, 21, 12, 3}, []int{56, 56, 24, 7, 7, 3}, true},
		// The same degrees, and for each one alone the same end.
		{[]int{42, 21, 10, 5, 2, 1}, []int{44, 28, 3, 3, 2, 1}, false}, {[]int{54, 45, 27, 22, 13, 3}, []int{60, 60, 27, 7, 7, 3}, false},
		// Other numbers of nodes.
		{[]int{0}, []int{0, 0}, false}, {[]int{2, 1}, []int{2, 1, 0}, false}, {[]int{2, 1}, []int{6, 5, 3}, false}, {ring5, ring6, false}, {[]int{0, 0, 0, 0, 0}, none6, false},
		{[]int{0}, none6, false}, {[]int{6, 5, 3}, rings33, false}, {[]int{2, 1}, []int{2, 1, 8, 4}, false},
	} {
		wantFineSame(t, k.g, k.h, k.same)
	}
}

func TestPromise40InvalidGraphs(t *testing.T) {
	for _, g := range noGraphs() {
		for _, h := range [][]int{g, {0}, {0, 0}, {2, 1}, {6, 5, 3}, way4, ring6, full6, none6} {
			if impl.FineSame(g, h) || impl.FineSame(h, g) {
				t.Errorf("FineSame holds for %v and %v", g, h)
			}
		}
	}
}

// Promise 41: graphs that are alike are not told apart by colours.
func TestPromise41AlikeGraphs(t *testing.T) {
	eachKind(func(g []int) {
		for _, h := range [][]int{g, drawn(len(g), classOf(g).least), renamed(g, backwards(len(g)))} {
			if !impl.AlikeIn(g, h) || !impl.FineSame(g, h) {
				t.Fatalf("AlikeIn or FineSame does not hold for %v and %v", g, h)
			}
		}
	})
	for _, p := range namings(6) {
		for _, g := range [][]int{ring6, prism, {14, 21, 3, 1, 34, 16}} {
			if h := renamed(g, p); !impl.FineSame(g, h) {
				t.Fatalf("FineSame does not hold for %v and %v", g, h)
			}
		}
	}
}

// Promise 42: even colours do not become more.
func TestPromise42EvenColours(t *testing.T) {
	eachColoured(func(g []int, colours []int) {
		even := impl.FineEven(g, colours)
		if even != evenOf(g, colours) {
			t.Fatalf("FineEven of %v and %v is %v", g, colours, even)
		}
		finer := must(t)(impl.FineStep(g, colours))
		if more := coloursIn(finer) != coloursIn(colours) || !refines(colours, finer); more == even {
			t.Fatalf("FineEven of %v and %v is %v, and FineStep %v", g, colours, even, finer)
		}
	})
}

func TestPromise42KnownColours(t *testing.T) {
	for _, k := range []struct {
		g, colours []int
		even       bool
	}{
		{[]int{0}, []int{0}, true}, {[]int{0}, []int{1000}, true}, {[]int{0, 0}, []int{3, 3}, true}, {[]int{0, 0}, []int{3, 4}, true}, {[]int{2, 1}, []int{0, 1000}, true},
		{[]int{2, 5, 2}, []int{7, 1000, 7}, true}, {[]int{2, 5, 2}, []int{0, 0, 0}, false}, {[]int{2, 5, 2}, []int{0, 0, 1}, false}, {[]int{2, 5, 2}, []int{1000, 0, 7}, true},
		{way4, []int{0, 1, 1, 0}, true}, {way4, []int{0, 1, 0, 1}, false}, {way4, []int{0, 0, 1, 1}, false}, {way4, []int{1, 2, 3, 4}, true}, {way5, []int{0, 1, 1, 1, 0}, false},
		{ring6, []int{0, 1, 0, 1, 0, 1}, true}, {ring6, []int{0, 1, 2, 0, 1, 2}, true}, {ring6, []int{0, 0, 0, 1, 1, 1}, false}, {ring6, none6, true},
		{ring6, []int{0, 0, 1, 0, 0, 1}, true}, {full6, []int{9, 0, 0, 9, 0, 1000}, true}, {none6, []int{9, 0, 0, 9, 0, 1000}, true}, {none6, none6, true},
		// As many neighbours, but of other colours.
		{[]int{2, 1, 8, 4, 32, 16}, []int{0, 1, 0, 1, 2, 3}, true}, {[]int{2, 1, 8, 4, 32, 16}, []int{0, 1, 0, 2, 3, 3}, false},
	} {
		if impl.FineEven(k.g, k.colours) != k.even {
			t.Errorf("FineEven of %v and %v is not %v", k.g, k.colours, k.even)
		}
	}
}

func TestPromise42OtherColoursAndInvalidGraphs(t *testing.T) {
	eachInvalid(func(g []int, colours []int) {
		if impl.FineEven(g, colours) {
			t.Errorf("FineEven holds for %v and %v", g, colours)
		}
	})
}

// Results share no memory with arguments or earlier results, and arguments stay as they
// are, also where the colours are at their end already.
func TestFineMemoryIsNotShared(t *testing.T) {
	for _, list := range [][]int{{0, 1, 1, 0}, {0, 0, 0, 0}, {1000, 7, 0, 7}, {3, 2, 1, 0}} {
		g, h, colours := roomy(way4), roomy([]int{12, 8, 1, 3}), roomy(list)
		wantOwnMemory(t, map[string]func() ([]int, bool){
			"FineStep": func() ([]int, bool) { return impl.FineStep(g, colours) },
			"FineEnd":  func() ([]int, bool) { return impl.FineEnd(g) },
			"FineFrom": func() ([]int, bool) { return impl.FineFrom(g, colours) },
		})
		impl.FineMany(g)
		impl.FineSame(g, h)
		impl.FineEven(g, colours)
		wantAsBefore(t, g, way4)
		wantAsBefore(t, h, []int{12, 8, 1, 3})
		wantAsBefore(t, colours, list)
	}
}
