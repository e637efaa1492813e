package tests

import (
	"fmt"
	"slices"
	"testing"

	"loop.example/graphpieces/impl"
)

// dropped returns the graph without a node.
func dropped(g []int, v int) []int {
	return partOf(g, nodesOf(1<<len(g)-1-1<<v, len(g)))
}

// deckOf finds the deck of a graph of at least two nodes by the table of all graphs.
func deckOf(g []int) []int {
	var deck []int
	for v := range g {
		deck = append(deck, classOf(dropped(g, v)).least)
	}
	slices.Sort(deck)
	return deck
}

// edgeDeckOf finds the edge deck of a graph by the table of all graphs.
func edgeDeckOf(g []int) []int {
	var deck []int
	code := codeOf(g)
	for place := range pairCount(len(g)) {
		if code>>place&1 == 1 {
			deck = append(deck, classes()[len(g)][code-1<<place].least)
		}
	}
	slices.Sort(deck)
	return deck
}

// lists returns all lists of so many numbers from first to last.
func lists(length int, first int, last int) [][]int {
	if length == 0 {
		return [][]int{{}}
	}
	var all [][]int
	for _, begun := range lists(length-1, first, last) {
		for i := first; i <= last; i++ {
			all = append(all, append(slices.Clone(begun), i))
		}
	}
	return all
}

// risingDecks returns all lists of length least codes of graphs of n nodes, none less
// than the one ahead of it.
func risingDecks(length int, n int) [][]int {
	var all [][]int
	codes := leastOnes(n)
	var extend func(begun []int, from int)
	extend = func(begun []int, from int) {
		if len(begun) == length {
			all = append(all, slices.Clone(begun))
			return
		}
		for i := from; i < len(codes); i++ {
			extend(append(begun, codes[i]), i)
		}
	}
	extend(nil, 0)
	return all
}

// wantDeckEdges checks DeckEdges of a list against the sum over all its cards.
func wantDeckEdges(t *testing.T, n int, deck []int) {
	t.Helper()
	sum, right := 0, n >= 3 && n <= 6 && len(deck) == n
	for _, card := range deck {
		if right = right && card >= 0 && card < codeCount(n-1); !right {
			break
		}
		sum += edgesOf(drawn(n-1, card))
	}
	got, ok := impl.DeckEdges(n, deck)
	if !right || sum%(n-2) != 0 {
		failsNumber(t, "DeckEdges", []any{n, deck}, got, ok)
		return
	}
	hasNumber(t, "DeckEdges", []any{n, deck}, got, ok, sum/(n-2))
}

// ownersOf returns the least codes of all graphs of n nodes by their decks, as texts.
func ownersOf(n int) map[string]int {
	owners := map[string]int{}
	for _, code := range leastOnes(n) {
		owners[fmt.Sprint(deckOf(drawn(n, code)))] = code
	}
	return owners
}

// wantDeckBack checks DeckBack of a list against the decks of all graphs.
func wantDeckBack(t *testing.T, n int, deck []int, owners map[string]int) bool {
	t.Helper()
	got, ok := impl.DeckBack(n, deck)
	want, found := owners[fmt.Sprint(deck)]
	if !found {
		failsNumber(t, "DeckBack", []any{n, deck}, got, ok)
		return false
	}
	hasNumber(t, "DeckBack", []any{n, deck}, got, ok, want)
	return true
}

// wrongDecks returns lists that are no decks of graphs of n nodes, by their length or by
// a number that is no code, made from a deck.
func wrongDecks(n int, deck []int) [][]int {
	all := [][]int{nil, {}, {0}, deck[1:], deck[:n-1], append(slices.Clone(deck), deck[n-1]), append([]int{0}, deck...), slices.Concat(deck, deck)}
	for i := range deck {
		for _, code := range append(noCodes(n-1), 1<<32, 1<<62) {
			wrong := slices.Clone(deck)
			wrong[i] = code
			all = append(all, wrong)
		}
	}
	return all
}

// Promise 19: decks have the least codes of all cards, and lead back.
func TestPromise19DecksLeadBack(t *testing.T) {
	eachKind(func(g []int) {
		n := len(g)
		if n == 1 {
			return
		}
		deck, ok := impl.DeckOf(g)
		hasList(t, "DeckOf", g, deck, ok, deckOf(g))
		if n >= 3 && n <= 5 {
			code, ok := impl.DeckBack(n, deck)
			hasNumber(t, "DeckBack", []any{n, deck}, code, ok, classOf(g).least)
		}
	})
	for _, k := range []struct{ g, deck []int }{
		{[]int{0, 0}, []int{0, 0}}, {[]int{2, 1}, []int{0, 0}}, {[]int{2, 5, 2}, []int{0, 1, 1}}, {[]int{6, 5, 3}, []int{1, 1, 1}},
		{way4, []int{1, 1, 3, 3}}, {ring5, []int{13, 13, 13, 13, 13}}, {full6, []int{1023, 1023, 1023, 1023, 1023, 1023}},
		{none6, []int{0, 0, 0, 0, 0, 0}},
	} {
		deck, ok := impl.DeckOf(k.g)
		hasList(t, "DeckOf", k.g, deck, ok, k.deck)
	}
}

func TestPromise19NoDeck(t *testing.T) {
	for _, g := range append(noGraphs(), []int{0}) {
		deck, ok := impl.DeckOf(g)
		failsList(t, "DeckOf", g, deck, ok)
	}
}

// wantDeckSame checks DeckSame of two graphs of as many nodes, also exchanged.
func wantDeckSame(t *testing.T, g []int, h []int) {
	t.Helper()
	want := len(g) == 2 || len(g) > 2 && classOf(g).least == classOf(h).least
	if got := impl.DeckSame(g, h); got != want || impl.DeckSame(h, g) != want {
		t.Fatalf("DeckSame of %v and %v is %v", g, h, got)
	}
	if want && !impl.DeckSame(must(t)(impl.GraphOther(g)), must(t)(impl.GraphOther(h))) {
		t.Fatalf("DeckSame does not hold for the other pairs of %v and %v", g, h)
	}
	if want && len(g) > 2 && !impl.AlikeIn(g, h) {
		t.Fatalf("AlikeIn does not hold for %v and %v", g, h)
	}
}

// Promise 20: two graphs of at least three nodes have one deck only if they are alike.
func TestPromise20SameDecks(t *testing.T) {
	eachGraph(4, func(g []int, _ int) {
		for code := range codeCount(len(g)) {
			wantDeckSame(t, g, drawn(len(g), code))
		}
	})
	for n := 5; n <= 6; n++ {
		ones := leastOnes(n)
		for i, c := range ones {
			turned := renamed(drawn(n, c), backwards(n))
			for _, d := range ones[i:] {
				wantDeckSame(t, turned, drawn(n, d))
			}
		}
	}
	for code := range codeCount(5) {
		g := drawn(5, code)
		wantDeckSame(t, g, g)
		wantDeckSame(t, g, drawn(5, classOf(g).least))
	}
	for _, g := range [][]int{way5, ring3edge, ring6, rings33, full6, none6} {
		wantDeckSame(t, g, g)
	}
}

func TestPromise20KnownPairs(t *testing.T) {
	for _, k := range []struct {
		g, h []int
		same bool
	}{
		{[]int{2, 1}, []int{0, 0}, true}, {[]int{2, 1}, []int{2, 1}, true}, {[]int{0}, []int{0}, false},
		{[]int{0}, []int{2, 1}, false}, {[]int{0, 0}, []int{0, 0, 0}, false}, {ring5, ring6, false}, {[]int{0, 0, 0, 0, 0}, none6, false},
		{[]int{2, 5, 2}, []int{6, 1, 1}, true}, {ring6, rings33, false}, {way5, ring3edge, false}, {way4, []int{12, 8, 1, 3}, true},
	} {
		if impl.DeckSame(k.g, k.h) != k.same || impl.DeckSame(k.h, k.g) != k.same {
			t.Errorf("DeckSame of %v and %v is not %v", k.g, k.h, k.same)
		}
	}
}

func TestPromise20InvalidGraphs(t *testing.T) {
	for _, g := range noGraphs() {
		for _, h := range [][]int{g, {0}, {2, 1}, {2, 5, 2}, way4, full6, none6} {
			if impl.DeckSame(g, h) || impl.DeckSame(h, g) {
				t.Errorf("DeckSame holds for %v and %v", g, h)
			}
		}
	}
}

// Promise 21: the edges of a graph are told by its deck, in any order and by any code of
// its cards.
func TestPromise21EdgesOfDecks(t *testing.T) {
	eachKind(func(g []int) {
		n := len(g)
		if n < 3 {
			return
		}
		deck := deckOf(g)
		count, ok := impl.DeckEdges(n, deck)
		hasNumber(t, "DeckEdges", []any{n, deck}, count, ok, edgesOf(g))
		var cards []int
		for v := range g {
			cards = append(cards, codeOf(dropped(g, v)))
		}
		count, ok = impl.DeckEdges(n, cards)
		hasNumber(t, "DeckEdges", []any{n, cards}, count, ok, edgesOf(g))
		slices.Reverse(deck)
		wantDeckEdges(t, n, deck)
		if n > 5 {
			return
		}
		slices.Reverse(deck)
		back := mustNumber(t)(impl.DeckBack(n, deck))
		count, ok = impl.GraphEdges(must(t)(impl.GraphOf(n, back)))
		hasNumber(t, "GraphEdges of DeckBack", []any{n, deck}, count, ok, edgesOf(g))
	})
}

func TestPromise21AnyCodes(t *testing.T) {
	for _, deck := range lists(3, -1, 2) {
		wantDeckEdges(t, 3, deck)
	}
	for _, deck := range lists(4, -1, 8) {
		wantDeckEdges(t, 4, deck)
	}
	for i := range 4000 {
		wantDeckEdges(t, 5, []int{i % 67, i * 5 % 64, i * 11 % 64, i * 23 % 64, i / 63})
		wantDeckEdges(t, 6, []int{i % 1027, i * 5 % 1024, i * 11 % 1024, i * 23 % 1024, i * 97 % 1024, i % 1024})
	}
	for _, k := range []struct {
		n     int
		deck  []int
		edges int
	}{
		{3, []int{0, 1, 0}, 1}, {4, []int{7, 7, 7, 7}, 6}, {4, []int{0, 0, 0, 3}, 1}, {4, []int{4, 2, 1, 7}, 3},
		{6, []int{1023, 1023, 1023, 1023, 1023, 1023}, 15}, {6, []int{0, 0, 512, 256, 1, 2}, 1}, {5, []int{0, 0, 0, 0, 0}, 0},
	} {
		count, ok := impl.DeckEdges(k.n, k.deck)
		hasNumber(t, "DeckEdges", []any{k.n, k.deck}, count, ok, k.edges)
	}
}

func TestPromise21NoEdges(t *testing.T) {
	for _, k := range []struct {
		n    int
		deck []int
	}{
		{4, []int{0, 0, 0, 1}}, {4, []int{1, 1, 1, 3}}, {5, []int{0, 0, 0, 0, 1}}, {5, []int{0, 0, 0, 1, 1}}, {6, []int{0, 0, 0, 1, 1, 1}},
		{6, []int{0, 0, 0, 0, 0, 31}},
	} {
		count, ok := impl.DeckEdges(k.n, k.deck)
		failsNumber(t, "DeckEdges", []any{k.n, k.deck}, count, ok)
	}
	for n := 3; n <= 6; n++ {
		for _, code := range leastOnes(n) {
			for _, deck := range wrongDecks(n, deckOf(drawn(n, code))) {
				count, ok := impl.DeckEdges(n, deck)
				failsNumber(t, "DeckEdges", []any{n, deck}, count, ok)
			}
		}
	}
}

func TestPromise21OtherNumbersOfNodes(t *testing.T) {
	for _, n := range []int{least, -64, -3, -1, 0, 1, 2, 7, 8, 63, 64, 65, 1 << 32, most} {
		for length := range 9 {
			count, ok := impl.DeckEdges(n, make([]int, length))
			failsNumber(t, "DeckEdges", []any{n, length}, count, ok)
			count, ok = impl.DeckBack(n, make([]int, length))
			failsNumber(t, "DeckBack", []any{n, length}, count, ok)
		}
		for _, deck := range [][]int{nil, {0, 0}, {0, 1, 1}, {1, 1, 3, 3}} {
			count, ok := impl.DeckEdges(n, deck)
			failsNumber(t, "DeckEdges", []any{n, deck}, count, ok)
		}
	}
	for _, g := range [][]int{ring6, rings33, full6, none6} {
		deck := must(t)(impl.DeckOf(g))
		code, ok := impl.DeckBack(6, deck)
		failsNumber(t, "DeckBack", []any{6, deck}, code, ok)
		code, ok = impl.DeckBack(5, deck)
		failsNumber(t, "DeckBack", []any{5, deck}, code, ok)
	}
}

// Promise 22: what DeckBack takes for a deck is the deck of the graph with its code.
func TestPromise22BackFromDecks(t *testing.T) {
	back := func(n int, all [][]int) {
		owners := ownersOf(n)
		found := 0
		for _, deck := range all {
			if !wantDeckBack(t, n, deck, owners) {
				continue
			}
			found++
			g := must(t)(impl.GraphOf(n, mustNumber(t)(impl.DeckBack(n, deck))))
			again, ok := impl.DeckOf(g)
			hasList(t, "DeckOf", g, again, ok, deck)
			code, ok := impl.AlikeLeast(g)
			hasNumber(t, "AlikeLeast", g, code, ok, codeOf(g))
		}
		if found != len(leastOnes(n)) {
			t.Errorf("DeckBack finds %d graphs of %d nodes", found, n)
		}
	}
	back(3, lists(3, -1, 2))
	back(4, lists(4, -1, 8))
	back(5, risingDecks(5, 4))
}

func TestPromise22KnownDecks(t *testing.T) {
	for _, k := range []struct {
		n    int
		deck []int
		code int
	}{
		{3, []int{0, 0, 0}, 0}, {3, []int{0, 0, 1}, 1}, {3, []int{0, 1, 1}, 3}, {3, []int{1, 1, 1}, 7}, {4, []int{1, 1, 3, 3}, 13},
		{5, []int{13, 13, 13, 13, 13}, 236}, {5, []int{63, 63, 63, 63, 63}, 1023},
	} {
		code, ok := impl.DeckBack(k.n, k.deck)
		hasNumber(t, "DeckBack", []any{k.n, k.deck}, code, ok, k.code)
	}
}

func TestPromise22NoDecks(t *testing.T) {
	for n := 3; n <= 5; n++ {
		owners := ownersOf(n)
		for _, code := range leastOnes(n) {
			g := drawn(n, code)
			deck := deckOf(g)
			for _, wrong := range wrongDecks(n, deck) {
				code, ok := impl.DeckBack(n, wrong)
				failsNumber(t, "DeckBack", []any{n, wrong}, code, ok)
			}
			for i := range n {
				turned := slices.Concat(deck[i:], deck[:i])
				wantDeckBack(t, n, turned, owners)
				for card := range codeCount(n - 1) {
					changed := slices.Clone(deck)
					changed[i] = card
					wantDeckBack(t, n, changed, owners)
				}
			}
		}
	}
}

// Promise 23: the edge deck has the graphs with one edge less.
func TestPromise23EdgeDecks(t *testing.T) {
	eachKind(func(g []int) {
		deck, ok := impl.DeckByEdges(g)
		hasList(t, "DeckByEdges", g, deck, ok, edgeDeckOf(g))
		count := mustNumber(t)(impl.GraphEdges(g))
		if len(deck) != count || !slices.IsSorted(deck) {
			t.Fatalf("DeckByEdges of %v: %v", g, deck)
		}
		for _, card := range deck {
			if mustNumber(t)(impl.GraphEdges(must(t)(impl.GraphOf(len(g), card)))) != count-1 {
				t.Fatalf("DeckByEdges of %v: %v", g, deck)
			}
		}
	})
	for _, k := range []struct{ g, deck []int }{
		{[]int{0}, nil}, {[]int{0, 0}, nil}, {[]int{2, 1}, []int{0}}, {[]int{2, 5, 2}, []int{1, 1}}, {[]int{6, 5, 3}, []int{3, 3, 3}},
		{way4, []int{3, 3, 12}}, {none6, nil},
	} {
		deck, ok := impl.DeckByEdges(k.g)
		hasList(t, "DeckByEdges", k.g, deck, ok, k.deck)
	}
}

func TestPromise23InvalidGraphs(t *testing.T) {
	for _, g := range noGraphs() {
		deck, ok := impl.DeckByEdges(g)
		failsList(t, "DeckByEdges", g, deck, ok)
	}
}

// Promise 24: the degrees told by decks do not fall.
func TestPromise24DegreesOfDecks(t *testing.T) {
	eachKind(func(g []int) {
		degrees, ok := impl.DeckDegrees(g)
		if len(g) < 3 {
			failsList(t, "DeckDegrees", g, degrees, ok)
			return
		}
		want := must(t)(impl.GraphDegrees(g))
		slices.Sort(want)
		hasList(t, "DeckDegrees", g, degrees, ok, want)
	})
	for _, k := range []struct{ g, degrees []int }{
		{[]int{0, 0, 0}, []int{0, 0, 0}}, {[]int{2, 5, 2}, []int{1, 1, 2}}, {way4, []int{1, 1, 2, 2}},
		{[]int{14, 1, 1, 1}, []int{1, 1, 1, 3}}, {ring3edge, []int{1, 1, 2, 2, 2}}, {full6, []int{5, 5, 5, 5, 5, 5}}, {none6, make([]int, 6)},
	} {
		degrees, ok := impl.DeckDegrees(k.g)
		hasList(t, "DeckDegrees", k.g, degrees, ok, k.degrees)
	}
}

func TestPromise24InvalidGraphs(t *testing.T) {
	for _, g := range append(noGraphs(), []int{0}, []int{0, 0}, []int{2, 1}) {
		degrees, ok := impl.DeckDegrees(g)
		failsList(t, "DeckDegrees", g, degrees, ok)
	}
}

// Results share no memory with arguments or earlier results, and arguments stay as they are.
func TestDeckMemoryIsNotShared(t *testing.T) {
	g, h := roomy(way4), roomy([]int{12, 8, 1, 3})
	deck := roomy([]int{3, 1, 3, 1})
	wantOwnMemory(t, map[string]func() ([]int, bool){
		"DeckOf":      func() ([]int, bool) { return impl.DeckOf(g) },
		"DeckDegrees": func() ([]int, bool) { return impl.DeckDegrees(g) },
		"DeckByEdges": func() ([]int, bool) { return impl.DeckByEdges(g) },
	})
	impl.DeckSame(g, h)
	impl.DeckEdges(4, deck)
	impl.DeckBack(4, deck)
	wantAsBefore(t, g, way4)
	wantAsBefore(t, h, []int{12, 8, 1, 3})
	wantAsBefore(t, deck, []int{3, 1, 3, 1})
}
