package tests

import (
	"fmt"
	"regexp"
	"slices"
	"strconv"
	"strings"
	"sync"
	"testing"

	"loop.example/graphpieces/impl"
)

// kindsInOrder has the letters of all kinds in the document's order.
var kindsInOrder = []string{"e", "d", "p", "c", "k"}

// noKinds are texts that are no letter of a kind.
var noKinds = []string{"", " ", "E", "D", "P", "C", "K", "ed", "edpck", "kk", "e ", " e", "e\n", "a", "n", "x", "0", "1", "-", "\x00", "e\x00", "é", "\xff", strings.Repeat("e", 1<<16)}

// The forms of proofs by the document's words.
var (
	namesForm = regexp.MustCompile(`\Anames(?: (?:0|[1-9][0-9]*))+\z`)
	pieceForm = regexp.MustCompile(`\Apiece (0|[1-9][0-9]*) (0|[1-9][0-9]*)\z`)
)

// proofByWords judges a text by the document's words for two graphs of as many nodes.
func proofByWords(g []int, h []int, text string) (int, bool) {
	if namesForm.MatchString(text) {
		return 1, areNamesBetween(g, h, strings.Split(text, " ")[1:])
	}
	found := pieceForm.FindStringSubmatch(text)
	if found == nil || len(found[1]) > 1 || len(found[2]) > 5 {
		return 0, false
	}
	k, _ := strconv.Atoi(found[1])
	code, _ := strconv.Atoi(found[2])
	if k < 1 || k > 6 || code >= codeCount(k) {
		return 0, false
	}
	piece := drawn(k, code)
	return 0, copiesOf(piece, g) != copiesOf(piece, h)
}

// areNamesBetween reports whether some texts are names which make g the graph h.
func areNamesBetween(g []int, h []int, texts []string) bool {
	for _, p := range namings(len(g)) {
		if slices.Equal(textsOf(p), texts) && slices.Equal(renamed(g, p), h) {
			return true
		}
	}
	return false
}

// textsOf returns the text of each number of a list.
func textsOf(list []int) []string {
	var texts []string
	for _, number := range list {
		texts = append(texts, strconv.Itoa(number))
	}
	return texts
}

// namesText returns the proof of some names.
func namesText(p []int) string {
	return "names " + strings.Join(textsOf(p), " ")
}

// pieceText returns the proof of a graph told by its number of nodes and its code.
func pieceText(k int, code int) string {
	return fmt.Sprintf("piece %d %d", k, code)
}

// wantChecked checks what ProofCheck tells of a text by the document's words, and all that
// promise 102 says of it.
func wantChecked(t *testing.T, g []int, h []int, text string) {
	t.Helper()
	want, right := proofByWords(g, h, text)
	got, ok := impl.ProofCheck(g, h, text)
	shown := []any{g, h, strconv.Quote(text[:min(len(text), 80)])}
	if !right {
		failsNumber(t, "ProofCheck", shown, got, ok)
		return
	}
	hasNumber(t, "ProofCheck", shown, got, ok, want)
	if impl.AlikeIn(g, h) != (got == 1) {
		t.Fatalf("ProofCheck of %v: %d", shown, got)
	}
}

// firstTelling returns the least k, and the least of the least codes of graphs of k nodes,
// with other numbers of copies in two graphs of as many nodes, or 0 for k if there is none.
func firstTelling(p pieced, q pieced) (int, int) {
	for k := 1; k <= len(p.g); k++ {
		for _, code := range leastOnes(k) {
			if p.pieces[k][code] != q.pieces[k][code] {
				return k, code
			}
		}
	}
	return 0, 0
}

// wantMade checks ProofMake and ProofLeast of two graphs of as many nodes, all being all
// names of them in order, and what ProofCheck tells of the proof.
func wantMade(t *testing.T, p pieced, q pieced, all [][]int) {
	t.Helper()
	g, h := p.g, q.g
	least, code := firstTelling(p, q)
	text, verdict := pieceText(least, code), 0
	alike := classOf(g).least == classOf(h).least
	if alike {
		text, verdict = namesText(firstNames(g, h, all)), 1
	}
	made, ok := impl.ProofMake(g, h)
	hasText(t, "ProofMake", []any{g, h}, made, ok, text)
	told, ok := impl.ProofCheck(g, h, made)
	hasNumber(t, "ProofCheck", []any{g, h, made}, told, ok, verdict)
	k, ok := impl.ProofLeast(g, h)
	if alike {
		failsNumber(t, "ProofLeast", []any{g, h}, k, ok)
		return
	}
	hasNumber(t, "ProofLeast", []any{g, h}, k, ok, least)
	if k < 2 || k > len(g) || (k == 2) != (edgesOf(g) != edgesOf(h)) || impl.AlikeIn(g, h) {
		t.Fatalf("ProofLeast of %v and %v: %d", g, h, k)
	}
}

// eachPair calls do for all pairs of graphs of 1 to 4 nodes, and for each kind of 5 and of 6
// nodes with its nodes called backwards and each kind as it is.
func eachPair(do func(p pieced, q pieced)) {
	for n := 1; n <= 4; n++ {
		var all []pieced
		for code := range codeCount(n) {
			all = append(all, piecedOf(drawn(n, code)))
		}
		for _, p := range all {
			for _, q := range all {
				do(p, q)
			}
		}
	}
	for n := 5; n <= 6; n++ {
		var plain, turned []pieced
		for _, code := range leastOnes(n) {
			plain = append(plain, piecedOf(drawn(n, code)))
			turned = append(turned, piecedOf(renamed(drawn(n, code), backwards(n))))
		}
		for i, p := range turned {
			for _, q := range plain[i:] {
				do(p, q)
			}
		}
	}
}

// knownPairs are graphs that are not alike, with the letters by which they are told apart
// and the piece that proves it. No other letters come than those that stand here.
var knownPairs = []struct {
	g, h    []int
	letters string
	k, code int
}{
	// Two nodes have one deck, with an edge and without.
	{edge2, []int{0, 0}, "edpc", 2, 0},
	{way3, ring3, "edpck", 2, 0}, {way3, edgeAlone, "edpck", 2, 0}, {ring3, []int{0, 0, 0}, "edpck", 2, 0}, {full6, none6, "edpck", 2, 0}, {ring6, full6, "edpck", 2, 0},
	// As many edges.
	{way4, []int{14, 1, 1, 1}, "dpck", 3, 0}, {way4, []int{6, 5, 3, 0}, "dpck", 3, 1}, {[]int{14, 1, 1, 1}, []int{6, 5, 3, 0}, "dpck", 3, 0}, {edges22, []int{2, 5, 2, 0}, "dpck", 3, 0},
	{star5, ring4, "dck", 3, 0}, {way5, ring3edge, "pck", 3, 0}, {ring6, rings33, "pk", 3, 0}, {prism, threes6, "pk", 3, 0},
}

// Promise 101: proofs are made for graphs that are alike and for others.
func TestPromise101KnownProofs(t *testing.T) {
	for _, k := range []struct {
		g, h []int
		text string
	}{
		{one, one, "names 0"}, {[]int{0, 0}, []int{0, 0}, "names 0 1"}, {edge2, edge2, "names 0 1"}, {way3, way3, "names 0 1 2"}, {way3, []int{6, 1, 1}, "names 1 0 2"}, {way3, []int{4, 4, 3}, "names 0 2 1"},
		{edgeAlone, []int{0, 4, 2}, "names 1 2 0"}, {[]int{0, 4, 2}, edgeAlone, "names 2 0 1"}, {[]int{4, 0, 1}, edgeAlone, "names 0 2 1"}, {way4, crossed4, "names 0 2 3 1"}, {edges22, []int{4, 8, 1, 2}, "names 0 2 1 3"},
		{full6, full6, "names 0 1 2 3 4 5"}, {none6, none6, "names 0 1 2 3 4 5"}, {star6, []int{32, 32, 32, 32, 32, 31}, "names 5 0 1 2 3 4"}, {noneLike6, renamed(noneLike6, []int{4, 2, 0, 5, 1, 3}), "names 4 2 0 5 1 3"},
	} {
		text, ok := impl.ProofMake(k.g, k.h)
		hasText(t, "ProofMake", []any{k.g, k.h}, text, ok, k.text)
		told, ok := impl.ProofCheck(k.g, k.h, text)
		hasNumber(t, "ProofCheck", []any{k.g, k.h, text}, told, ok, 1)
	}
	for _, k := range knownPairs {
		for _, both := range [][2][]int{{k.g, k.h}, {k.h, k.g}} {
			text, ok := impl.ProofMake(both[0], both[1])
			hasText(t, "ProofMake", both, text, ok, pieceText(k.k, k.code))
			told, ok := impl.ProofCheck(both[0], both[1], text)
			hasNumber(t, "ProofCheck", []any{both, text}, told, ok, 0)
		}
	}
}

// Promises 101 and 106: proofs, and the least k of pieces.
func TestPromises101And106AllPairs(t *testing.T) {
	var all [7][][]int
	for n := range all {
		all[n] = ordered(n)
	}
	eachPair(func(p pieced, q pieced) {
		wantMade(t, p, q, all[len(p.g)])
	})
}

// A proof that graphs are alike for many names of some graphs.
func TestPromise101GraphsThatAreAlike(t *testing.T) {
	all := ordered(6)
	for _, g := range [][]int{way6, broom6, noneLike6, rings33, prism, full6} {
		for i := 0; i < len(all); i += 13 {
			wantMade(t, piecedOf(g), piecedOf(renamed(g, all[i])), all)
		}
	}
}

// Promise 102: all names of a few numbers, also too few and too many of them, numbers twice
// and numbers outside, for all pairs of graphs.
func TestPromise102NamesOfSmallGraphs(t *testing.T) {
	for n := 1; n <= 3; n++ {
		var texts []string
		for length := range n + 2 {
			for _, list := range lists(length, -1, n) {
				texts = append(texts, strings.TrimSuffix(namesText(list), " "))
			}
		}
		for code := range codeCount(n) {
			for other := range codeCount(n) {
				for _, text := range texts {
					wantChecked(t, drawn(n, code), drawn(n, other), text)
				}
			}
		}
	}
}

// All names of greater graphs, some of which make the first graph the second one.
func TestPromise102NamesOfGreaterGraphs(t *testing.T) {
	for _, g := range [][]int{way4, edges22, ring5, way5, bowtie, noneLike6, twice6, ring6, full6} {
		p := []int{2, 0, 3, 1, 5, 4}
		if len(g) == 5 {
			p = []int{2, 0, 3, 1, 4}
		}
		h := renamed(g, p[:len(g)])
		right := 0
		for _, names := range namings(len(g)) {
			makes := slices.Equal(renamed(g, names), h)
			told, ok := impl.ProofCheck(g, h, namesText(names))
			if ok != makes || ok && told != 1 || !ok && told != 0 {
				t.Fatalf("ProofCheck of %v, %v and %q: %d, %v", g, h, namesText(names), told, ok)
			}
			if makes {
				right++
			}
		}
		if right != classOf(g).same {
			t.Fatalf("%d names make %v the graph %v", right, g, h)
		}
		for _, wrong := range noNames(len(g)) {
			wantChecked(t, g, h, namesText(wrong))
		}
	}
}

// All graphs as pieces: of 0 nodes and of 7, of more than the graphs have, with codes that
// are none and with codes that are not the least ones.
func TestPromise102Pieces(t *testing.T) {
	graphs := [][]int{one, {0, 0}, edge2, way3, {6, 1, 1}, ring3, edgeAlone, way4, crossed4, {14, 1, 1, 1}, edges22, ring5, way5, ring3edge, star5, ring4}
	for _, g := range graphs {
		for _, h := range graphs {
			if len(g) != len(h) {
				continue
			}
			for k := -1; k <= 8; k++ {
				codes := []int{-1, 0, 1, 2, 3, 7, 1023, 1024, 32767, 32768, 32769, most, least}
				if k >= 1 && k <= 4 {
					for code := range codeCount(k) + 2 {
						codes = append(codes, code)
					}
				}
				for _, code := range codes {
					wantChecked(t, g, h, pieceText(k, code))
				}
			}
		}
	}
}

// Pieces of 5 nodes with all codes, and of 6 nodes with all codes for one pair and some for
// others.
func TestPromise102GreatPieces(t *testing.T) {
	for _, both := range [][2][]int{{way5, ring3edge}, {ring5, renamed(ring5, []int{2, 0, 3, 1, 4})}, {way4, edges22}, {ring6, rings33}, {noneLike6, broom6}} {
		for code := range codeCount(5) + 2 {
			wantChecked(t, both[0], both[1], pieceText(5, code))
		}
	}
	for code := range codeCount(6) + 2 {
		text := pieceText(6, code)
		wantChecked(t, ring6, rings33, text)
		if code%11 == 0 {
			wantChecked(t, noneLike6, renamed(noneLike6, backwards(6)), text)
			wantChecked(t, way5, bowtie, text)
		}
	}
}

func TestPromise102KnownPieces(t *testing.T) {
	for _, k := range []struct {
		g, h []int
		text string
		ok   bool
	}{
		// The same way of three nodes with all of its codes.
		{way3, ring3, "piece 3 3", true}, {way3, ring3, "piece 3 5", true}, {way3, ring3, "piece 3 6", true}, {way3, ring3, "piece 3 7", true}, {way3, ring3, "piece 2 0", true}, {way3, ring3, "piece 2 1", true},
		{way3, ring3, "piece 3 0", false}, {way3, ring3, "piece 3 1", false}, {way3, ring3, "piece 3 8", false}, {way3, ring3, "piece 2 2", false}, {way3, ring3, "piece 1 0", false}, {way3, ring3, "piece 1 1", false},
		{way3, ring3, "piece 0 0", false}, {way3, ring3, "piece 4 0", false}, {way3, ring3, "piece 6 0", false}, {way3, ring3, "piece 7 0", false}, {way3, ring3, "piece 3", false}, {way3, ring3, "piece 3 3 3", false},
		{way3, ring3, "names 0 1 2", false}, {way3, []int{6, 1, 1}, "piece 3 3", false}, {way3, []int{6, 1, 1}, "piece 2 0", false}, {one, one, "piece 1 0", false}, {edge2, []int{0, 0}, "piece 2 1", true},
		{ring6, rings33, "piece 2 1", false}, {ring6, rings33, "piece 3 0", true}, {ring6, rings33, "piece 3 7", true}, {ring6, rings33, "piece 4 37", true}, {ring6, rings33, "piece 4 45", false}, {ring6, rings33, "piece 6 32767", false}, {ring6, rings33, "piece 6 32768", false},
	} {
		for _, both := range [][2][]int{{k.g, k.h}, {k.h, k.g}} {
			told, ok := impl.ProofCheck(both[0], both[1], k.text)
			if ok != k.ok || told != 0 {
				t.Errorf("ProofCheck of %v and %q: %d, %v", both, k.text, told, ok)
			}
		}
	}
}

// proofPairs are graphs with proofs for them, from which wrong ones are made.
var proofPairs = []struct {
	g, h  []int
	texts []string
}{
	{one, one, []string{"names 0"}},
	{edge2, edge2, []string{"names 0 1", "names 1 0"}},
	{way3, []int{6, 1, 1}, []string{"names 1 0 2", "names 2 0 1"}},
	{edgeAlone, []int{0, 4, 2}, []string{"names 1 2 0", "names 2 1 0"}},
	{way3, ring3, []string{"piece 2 0", "piece 2 1", "piece 3 3", "piece 3 5", "piece 3 7"}},
	{ring6, renamed(ring6, backwards(6)), []string{"names 5 4 3 2 1 0", "names 0 1 2 3 4 5"}},
	{none6, none6, []string{"names 0 1 2 3 4 5", "names 3 0 5 1 2 4"}},
	{ring6, rings33, []string{"piece 3 0", "piece 3 7", "piece 4 30", "piece 5 227", "piece 6 4711"}},
	{way5, bowtie, []string{"piece 2 0", "piece 5 255", "piece 5 1023"}},
}

// Proofs changed at each place by a byte put in, taken out, put in its stead or written
// twice, by a space and a number more, and by one less.
func TestPromise102ChangedProofs(t *testing.T) {
	bytes := strings.Split("0 1 2 5 6 7 9 + - a e n p s N P _ . , x", " ")
	bytes = append(bytes, " ", "\t", "\n", "\r", "\v", "\f", "\x00", "\xa0", "\u00a0", "\u0660", "  ", "00", " 0", "0 ", " 1", " +", " -")
	for _, k := range proofPairs {
		for _, text := range k.texts {
			wantChecked(t, k.g, k.h, text)
			for at := range len(text) + 1 {
				ahead, behind := text[:at], text[at:]
				wantChecked(t, k.g, k.h, ahead)
				wantChecked(t, k.g, k.h, behind)
				wantChecked(t, k.g, k.h, behind+ahead)
				for _, put := range bytes {
					wantChecked(t, k.g, k.h, ahead+put+behind)
					if behind != "" {
						wantChecked(t, k.g, k.h, ahead+put+behind[1:])
						wantChecked(t, k.g, k.h, ahead+behind[1:])
					}
				}
			}
		}
	}
}

// wrongProofs returns texts that are no proofs for any graphs, made from one that is.
func wrongProofs(text string) []string {
	word, rest, _ := strings.Cut(text, " ")
	first, further, more := strings.Cut(rest, " ")
	if more {
		further = " " + further
	}
	wrong := []string{
		// Spaces around and between, and other bytes in the place of one.
		text + " ", " " + text, text + "  ", " " + text + " ", word + "  " + rest, text + "\n", text + "\t", text + "\r\n", "\n" + text, "\t" + text, text + "\x00", text + " x",
		word + "\t" + rest, word + "\n" + rest, word + "\r" + rest, word + "\x00" + rest, word + "\u00a0" + rest, word + "," + rest, word + rest, word + "\t" + " " + rest, word + " \n" + rest,
		// Words alone, and other words.
		"", " ", "  ", "\n", word, word + " ", word + "  ", " " + word, rest, " " + rest, first, strings.ToUpper(word) + " " + rest, strings.ToUpper(word[:1]) + word[1:] + " " + rest, strings.ToUpper(text),
		word[1:] + " " + rest, word[:4] + " " + rest, word + "s " + rest, word + word + " " + rest, "name " + rest, "pieces " + rest, "proof " + rest, "no " + rest, "unlike " + rest, word + " " + text, text + " " + word, text + " " + text, text + text,
		// Numbers written in other ways.
		word + " 0" + rest, word + " 00" + rest, word + " +" + rest, word + " -" + rest, word + " --" + rest, word + " " + first + "x" + further, word + " " + first + "a" + further, word + " x" + rest, word + " " + first + ".0" + further, word + " " + first + "e0" + further,
		word + " 0x" + rest, word + " 0b" + rest, word + " 0o" + rest, word + " " + first + "_" + further, word + " _" + rest, word + " " + first + "," + further, word + " (" + rest + ")", word + " [" + rest + "]", word + " \u0661" + further, word + " one" + further, word + " -1" + further,
		text + "x", text + "_", text + "+", text + "-", text + ".", text + "\xff",
	}
	for _, great := range []string{"64", "4294967296", "4294967297", "9223372036854775807", "9223372036854775808", "18446744073709551616", "18446744073709551617", "36893488147419103233", "-9223372036854775808", "1" + strings.Repeat("0", 100), strings.Repeat("9", 1<<16), strings.Repeat("0", 1<<16)} {
		last := strings.LastIndex(text, " ")
		wrong = append(wrong, word+" "+great+further, text[:last+1]+great, text+" "+great)
	}
	return append(wrong, text+strings.Repeat(" ", 1<<16), strings.Repeat(" ", 1<<16)+text, text+strings.Repeat(" 0", 1<<16), text+strings.Repeat(" 1", 7))
}

func TestPromise102WrongProofs(t *testing.T) {
	for _, k := range proofPairs {
		for _, text := range k.texts {
			for _, wrong := range wrongProofs(text) {
				told, ok := impl.ProofCheck(k.g, k.h, wrong)
				failsNumber(t, "ProofCheck", []any{k.g, k.h, strconv.Quote(wrong[:min(len(wrong), 80)])}, told, ok)
			}
		}
	}
}

// No proof shows what is not, whatever it is made for: the proofs for some graphs, checked for
// others.
func TestPromise102ProofsForOtherGraphs(t *testing.T) {
	for n := 3; n <= 6; n++ {
		var graphs [][]int
		for i, code := range leastOnes(n) {
			if n < 6 || i%9 == 0 {
				graphs = append(graphs, renamed(drawn(n, code), backwards(n)), drawn(n, code))
			}
		}
		for i, g := range graphs {
			h := graphs[(i*5+1)%len(graphs)]
			for _, both := range [][2][]int{{g, h}, {g, drawn(n, classOf(g).least)}} {
				text := mustText(t)(impl.ProofMake(both[0], both[1]))
				for j, other := range graphs {
					wantChecked(t, other, h, text)
					wantChecked(t, other, graphs[j^1], text)
				}
			}
		}
	}
}

// Promise 103: names prove it for the other pairs, too.
func TestPromise103OtherPairs(t *testing.T) {
	eachKind(func(g []int) {
		for _, h := range [][]int{g, drawn(len(g), classOf(g).least), renamed(g, backwards(len(g)))} {
			text := mustText(t)(impl.ProofMake(g, h))
			other, turned := must(t)(impl.GraphOther(g)), must(t)(impl.GraphOther(h))
			told, ok := impl.ProofCheck(other, turned, text)
			hasNumber(t, "ProofCheck", []any{other, turned, text}, told, ok, 1)
			made, ok := impl.ProofMake(other, turned)
			hasText(t, "ProofMake of the other pairs", []any{g, h}, made, ok, text)
		}
	})
}

// marksOf has what tells a graph apart by each kind but the colours.
type marksOf struct {
	pieced
	edges               int
	degrees, poly, deck []int
}

// marked returns marksOf for graphs of at least two nodes.
func marked() func(g pieced) marksOf {
	poly := polyOfEach()
	known := map[string]marksOf{}
	return func(p pieced) marksOf {
		key := fmt.Sprint(p.g)
		if m, ok := known[key]; ok {
			return m
		}
		m := marksOf{p, edgesOf(p.g), risingDegreesOf(p.g), poly(p.g), deckOf(p.g)}
		known[key] = m
		return m
	}
}

// kindsByWords returns the letters of all kinds by which two graphs are told apart.
func kindsByWords(m marksOf, o marksOf) string {
	letters := ""
	for i, same := range []bool{m.edges == o.edges, slices.Equal(m.degrees, o.degrees), slices.Equal(m.poly, o.poly), sameUnfolded(m.g, o.g), slices.Equal(m.deck, o.deck)} {
		if !same {
			letters += kindsInOrder[i]
		}
	}
	return letters
}

// wantLetters checks all that promise 104 says of the letters of two graphs.
func wantLetters(t *testing.T, g []int, h []int, letters string) {
	t.Helper()
	has := func(letter string) bool { return strings.Contains(letters, letter) }
	alike := impl.AlikeIn(g, h)
	right := !alike || letters == ""
	right = right && (alike || len(g) < 3 || strings.HasSuffix(letters, "k"))
	right = right && (!has("e") && !has("d") || has("c"))
	right = right && (!has("e") || has("d") && has("p"))
	if !right {
		t.Fatalf("ProofKinds of %v and %v: %q", g, h, letters)
	}
}

// Promise 104: the kinds by which graphs are told apart.
func TestPromise104AllPairs(t *testing.T) {
	marksFor := marked()
	found := map[string]int{}
	eachPair(func(p pieced, q pieced) {
		letters, ok := impl.ProofKinds(p.g, q.g)
		if len(p.g) == 1 {
			failsText(t, "ProofKinds", []any{p.g, q.g}, letters, ok)
			return
		}
		hasText(t, "ProofKinds", []any{p.g, q.g}, letters, ok, kindsByWords(marksFor(p), marksFor(q)))
		wantLetters(t, p.g, q.g, letters)
		found[letters]++
	})
	for _, k := range knownPairs {
		delete(found, k.letters)
	}
	delete(found, "")
	if len(found) != 0 {
		t.Errorf("other letters than those of the known pairs: %v", found)
	}
}

func TestPromise104KnownPairs(t *testing.T) {
	for _, k := range knownPairs {
		for _, p := range namings(len(k.g))[:2] {
			g := renamed(k.g, p)
			letters, ok := impl.ProofKinds(g, k.h)
			hasText(t, "ProofKinds", []any{g, k.h}, letters, ok, k.letters)
			letters, ok = impl.ProofKinds(k.h, g)
			hasText(t, "ProofKinds", []any{k.h, g}, letters, ok, k.letters)
		}
	}
}

func TestPromise104GraphsThatAreAlike(t *testing.T) {
	eachKind(func(g []int) {
		for _, h := range [][]int{g, drawn(len(g), classOf(g).least), renamed(g, backwards(len(g)))} {
			letters, ok := impl.ProofKinds(g, h)
			if len(g) == 1 {
				failsText(t, "ProofKinds", []any{g, h}, letters, ok)
			} else {
				hasText(t, "ProofKinds", []any{g, h}, letters, ok, "")
			}
		}
	})
}

// missedByWords counts the sets of two graphs of n nodes, one of each kind, that are not told
// apart by each kind.
func missedByWords(n int) map[string]int {
	marksFor := marked()
	missed := map[string]int{}
	ones := leastOnes(n)
	for i, code := range ones {
		for _, other := range ones[:i] {
			letters := kindsByWords(marksFor(piecedOf(drawn(n, code))), marksFor(piecedOf(drawn(n, other))))
			for _, kind := range kindsInOrder {
				if !strings.Contains(letters, kind) {
					missed[kind]++
				}
			}
		}
	}
	return missed
}

// Promise 105: pairs that are missed.
func TestPromise105MissedPairs(t *testing.T) {
	known := map[int][]int{2: {0, 0, 0, 0, 1}, 3: {0, 0, 0, 0, 0}, 4: {5, 0, 0, 0, 0}, 5: {59, 3, 1, 0, 0}}
	for n := 2; n <= 5; n++ {
		words := missedByWords(n)
		missed := map[string]int{}
		for i, kind := range kindsInOrder {
			count, ok := impl.ProofMissed(n, kind)
			hasNumber(t, "ProofMissed", []any{n, kind}, count, ok, known[n][i])
			if count != words[kind] {
				t.Fatalf("ProofMissed of %d and %q: %d, by the document's words %d", n, kind, count, words[kind])
			}
			missed[kind] = count
		}
		if missed["k"] != 0 && n > 2 || missed["d"] > missed["e"] || missed["c"] > missed["d"] {
			t.Fatalf("ProofMissed of %d: %v", n, missed)
		}
	}
}

func TestPromise105OtherNumbersAndTexts(t *testing.T) {
	numbers := []int{1, 0, -1, -2, -5, 6, 7, 8, 60, 64, most, least, 1 << 32, 1<<32 + 3}
	for _, n := range numbers {
		for _, kind := range append(slices.Clone(kindsInOrder), noKinds...) {
			count, ok := impl.ProofMissed(n, kind)
			failsNumber(t, "ProofMissed", []any{n, strconv.Quote(kind[:min(len(kind), 80)])}, count, ok)
		}
	}
	for n := 2; n <= 5; n++ {
		for _, kind := range noKinds {
			count, ok := impl.ProofMissed(n, kind)
			failsNumber(t, "ProofMissed", []any{n, strconv.Quote(kind[:min(len(kind), 80)])}, count, ok)
		}
		for b := range 256 {
			kind := string([]byte{byte(b)})
			if _, ok := impl.ProofMissed(n, kind); ok != slices.Contains(kindsInOrder, kind) {
				t.Errorf("ProofMissed of %d and %q: %v", n, kind, ok)
			}
		}
	}
}

// Promise 106: the least k of known pairs.
func TestPromise106KnownPairs(t *testing.T) {
	for _, k := range knownPairs {
		for _, both := range [][2][]int{{k.g, k.h}, {k.h, k.g}, {renamed(k.g, backwards(len(k.g))), k.h}, {otherOf(k.g), otherOf(k.h)}} {
			least, ok := impl.ProofLeast(both[0], both[1])
			hasNumber(t, "ProofLeast", both, least, ok, k.k)
		}
	}
}

func TestPromise106GraphsThatAreAlike(t *testing.T) {
	eachKind(func(g []int) {
		for _, h := range [][]int{g, drawn(len(g), classOf(g).least), renamed(g, backwards(len(g)))} {
			k, ok := impl.ProofLeast(g, h)
			failsNumber(t, "ProofLeast", []any{g, h}, k, ok)
		}
	})
}

// Promise 107: smaller graphs have as many copies in both, but not all graphs of k nodes.
func TestPromise107SmallerPieces(t *testing.T) {
	for n := 2; n <= 6; n++ {
		codes := leastOnes(n)
		for i, code := range codes {
			g := renamed(drawn(n, code), backwards(n))
			for j, other := range codes {
				if i == j || n == 6 && (i+j)%11 != 0 {
					continue
				}
				h := drawn(n, other)
				k := mustNumber(t)(impl.ProofLeast(g, h))
				for size := 1; size < k; size++ {
					if countsDiffer(t, g, h, size) {
						t.Fatalf("ProofLeast of %v and %v: %d, but %d nodes tell them apart", g, h, k, size)
					}
				}
				if !countsDiffer(t, g, h, k) {
					t.Fatalf("ProofLeast of %v and %v: %d, but these do not tell them apart", g, h, k)
				}
			}
		}
	}
}

// countsDiffer reports whether CopyCount of some graph of k nodes differs.
func countsDiffer(t *testing.T, g []int, h []int, k int) bool {
	t.Helper()
	for _, code := range leastOnes(k) {
		piece := drawn(k, code)
		if mustNumber(t)(impl.CopyCount(piece, g)) != mustNumber(t)(impl.CopyCount(piece, h)) {
			return true
		}
	}
	return false
}

// failsProofs checks that all functions that take two graphs fail for two lists.
func failsProofs(t *testing.T, g []int, h []int) {
	t.Helper()
	text, ok := impl.ProofMake(g, h)
	failsText(t, "ProofMake", []any{g, h}, text, ok)
	letters, ok := impl.ProofKinds(g, h)
	failsText(t, "ProofKinds", []any{g, h}, letters, ok)
	k, ok := impl.ProofLeast(g, h)
	failsNumber(t, "ProofLeast", []any{g, h}, k, ok)
	texts := []string{"", "names", "names ", "names 0", "names 0 1", "names 1 0", "piece 1 0", "piece 2 0", "piece 2 1", "piece 3 0", "piece 3 3", "piece 3 7", "piece 0 0", "piece 7 0"}
	for n := range 8 {
		p := backwards(n)
		texts = append(texts, namesText(p))
		slices.Sort(p)
		texts = append(texts, namesText(p))
	}
	for _, text := range texts {
		told, ok := impl.ProofCheck(g, h, text)
		failsNumber(t, "ProofCheck", []any{g, h, text}, told, ok)
	}
}

func TestPromises101To107OtherNumbersOfNodes(t *testing.T) {
	all := append(ones(4), hosts...)
	for _, g := range all {
		for _, h := range all {
			if len(g) != len(h) {
				failsProofs(t, g, h)
			}
		}
	}
}

func TestPromises101To107NoGraphs(t *testing.T) {
	for _, wrong := range noGraphs() {
		failsProofs(t, wrong, wrong)
		for _, g := range append(hosts, make([]int, max(1, min(6, len(wrong))))) {
			failsProofs(t, wrong, g)
			failsProofs(t, g, wrong)
		}
		for _, other := range noGraphs() {
			failsProofs(t, wrong, other)
		}
	}
}

// proofAnswers returns all that the functions tell of two graphs.
func proofAnswers(g []int, h []int) string {
	text, made := impl.ProofMake(g, h)
	told, checked := impl.ProofCheck(g, h, text)
	wrong, taken := impl.ProofCheck(g, h, text+" ")
	letters, apart := impl.ProofKinds(g, h)
	k, unlike := impl.ProofLeast(g, h)
	return fmt.Sprint([]any{text, made, told, checked, wrong, taken, letters, apart, k, unlike})
}

// Nothing that was passed in is changed, and nothing behind it, also if one list stands at
// both places.
func TestProofsChangeNothing(t *testing.T) {
	lists := append(noGraphs(), one, edge2, way3, []int{6, 1, 1}, ring3, way4, crossed4, ring5, way5, ring6, rings33, noneLike6)
	for _, first := range lists {
		for _, second := range lists {
			g, h := roomy(first), roomy(second)
			proofAnswers(g, h)
			impl.ProofCheck(g, h, "names 0 1 2")
			impl.ProofCheck(g, h, "piece 3 3")
			wantAsBefore(t, g, first)
			wantAsBefore(t, h, second)
		}
		g := roomy(first)
		if proofAnswers(g, g) != proofAnswers(first, slices.Clone(first)) {
			t.Errorf("other answers for %v at both places", first)
		}
		wantAsBefore(t, g, first)
	}
}

// Answers do not depend on what was asked before, nor on what is asked at the same time.
func TestProofsKeepNothing(t *testing.T) {
	var asks []func() string
	for _, k := range knownPairs {
		asks = append(asks, func() string { return proofAnswers(k.g, k.h) }, func() string { return proofAnswers(k.h, k.h) })
	}
	for n := 1; n <= 6; n++ {
		for _, kind := range append([]string{"", "x"}, kindsInOrder...) {
			asks = append(asks, func() string { return fmt.Sprint(impl.ProofMissed(n, kind)) })
		}
	}
	var want []string
	for _, ask := range asks {
		want = append(want, ask())
	}
	for i, ask := range slices.Backward(asks) {
		if got := ask(); got != want[i] {
			t.Errorf("%s, and asked later %s", want[i], got)
		}
	}
	var callers sync.WaitGroup
	for i := range 16 {
		callers.Go(func() {
			for j := range asks {
				at := (i*5 + j) % len(asks)
				if got := asks[at](); got != want[at] {
					t.Errorf("%s, and asked at the same time %s", want[at], got)
				}
			}
		})
	}
	callers.Wait()
}
