package tests

import (
	"slices"
	"strconv"
	"strings"
	"sync"
	"testing"

	"loop.example/graphpieces/impl"
)

// textOfTerm are the functions that tell a text of a term, and numberOfTerm those that tell
// a number.
var (
	textOfTerm = []struct {
		name string
		tell func(s string) (string, bool)
	}{
		{"TermTidy", impl.TermTidy},
		{"TermSorted", impl.TermSorted},
	}
	numberOfTerm = []struct {
		name string
		tell func(s string) (int, bool)
	}{
		{"TermColours", impl.TermColours},
		{"TermFull", impl.TermFull},
	}
)

// termsByBytes has all terms of each number of bytes, made by the document's words. They are
// too short to have more than 4 signs 1.
var termsByBytes = sync.OnceValue(func() [][]string {
	all := make([][]string, 14)
	all[1] = []string{"1"}
	for n := 2; n < len(all); n++ {
		for _, inner := range all[n-1] {
			all[n] = append(all[n], "-"+inner)
		}
		for k := 1; k < n-3; k++ {
			all[n] = append(all[n], coupled(all[k], all[n-3-k])...)
		}
	}
	return all
})

// shortTerms returns all terms of up to some bytes.
func shortTerms(bytes int) []string {
	return slices.Concat(termsByBytes()[:bytes+1]...)
}

// coupled returns all brackets with one of some terms first and one of some others second.
func coupled(firsts []string, seconds []string) []string {
	var all []string
	for _, first := range firsts {
		for _, second := range seconds {
			all = append(all, "("+first+"+"+second+")", "("+first+"*"+second+")")
		}
	}
	return all
}

// tidyTerms has all tidy terms of each number of signs 1.
var tidyTerms = sync.OnceValue(func() [][]string {
	all := make([][]string, 7)
	all[1] = []string{"1"}
	for n := 2; n < len(all); n++ {
		for k := 1; k < n; k++ {
			all[n] = append(all[n], coupled(all[k], all[n-k])...)
		}
	}
	return all
})

// dashed returns a tidy term with as many signs - in front of each term in it as the digits
// of a number tell, the last digit for the first one.
func dashed(tidy string, number int, base int) string {
	var text strings.Builder
	for i := range len(tidy) {
		if tidy[i] == '1' || tidy[i] == '(' {
			text.WriteString(strings.Repeat("-", number%base))
			number /= base
		}
		text.WriteByte(tidy[i])
	}
	return text.String()
}

// eachTerm calls do for all terms of up to 13 bytes, for those of up to 3 signs 1 with up to
// 3 signs - in front of each term in them, for those of 4 with up to one there, and for those
// of 5 and 6 with none, with one or three everywhere, and with some here and there.
func eachTerm(do func(s string)) {
	for _, s := range shortTerms(13) {
		do(s)
	}
	for n := 1; n <= 4; n++ {
		base := 4
		if n == 4 {
			base = 2
		}
		numbers := 1
		for range 2*n - 1 {
			numbers *= base
		}
		for _, tidy := range tidyTerms()[n] {
			for number := range numbers {
				do(dashed(tidy, number, base))
			}
		}
	}
	for _, tidy := range slices.Concat(tidyTerms()[5:]...) {
		for _, number := range []int{0, 1<<22 - 1, 0x155555, 0x1b4e1b, 0x0d2346, 1} {
			do(dashed(tidy, number, 4))
		}
	}
}

// termLength returns how many bytes the term has with which a text begins.
func termLength(s string) int {
	depth := 0
	for i := range len(s) {
		switch s[i] {
		case '(':
			depth++
		case ')':
			depth--
		}
		if depth == 0 && s[i] != '-' {
			return i + 1
		}
	}
	panic("no term: " + s)
}

// halves returns both terms in brackets, and the sign between.
func halves(s string) (string, string, string) {
	end := 1 + termLength(s[1:])
	return s[1:end], s[end : end+1], s[end+1 : len(s)-1]
}

// tidyByRules uses the document's rules at the first sign - until there is none.
func tidyByRules(s string) string {
	for {
		at := strings.Index(s, "-")
		if at < 0 {
			return s
		}
		ahead, behind := s[:at], s[at+1:]
		switch behind[0] {
		case '-':
			s = ahead + behind[1:]
		case '1':
			s = ahead + behind
		default:
			end := termLength(behind)
			first, sign, second := halves(behind[:end])
			sign = map[string]string{"+": "*", "*": "+"}[sign]
			s = ahead + "(-" + first + sign + "-" + second + ")" + behind[end:]
		}
	}
}

// partsByWords returns the parts of a tidy term by a sign.
func partsByWords(tidy string, sign string) []string {
	if tidy != "1" {
		first, outermost, second := halves(tidy)
		if outermost == sign {
			return append(partsByWords(first, sign), partsByWords(second, sign)...)
		}
	}
	return []string{tidy}
}

// isSorted judges a tidy term by the document's words.
func isSorted(tidy string) bool {
	if tidy == "1" {
		return true
	}
	_, sign, _ := halves(tidy)
	parts := partsByWords(tidy, sign)
	for _, part := range parts {
		if !isSorted(part) {
			return false
		}
	}
	closing := strings.Repeat(")", len(parts)-1)
	made := "(" + strings.Join(parts[:len(parts)-1], sign+"(") + sign + parts[len(parts)-1] + closing
	return slices.IsSorted(parts) && tidy == made
}

// sortedTerms has all sorted terms of each number of signs 1.
var sortedTerms = sync.OnceValue(func() [][]string {
	all := make([][]string, 7)
	for n, terms := range tidyTerms() {
		for _, tidy := range terms {
			if isSorted(tidy) {
				all[n] = append(all[n], tidy)
			}
		}
	}
	return all
})

// termOfKind has for each number of nodes the sorted term of each least code that has one.
var termOfKind = sync.OnceValue(func() [7]map[int]string {
	var all [7]map[int]string
	for n, terms := range sortedTerms() {
		all[n] = map[int]string{}
		for _, s := range terms {
			all[n][classOf(graphByWords(s)).least] = s
		}
	}
	return all
})

// sortedByKind returns the sorted term of a graph, or no text if there is none.
func sortedByKind(g []int) string {
	return termOfKind()[len(g)][classOf(g).least]
}

// measure is the least number of colours of a graph and the greatest number of nodes of a
// free set.
type measure struct {
	colours, free int
}

// measureOfKind has for each number of nodes the measure of each least code.
var measureOfKind = sync.OnceValue(func() [7]map[int]measure {
	var all [7]map[int]measure
	for n := 1; n < len(all); n++ {
		all[n] = map[int]measure{}
		for _, code := range leastOnes(n) {
			g := drawn(n, code)
			all[n][code] = measure{fewestColours(g), lastSize(setCounts(g, freeByWords))}
		}
	}
	return all
})

// enclosing are brackets in a term: their sign, and whether an odd number of signs - stands
// in front of them and of all brackets around them.
type enclosing struct {
	sign   byte
	turned bool
}

// enclosings returns for each sign 1 of a term the brackets around it, the outermost first.
func enclosings(s string) [][]*enclosing {
	var nodes [][]*enclosing
	var open []*enclosing
	turned := false
	for i := range len(s) {
		switch s[i] {
		case '-':
			turned = !turned
		case '(':
			if len(open) > 0 {
				turned = turned != open[len(open)-1].turned
			}
			open = append(open, &enclosing{turned: turned})
			turned = false
		case '+', '*':
			open[len(open)-1].sign = s[i]
		case ')':
			open = open[:len(open)-1]
		case '1':
			nodes = append(nodes, slices.Clone(open))
			turned = false
		}
	}
	return nodes
}

// graphByWords tells for each two nodes of a term whether they are an edge by the innermost
// brackets around both.
func graphByWords(s string) []int {
	nodes := enclosings(s)
	g := make([]int, len(nodes))
	for b := range nodes {
		for a := range b {
			depth := 0
			for depth+1 < min(len(nodes[a]), len(nodes[b])) && nodes[a][depth+1] == nodes[b][depth+1] {
				depth++
			}
			common := nodes[a][depth]
			if common.sign == '*' != common.turned {
				g[a] |= 1 << b
				g[b] |= 1 << a
			}
		}
	}
	return g
}

// failsTerm checks that all functions of the chapter fail for a text.
func failsTerm(t *testing.T, s string) {
	t.Helper()
	shown := strconv.Quote(s[:min(len(s), 80)])
	if impl.TermIn(s) {
		t.Errorf("TermIn of %s has to be false", shown)
	}
	g, ok := impl.TermGraph(s)
	failsList(t, "TermGraph", shown, g, ok)
	for _, f := range textOfTerm {
		text, ok := f.tell(s)
		failsText(t, f.name, shown, text, ok)
	}
	for _, f := range numberOfTerm {
		count, ok := f.tell(s)
		failsNumber(t, f.name, shown, count, ok)
	}
	for _, term := range []string{"1", "-1", "(1+1)", s, ""} {
		if impl.TermSame(s, term) || impl.TermSame(term, s) {
			t.Errorf("TermSame of %s and %.80q has to be false", shown, term)
		}
	}
}

// wantTerm checks what all functions of the chapter tell of a term.
func wantTerm(t *testing.T, s string) {
	t.Helper()
	if !impl.TermIn(s) {
		t.Fatalf("TermIn of %q has to be true", s)
	}
	want := graphByWords(s)
	g, ok := impl.TermGraph(s)
	hasList(t, "TermGraph", s, g, ok, want)
	tidy, ok := impl.TermTidy(s)
	hasText(t, "TermTidy", s, tidy, ok, tidyByRules(s))
	sorted, ok := impl.TermSorted(s)
	hasText(t, "TermSorted", s, sorted, ok, sortedByKind(want))
	known := measureOfKind()[len(want)][classOf(want).least]
	colours, ok := impl.TermColours(s)
	hasNumber(t, "TermColours", s, colours, ok, known.colours)
	free, ok := impl.TermFull(s)
	hasNumber(t, "TermFull", s, free, ok, known.free)
	if !impl.TermSame(s, s) || !impl.TermSame(s, sorted) || !impl.TermSame(sorted, s) {
		t.Fatalf("TermSame of %q and of its sorted term has to be true", s)
	}
}

func TestPromises90To99AllTerms(t *testing.T) {
	eachTerm(func(s string) { wantTerm(t, s) })
}

// eachText calls do for all texts of up to some of the bytes told.
func eachText(bytes string, last int, do func(s string)) {
	var lengthen func(s string)
	lengthen = func(s string) {
		do(s)
		if len(s) < last {
			for i := range len(bytes) {
				lengthen(s + bytes[i:i+1])
			}
		}
	}
	lengthen("")
}

// isTerm has all terms of up to 13 bytes.
var isTerm = sync.OnceValue(func() map[string]bool {
	all := map[string]bool{}
	for _, s := range shortTerms(13) {
		all[s] = true
	}
	return all
})

// wantTermIn checks of a text of up to 13 bytes whether it is a term.
func wantTermIn(t *testing.T, s string) {
	t.Helper()
	want := isTerm()[s]
	if impl.TermIn(s) != want {
		t.Fatalf("TermIn of %q has to be %v", s, want)
	}
	if _, ok := impl.TermGraph(s); ok != want {
		t.Fatalf("TermGraph of %q has to tell %v", s, want)
	}
}

// Promise 90: which texts are terms.
func TestPromise90AllShortTexts(t *testing.T) {
	eachText("1-(+*)", 7, func(s string) { wantTermIn(t, s) })
	eachText("1-(+) 0\xff", 6, func(s string) { wantTermIn(t, s) })
}

// Terms with one byte changed, put in or left out.
func TestPromise90OneByteChanged(t *testing.T) {
	for _, s := range shortTerms(9) {
		for i := range len(s) + 1 {
			for c := range 256 {
				put := string([]byte{byte(c)})
				wantTermIn(t, s[:i]+put+s[i:])
				if i < len(s) {
					wantTermIn(t, s[:i]+put+s[i+1:])
				}
			}
			if i < len(s) {
				wantTermIn(t, s[:i]+s[i+1:])
			}
		}
	}
}

// knownTerms are terms of each shape.
var knownTerms = []string{
	"1", "-1", "--1", "---1", "(1+1)", "(1*1)", "-(1+1)", "--(1*1)", "(-1+1)", "(1*-1)", "-(-1+--1)",
	"((1+1)*1)", "(1*(1+1))", "-((1+1)*1)", "-(-(1*1)+1)", "((1+1)*(1+1))", "(((1+1)*1)+1)", "(1*(1+(1*(1+1))))",
	"-(--(1+-(1*1))*-((1+1)*-1))", "(1+(1+(1+(1+(1+1)))))", "(((((1*1)*1)*1)*1)*1)", "((1+(1*1))+((1+1)*1))",
}

func TestPromise90KnownTerms(t *testing.T) {
	for _, s := range knownTerms {
		wantTerm(t, s)
	}
}

// Texts that go on behind a term, or have something ahead of it.
func TestPromise90TextsThatGoOn(t *testing.T) {
	more := []string{"1", "-", "+", "*", "(", ")", "-1", "+1", "*1", "(1+1)", "))", ")+1)", " ", "  ", " 1", "\n", "\r\n", "\t", "\x00", "0", "2", ".", ",", "\u00a0", "é", "\xff", "\ufeff"}
	for _, s := range knownTerms {
		for _, text := range append(more, s) {
			failsTerm(t, s+text)
		}
		for _, text := range []string{" ", "\n", "+", "*", ")", "1", "(", "0", "\x00", "\ufeff", "\xff"} {
			failsTerm(t, text+s)
		}
	}
}

// Texts that end within a term, the empty text among them, or begin within one.
func TestPromise90TextsThatEndWithin(t *testing.T) {
	for _, s := range append(knownTerms, "---(((1+1)*-1)+--(1*-(1+1)))") {
		for i := range len(s) {
			failsTerm(t, s[:i])
		}
		for i := range len(s) {
			if tail := s[i:]; strings.Count(tail, "(") < strings.Count(tail, ")") {
				failsTerm(t, tail)
			}
		}
	}
}

// noTerms returns texts that are no terms.
func noTerms() []string {
	return []string{
		"", "-", "--", "(", ")", "+", "*", "()", "-()", ")(", "( )", "(+)", "(*)", "(-)", "1-", "11", "1+1", "1*1", "-1+1", "1+1)", "(1+1",
		"(1)", "((1))", "(-1)", "-(1)", "((1+1))", "-((1*1))", "(1+(1))", "((1)*1)",
		"(1+1+1)", "(1*1*1)", "(1+1*1)", "(1*1+1)", "(1+1+)", "(+1+1)", "((1+1)+1+1)", "(1+1)+1", "(1+1)(1+1)", "(1+1)*(1+1)", "(1+1-1)",
		"(11)", "(1 1)", "(1-1)", "(1--1)", "(1(1+1))", "((1+1)1)", "((1+1)(1*1))",
		"(1/1)", "(1,1)", "(1&1)", "(1|1)", "(1.1)", "(1:1)", "(1=1)", "(1^1)", "(1\x001)", "(1)1)", "(1(1)",
		"(1+)", "(1*)", "(+1)", "(*1)", "(1++1)", "(1**1)", "(1+*1)", "(1*+1)", "(1+1)-", "(1+1-)", "(1-+1)", "+1", "*1", "-+1", "(1+-)",
		"[1+1]", "{1+1}", "<1+1>", "(1+1]", "[1+1)",
		"0", "2", "7", "9", "-0", "--2", "01", "10", "12", "(0+1)", "(1+0)", "(1+2)", "(3*1)", "(1+11)", "(11*1)", "1.", "1e0", "0x1", "I", "l", "one",
		" ", "\n", " 1", "1 ", "- 1", "( 1+1)", "(1 +1)", "(1+ 1)", "(1+1 )", " (1+1)", "(1+1) ", "1\n", "\n1", "\t1", "-\n1", "\x00", "1\x00", "\x001",
		"１", "١", "¹", "①", "−1", "–1", "－1", "(1＋1)", "(1×1)", "(1∗1)", "（1+1）", "é", "1é", "(1+é)", "\xff", "\x80", "\xb1", "(1\xab1)", "(1+\xb1)", "\xad1", "(1+1\xa9", "\xc0\xb1", "\ufeff1", "(1\u200b+1)", "\xf0\x9f\x98\x80",
	}
}

func TestPromise90NoTerms(t *testing.T) {
	for _, s := range noTerms() {
		failsTerm(t, s)
		failsTerm(t, "-"+s)
		failsTerm(t, "("+s+"+1)")
		failsTerm(t, "(1*"+s+")")
	}
}

// Terms of 60 bytes and of one more, whose signs - stand at each place.
func TestPromise90SixtyBytes(t *testing.T) {
	for _, s := range append(knownTerms, slices.Concat(sortedTerms()...)...) {
		for i := range len(s) {
			if s[i] != '1' && s[i] != '(' {
				continue
			}
			long := s[:i] + strings.Repeat("-", 60-len(s)) + s[i:]
			wantTerm(t, long)
			failsTerm(t, s[:i]+"-"+long[i:])
			failsTerm(t, "-"+long)
		}
	}
}

// Many signs -, and texts far too long.
func TestPromise90ManySigns(t *testing.T) {
	for count := range 60 {
		wantTerm(t, strings.Repeat("-", count)+"1")
		failsTerm(t, strings.Repeat("-", count+1))
	}
	for _, count := range []int{60, 61, 62, 63, 64, 100, 127, 255, 256, 1000, 65536} {
		failsTerm(t, strings.Repeat("-", count)+"1")
	}
	for _, sign := range []string{"1", "-", "(", ")", "+", "*", " ", "(1+", "1)", "\xff"} {
		for _, count := range []int{2, 7, 20, 30, 59, 60, 61, 1 << 18} {
			failsTerm(t, strings.Repeat(sign, count))
		}
	}
	failsTerm(t, strings.Repeat("(", 1<<18)+"1"+strings.Repeat("+1)", 1<<18))
	failsTerm(t, "1"+strings.Repeat(" ", 1<<18))
}

// As many signs 1 as NodesMax, and one or more beyond it.
func TestPromise90SignsOfNodes(t *testing.T) {
	for _, s := range slices.Concat(tidyTerms()...) {
		for _, other := range []string{"1", "-1", "(1+1)", "((1*1)+1)", "(((1+1)*(1+1))*(1+1))"} {
			for _, both := range coupled([]string{s, other}, []string{other, s}) {
				if strings.Count(both, "1") > 6 {
					failsTerm(t, both)
					failsTerm(t, "-"+both)
				} else if !impl.TermIn(both) {
					t.Fatalf("TermIn of %q has to be true", both)
				}
			}
		}
	}
	// Fifteen signs 1, in 57 bytes and in just 60.
	failsTerm(t, strings.Repeat("(1+", 14)+"1"+strings.Repeat(")", 14))
	failsTerm(t, strings.Repeat("(1+", 14)+"---1"+strings.Repeat(")", 14))
}

// Promise 90: a sign - in front, and a bracket behind.
func TestPromise90InFrontAndBehind(t *testing.T) {
	eachTerm(func(s string) {
		if len(s) < 60 != impl.TermIn("-"+s) {
			t.Fatalf("TermIn of %q, with - in front of a term", "-"+s)
		}
		if impl.TermIn(s+")") || impl.TermIn(s+"(") {
			t.Fatalf("TermIn of %q with a bracket behind", s)
		}
	})
}

// Promise 91: graphs of terms, whose nodes stand in the order of the signs 1.
func TestPromise91KnownGraphs(t *testing.T) {
	for s, want := range map[string][]int{
		"1": {0}, "-1": {0}, "--1": {0}, "(1+1)": {0, 0}, "(1*1)": {2, 1}, "-(1+1)": {2, 1}, "-(1*1)": {0, 0}, "--(1*1)": {2, 1}, "(-1+--1)": {0, 0},
		"(1*(1+1))": {6, 1, 1}, "((1+1)*1)": {4, 4, 3}, "(1+(1*1))": {0, 4, 2}, "((1*1)+1)": {2, 1, 0}, "(1*(1*1))": {6, 5, 3},
		"-(1*(1+1))": {0, 4, 2}, "-((1+1)*1)": {2, 1, 0}, "-(1+(1*1))": {6, 1, 1}, "-((1*1)+1)": {4, 4, 3},
		"(-(1+1)+1)": {2, 1, 0}, "(1+-(1+1))": {0, 4, 2}, "(-(1*1)*1)": {4, 4, 3}, "(1*-(1*1))": {6, 1, 1}, "-(-(1+1)+1)": {4, 4, 3}, "-(1+-(1+1))": {6, 1, 1},
		"((1+1)*(1+1))": {12, 12, 3, 3}, "((1*1)+(1*1))": {2, 1, 8, 4}, "-((1+1)*(1+1))": {2, 1, 8, 4}, "(1+(1+(1*1)))": {0, 0, 8, 4}, "((1+(1*1))*1)": {8, 12, 10, 7},
		"(1*(1+(1*1)))": {14, 1, 9, 5}, "((1*(1+1))+((1+1)*1))": {6, 1, 1, 32, 32, 24}, "(((1*1)+1)+((1*1)*1))": {2, 1, 0, 48, 40, 24},
	} {
		g, ok := impl.TermGraph(s)
		hasList(t, "TermGraph", s, g, ok, want)
	}
}

// Promise 91: graphs of terms have no four nodes in a row, and a sign - gives the other pairs.
func TestPromise91GraphsOfTerms(t *testing.T) {
	eachTerm(func(s string) {
		g := must(t)(impl.TermGraph(s))
		wantGraph(t, s, g)
		if !impl.TermCog(g) {
			t.Fatalf("TermCog of %v has to be true", g)
		}
		if len(s) < 60 {
			other, ok := impl.TermGraph("-" + s)
			hasList(t, "TermGraph", "-"+s, other, ok, must(t)(impl.GraphOther(g)))
		}
	})
}

// Promise 92: tidy terms.
func TestPromise92KnownTidyTerms(t *testing.T) {
	for s, want := range map[string]string{
		"1": "1", "-1": "1", "--1": "1", "---1": "1", "----1": "1", "(1+1)": "(1+1)", "(1*1)": "(1*1)",
		"-(1+1)": "(1*1)", "-(1*1)": "(1+1)", "--(1+1)": "(1+1)", "---(1+1)": "(1*1)", "----(1*1)": "(1*1)",
		"(-1+--1)": "(1+1)", "-(-1*1)": "(1+1)", "-((1+1)*1)": "((1*1)+1)", "-(1+(1+1))": "(1*(1*1))", "(1+-(1+1))": "(1+(1*1))", "(-(1+1)+1)": "((1*1)+1)",
		"-(1+-(1+1))": "(1*(1+1))", "-(-(1*1)*1)": "((1*1)+1)", "-(1+-(1*-(1+1)))": "(1*(1*(1*1)))", "--(1+--(1*--(1+1)))": "(1+(1*(1+1)))", "-(-(-(1+1)+1)+1)": "(((1*1)+1)*1)",
		"(((1+1)*1)+(1*1))": "(((1+1)*1)+(1*1))", "-(((1+1)*1)+-(1*1))": "(((1*1)+1)*(1*1))", "-(-(1+1)*-(1*1))": "((1+1)+(1*1))", "(---(1+1)*---1)": "((1*1)*1)",
	} {
		tidy, ok := impl.TermTidy(s)
		hasText(t, "TermTidy", s, tidy, ok, want)
	}
}

func TestPromise92TidyTerms(t *testing.T) {
	eachTerm(func(s string) {
		tidy := mustText(t)(impl.TermTidy(s))
		if strings.Contains(tidy, "-") {
			t.Fatalf("TermTidy of %q: %q", s, tidy)
		}
		again, ok := impl.TermTidy(tidy)
		hasText(t, "TermTidy", tidy, again, ok, tidy)
		g, ok := impl.TermGraph(tidy)
		hasList(t, "TermGraph", tidy, g, ok, must(t)(impl.TermGraph(s)))
	})
}

// Promise 93: sorted terms.
func TestPromise93KnownSortedTerms(t *testing.T) {
	for s, want := range map[string]string{
		"1": "1", "-1": "1", "(1+1)": "(1+1)", "-(1+1)": "(1*1)", "((1+1)*1)": "((1+1)*1)", "(1*(1+1))": "((1+1)*1)", "-(1+(1*1))": "((1+1)*1)",
		// Three parts of one sign, in both bracketings.
		"(1+(1+1))": "(1+(1+1))", "((1+1)+1)": "(1+(1+1))", "((1*1)*1)": "(1*(1*1))", "-((1+1)+1)": "(1*(1*1))",
		// Four, in all five.
		"(1+(1+(1+1)))": "(1+(1+(1+1)))", "(1+((1+1)+1))": "(1+(1+(1+1)))", "((1+1)+(1+1))": "(1+(1+(1+1)))", "((1+(1+1))+1)": "(1+(1+(1+1)))", "(((1+1)+1)+1)": "(1+(1+(1+1)))",
		"(((((1*1)*1)*1)*1)*1)": "(1*(1*(1*(1*(1*1)))))", "(((1*1)*1)*((1*1)*1))": "(1*(1*(1*(1*(1*1)))))",
		// Brackets stand ahead of 1, and ( ahead of 1 within them.
		"(1+(1+(1*1)))": "((1*1)+(1+1))", "((1+(1*1))+1)": "((1*1)+(1+1))", "(1+((1*1)+1))": "((1*1)+(1+1))",
		"((1*1)+((1+1)*1))": "(((1+1)*1)+(1*1))", "(((1+1)*1)+(1*1))": "(((1+1)*1)+(1*1))", "((1*1)+(1*(1*1)))": "((1*(1*1))+(1*1))", "((1*(1*1))+((1+1)*1))": "(((1+1)*1)+(1*(1*1)))",
		// Parts that are the same.
		"((1*1)+(1*1))": "((1*1)+(1*1))", "((1*1)+(1+(1*1)))": "((1*1)+((1*1)+1))", "(((1*1)+1)+(1*1))": "((1*1)+((1*1)+1))", "((1+1)*((1+1)*(1+1)))": "((1+1)*((1+1)*(1+1)))",
		"(((1+1)*(1+1))*(1+1))": "((1+1)*((1+1)*(1+1)))", "(((1+1)*1)+(1*(1+1)))": "(((1+1)*1)+((1+1)*1))",
		// Signs that take turns.
		"(1*(1+(1*(1+(1*1)))))": "(((((1*1)+1)*1)+1)*1)", "(((((1*1)+1)*1)+1)*1)": "(((((1*1)+1)*1)+1)*1)", "-(1+-(1+-(1+-(1+1))))": "((((1+1)*1)+1)*1)",
		"(1*((1+1)*(1+(1*1))))": "(((1*1)+1)*((1+1)*1))",
	} {
		sorted, ok := impl.TermSorted(s)
		hasText(t, "TermSorted", s, sorted, ok, want)
	}
}

func TestPromise93SortedTerms(t *testing.T) {
	eachTerm(func(s string) {
		sorted := mustText(t)(impl.TermSorted(s))
		if !isSorted(sorted) {
			t.Fatalf("TermSorted of %q: %q", s, sorted)
		}
		again, ok := impl.TermSorted(sorted)
		hasText(t, "TermSorted", sorted, again, ok, sorted)
		if !impl.AlikeIn(must(t)(impl.TermGraph(sorted)), must(t)(impl.TermGraph(s))) {
			t.Fatalf("TermSorted of %q: %q, whose graph is not alike", s, sorted)
		}
	})
}

// Promise 94: terms with one sorted term.
func TestPromise94SameTerms(t *testing.T) {
	terms := append(shortTerms(11), slices.Concat(sortedTerms()...)...)
	graphs := make([][]int, len(terms))
	for i, s := range terms {
		graphs[i] = must(t)(impl.TermGraph(s))
	}
	for i, s := range terms {
		for j, other := range terms {
			want := impl.AlikeIn(graphs[i], graphs[j])
			if impl.TermSame(s, other) != want {
				t.Fatalf("TermSame of %q and %q has to be %v", s, other, want)
			}
		}
	}
}

// All tidy terms of one number of signs 1, told apart by the kinds of their graphs.
func TestPromise94TidyTerms(t *testing.T) {
	for n := 1; n <= 6; n++ {
		for _, s := range tidyTerms()[n] {
			kind := classOf(graphByWords(s)).least
			for other, sorted := range termOfKind()[n] {
				if impl.TermSame(s, sorted) != (other == kind) || impl.TermSame(sorted, s) != (other == kind) {
					t.Fatalf("TermSame of %q and %q has to be %v", s, sorted, other == kind)
				}
			}
		}
	}
}

// Promise 94: it does not hold with a text that is no term on either side, or on both.
func TestPromise94NoTerms(t *testing.T) {
	texts := noTerms()
	for i, text := range texts {
		for _, s := range knownTerms {
			if impl.TermSame(s, text) || impl.TermSame(text, s) {
				t.Errorf("TermSame of %q and %q has to be false", s, text)
			}
		}
		for _, other := range []string{text, texts[len(texts)-1-i], ""} {
			if impl.TermSame(text, other) {
				t.Errorf("TermSame of %q and %q has to be false", text, other)
			}
		}
	}
}

// failsCog checks that TermCog does not hold for a list, and that TermOf fails.
func failsCog(t *testing.T, g []int) {
	t.Helper()
	if impl.TermCog(g) {
		t.Errorf("TermCog of %v has to be false", g)
	}
	s, ok := impl.TermOf(g)
	failsText(t, "TermOf", g, s, ok)
}

func TestPromises95To96NoGraphs(t *testing.T) {
	for _, g := range noGraphs() {
		failsCog(t, g)
	}
}

// Graphs with four nodes in a row, without another edge between them: the last ones have the
// way of four beside a node, behind one, joined with one and with one more end.
func TestPromises95To96FourInARow(t *testing.T) {
	for _, g := range [][]int{
		way4, crossed4, ring5, way5, ring6, way6, broom6, twice6, prism,
		append(slices.Clone(way4), 0), append([]int{0}, renamedUp(way4)...), {18, 21, 26, 20, 15}, {2, 5, 26, 4, 4},
	} {
		failsCog(t, g)
	}
	for _, p := range namings(4) {
		failsCog(t, renamed(way4, p))
	}
	for _, p := range namings(5) {
		failsCog(t, renamed(ring5, p))
	}
}

// renamedUp returns the sets of a graph with each node called 1 more.
func renamedUp(g []int) []int {
	h := make([]int, len(g))
	for v, set := range g {
		h[v] = set << 1
	}
	return h
}

// The sorted terms of some graphs, a round of four nodes among them.
var knownCogs = []struct {
	g []int
	s string
}{
	{one, "1"}, {[]int{0, 0}, "(1+1)"}, {edge2, "(1*1)"}, {[]int{0, 0, 0}, "(1+(1+1))"}, {edgeAlone, "((1*1)+1)"}, {way3, "((1+1)*1)"}, {ring3, "(1*(1*1))"},
	{[]int{10, 5, 10, 5}, "((1+1)*(1+1))"}, {none4, "(1+(1+(1+1)))"}, {edgeTwo, "((1*1)+(1+1))"}, {edges22, "((1*1)+(1*1))"}, {[]int{2, 5, 2, 0}, "(((1+1)*1)+1)"}, {[]int{6, 5, 3, 0}, "((1*(1*1))+1)"},
	{[]int{14, 1, 1, 1}, "((1+(1+1))*1)"}, {pan4, "(((1*1)+1)*1)"}, {kite, "((1+1)*(1*1))"}, {full4, "(1*(1*(1*1)))"},
	{ring3edge, "((1*(1*1))+(1*1))"}, {ring4, "(((1+1)*(1+1))+1)"}, {star5, "((1+(1+(1+1)))*1)"}, {bowtie, "(((1*1)+(1*1))*1)"}, {twoThree, "((1+(1+1))*(1+1))"},
	{rings33, "((1*(1*1))+(1*(1*1)))"}, {threes6, "((1+(1+1))*(1+(1+1)))"}, {star6, "((1+(1+(1+(1+1))))*1)"}, {none6, "(1+(1+(1+(1+(1+1)))))"}, {full6, "(1*(1*(1*(1*(1*1)))))"},
}

func TestPromise96KnownTerms(t *testing.T) {
	for _, k := range knownCogs {
		for _, p := range namings(len(k.g)) {
			g := renamed(k.g, p)
			if !impl.TermCog(g) {
				t.Fatalf("TermCog of %v has to be true", g)
			}
			s, ok := impl.TermOf(g)
			hasText(t, "TermOf", g, s, ok, k.s)
		}
	}
}

// Promise 95: graphs without four nodes in a row.
func TestPromise95Cogs(t *testing.T) {
	eachKind(func(g []int) {
		want := copiesOf(way4, g) == 0
		if impl.TermCog(g) != want {
			t.Fatalf("TermCog of %v has to be %v", g, want)
		}
		if !want {
			failsCog(t, g)
			return
		}
		other := must(t)(impl.GraphOther(g))
		if !impl.TermCog(other) {
			t.Fatalf("TermCog of the other pairs of %v has to be true", g)
		}
		if impl.GraphLinked(g) && impl.GraphLinked(other) != (len(g) == 1) {
			t.Fatalf("%v and its other pairs: both linked", g)
		}
		if _, ok := impl.TermOf(g); !ok {
			t.Fatalf("TermOf of %v has to succeed", g)
		}
	})
}

// Promise 96: terms of graphs.
func TestPromise96TermsOfGraphs(t *testing.T) {
	eachGraph(6, func(g []int, _ int) {
		s, ok := impl.TermOf(g)
		want := sortedByKind(g)
		if want == "" {
			failsText(t, "TermOf", g, s, ok)
			return
		}
		hasText(t, "TermOf", g, s, ok, want)
		sorted, ok := impl.TermSorted(s)
		hasText(t, "TermSorted", s, sorted, ok, s)
		if !isSorted(s) || !impl.AlikeIn(g, must(t)(impl.TermGraph(s))) {
			t.Fatalf("TermOf of %v: %q", g, s)
		}
	})
}

// Terms of the graphs of terms are the sorted ones.
func TestPromise96BackToTerms(t *testing.T) {
	eachTerm(func(s string) {
		g := must(t)(impl.TermGraph(s))
		back, ok := impl.TermOf(g)
		hasText(t, "TermOf the graph of "+s, g, back, ok, mustText(t)(impl.TermSorted(s)))
	})
}

// Promise 97: numbers of sorted terms.
func TestPromise97NumbersOfTerms(t *testing.T) {
	for i, want := range []int{1, 2, 4, 10, 24} {
		n := i + 1
		count, ok := impl.TermMany(n)
		hasNumber(t, "TermMany", n, count, ok, want)
		if want != len(sortedTerms()[n]) || n > 1 && count%2 != 0 {
			t.Fatalf("TermMany of %d: %d, and there are %v", n, count, sortedTerms()[n])
		}
		all := len(must(t)(impl.AlikeAll(n)))
		if count > all || n <= 3 && count != all {
			t.Fatalf("TermMany of %d: %d, and AlikeAll has %d", n, count, all)
		}
	}
	for _, n := range []int{0, -1, -2, -5, 6, 7, 60, 64, most, least} {
		count, ok := impl.TermMany(n)
		failsNumber(t, "TermMany", n, count, ok)
	}
}

// Each kind of graph has one sorted term at most, and each sorted term a kind of its own.
func TestPromise97OneTermForEachKind(t *testing.T) {
	for n := 1; n <= 6; n++ {
		if len(sortedTerms()[n]) != len(termOfKind()[n]) {
			t.Fatalf("%d sorted terms of %d signs 1 for %d kinds", len(sortedTerms()[n]), n, len(termOfKind()[n]))
		}
	}
}

// Promise 98: colours of terms.
func TestPromise98Colours(t *testing.T) {
	for _, s := range append(shortTerms(13), slices.Concat(tidyTerms()...)...) {
		colours := mustNumber(t)(impl.TermColours(s))
		g := must(t)(impl.TermGraph(s))
		fewest, ok := impl.SetColours(g)
		hasNumber(t, "SetColours of the graph of "+s, g, fewest, ok, colours)
		full, ok := impl.SetFull(g)
		hasNumber(t, "SetFull of the graph of "+s, g, full, ok, colours)
	}
}

// Promise 99: free sets of terms.
func TestPromise99FreeSets(t *testing.T) {
	eachTerm(func(s string) {
		free := mustNumber(t)(impl.TermFull(s))
		g := must(t)(impl.TermGraph(s))
		greatest, ok := impl.SetFree(g)
		hasNumber(t, "SetFree of the graph of "+s, g, greatest, ok, free)
		if len(s) < 60 {
			colours, ok := impl.TermColours("-" + s)
			hasNumber(t, "TermColours", "-"+s, colours, ok, free)
		}
	})
}

func TestPromises98To99KnownTerms(t *testing.T) {
	for _, k := range []struct {
		s             string
		colours, free int
	}{
		{"1", 1, 1}, {"-1", 1, 1}, {"(1+1)", 1, 2}, {"(1*1)", 2, 1}, {"-(1+1)", 2, 1}, {"--(1+1)", 1, 2}, {"((1+1)*1)", 2, 2}, {"(1+(1*1))", 2, 2}, {"((1+1)*(1+1))", 2, 2}, {"-((1+1)*(1+1))", 2, 2},
		{"((1*1)+(1*(1*1)))", 3, 2}, {"((1+1)*(1+(1+1)))", 2, 3}, {"(1+(1+(1+(1+(1+1)))))", 1, 6}, {"-(1+(1+(1+(1+(1+1)))))", 6, 1}, {"((1*(1+1))+(1*-(1+1)))", 3, 3}, {"(1*-(1*-(1+-(1*1))))", 2, 4},
	} {
		colours, ok := impl.TermColours(k.s)
		hasNumber(t, "TermColours", k.s, colours, ok, k.colours)
		free, ok := impl.TermFull(k.s)
		hasNumber(t, "TermFull", k.s, free, ok, k.free)
	}
}

// Promise 100: terms of the other pairs.
func TestPromise100TermsOfTheOtherPairs(t *testing.T) {
	eachKind(func(g []int) {
		s, ok := impl.TermOf(g)
		if !ok {
			return
		}
		other, ok := impl.TermOf(must(t)(impl.GraphOther(g)))
		hasText(t, "TermOf of the other pairs", g, other, ok, mustText(t)(impl.TermSorted("-"+s)))
	})
}

// Lists share no memory with arguments or earlier results, and arguments stay as they are.
func TestTermsMemoryIsNotShared(t *testing.T) {
	calls := map[string]func() ([]int, bool){}
	for _, s := range append(knownTerms, shortTerms(7)...) {
		calls["TermGraph of "+s] = func() ([]int, bool) { return impl.TermGraph(s) }
	}
	wantOwnMemory(t, calls)
	lists := append(noGraphs(), way4, ring5, way6, crossed4)
	for _, k := range knownCogs {
		lists = append(lists, k.g)
	}
	for _, list := range lists {
		g := roomy(list)
		impl.TermCog(g)
		impl.TermOf(g)
		wantAsBefore(t, g, list)
	}
}
