package tests

import (
	"fmt"
	"regexp"
	"slices"
	"strconv"
	"strings"
	"sync"
	"testing"

	"loop.example/graphpieces/impl"
)

// reply is what a line prints, if it succeeds, and the graph that it leaves, if it leaves
// another one.
type reply struct {
	text string
	ok   bool
	left []int
}

func numberReply(number int, ok bool) reply {
	return reply{text: strconv.Itoa(number), ok: ok}
}

func listReply(list []int, ok bool) reply {
	return reply{text: shown(list), ok: ok}
}

func textReply(text string, ok bool) reply {
	return reply{text: text, ok: ok}
}

func graphReply(g []int, ok bool) reply {
	return reply{text: "ok", ok: ok, left: g}
}

// shown returns the text of a list by the document's words.
func shown(list []int) string {
	if len(list) == 0 {
		return "-"
	}
	return strings.Join(textsOf(list), " ")
}

// command is a word of the document, with what it prints for a graph and a rest.
type command struct {
	word    string
	hasRest bool
	tell    func(g []int, rest string) reply
}

// numbersForm is the form of a rest of numbers.
var numbersForm = regexp.MustCompile(`\A[0-9]{1,5}(?: [0-9]{1,5})*\z`)

// numbersOf returns the numbers of a rest, or none if it is no rest of numbers.
func numbersOf(rest string) []int {
	if !numbersForm.MatchString(rest) {
		return nil
	}
	var list []int
	for _, digits := range strings.Fields(rest) {
		number := 0
		for _, digit := range digits {
			number = 10*number + int(digit-'0')
		}
		list = append(list, number)
	}
	return list
}

func asksNumber(word string, tell func(g []int) (int, bool)) command {
	return command{word, false, func(g []int, _ string) reply { return numberReply(tell(g)) }}
}

func asksList(word string, tell func(g []int) ([]int, bool)) command {
	return command{word, false, func(g []int, _ string) reply { return listReply(tell(g)) }}
}

func asksWhether(word string, tell func(g []int) bool) command {
	return command{word, false, func(g []int, _ string) reply {
		if tell(g) {
			return reply{text: "yes", ok: true}
		}
		return reply{text: "not", ok: true}
	}}
}

func takesMany(word string, tell func(g []int, list []int) reply) command {
	return command{word, true, func(g []int, rest string) reply {
		if list := numbersOf(rest); len(list) > 0 {
			return tell(g, list)
		}
		return reply{}
	}}
}

func takesOne(word string, tell func(g []int, number int) reply) command {
	return takesMany(word, func(g []int, list []int) reply {
		if len(list) != 1 {
			return reply{}
		}
		return tell(g, list[0])
	})
}

func takesTwo(word string, tell func(g []int, a int, b int) reply) command {
	return takesMany(word, func(g []int, list []int) reply {
		if len(list) != 2 {
			return reply{}
		}
		return tell(g, list[0], list[1])
	})
}

func takesText(word string, tell func(g []int, text string) reply) command {
	return command{word, true, tell}
}

// numberFor, listFor and graphFor are what words with one number do with a function that
// takes a graph and this.
func numberFor(tell func(g []int, number int) (int, bool)) func(g []int, number int) reply {
	return func(g []int, number int) reply { return numberReply(tell(g, number)) }
}

func listFor(tell func(g []int, number int) ([]int, bool)) func(g []int, number int) reply {
	return func(g []int, number int) reply { return listReply(tell(g, number)) }
}

func graphFor(tell func(g []int, number int) ([]int, bool)) func(g []int, number int) reply {
	return func(g []int, number int) reply { return graphReply(tell(g, number)) }
}

// commands has all words in the document's order.
var commands = []command{
	takesTwo("graph", func(_ []int, n int, code int) reply { return graphReply(impl.GraphOf(n, code)) }),
	takesTwo("edge", edgeByWords),
	takesOne("drop", graphFor(impl.GraphDrop)),
	takesOne("part", graphFor(impl.GraphPart)),
	takesMany("name", func(g []int, list []int) reply { return graphReply(impl.GraphNamed(g, list)) }),
	takesOne("switch", graphFor(impl.NearSwitched)),
	{"other", false, func(g []int, _ string) reply { return graphReply(impl.GraphOther(g)) }},
	{"sort", false, func(g []int, _ string) reply { return graphReply(drawn(len(g), classOf(g).least), true) }},
	{"show", false, func(g []int, _ string) reply { return listReply(g, true) }},
	asksNumber("code", impl.GraphCode), asksNumber("edges", impl.GraphEdges), asksList("degrees", impl.GraphDegrees), asksWhether("linked", impl.GraphLinked),
	asksNumber("least", impl.AlikeLeast), asksNumber("same", impl.AlikeSame), asksList("orbits", impl.AlikeOrbits), asksNumber("many", impl.AlikeMany), asksWhether("own", impl.AlikeOwn),
	takesOne("all", func(_ []int, n int) reply {
		codes, ok := impl.AlikeAll(n)
		return numberReply(len(codes), ok)
	}),
	asksList("deck", impl.DeckOf), asksList("cards", impl.DeckByEdges),
	takesMany("back", func(_ []int, list []int) reply { return numberReply(impl.DeckBack(len(list), list)) }),
	asksList("poly", impl.NumberPoly), asksNumber("trees", impl.NumberTrees), asksNumber("three", impl.NumberThree),
	takesOne("walks", numberFor(impl.NumberWalks)), takesOne("closed", numberFor(impl.NumberClosed)),
	asksList("fine", impl.FineEnd),
	takesMany("from", func(g []int, list []int) reply { return listReply(impl.FineFrom(g, list)) }),
	takesTwo("copies", func(g []int, n int, code int) reply {
		piece, ok := impl.GraphOf(n, code)
		if !ok {
			return reply{}
		}
		return numberReply(impl.CopyCount(piece, g))
	}),
	takesOne("pieces", listFor(impl.CopyAll)),
	takesOne("near", func(g []int, code int) reply {
		if code >= codeCount(len(g)) {
			return reply{}
		}
		return numberReply(impl.NearLeast(g, drawn(len(g), code)))
	}),
	asksList("twins", impl.NearTwins), asksNumber("flip", impl.NearSwitchLeast),
	asksList("tutte", func(g []int) ([]int, bool) {
		rows, ok := impl.TutteSets(g)
		var list []int
		for _, row := range rows {
			list = append(list, row...)
		}
		return list, ok
	}),
	takesOne("paint", numberFor(impl.TutteColours)), takesOne("flows", numberFor(impl.TutteFlows)),
	asksList("letters", impl.TreeLetters),
	takesMany("plant", func(_ []int, list []int) reply { return graphReply(impl.TreeFrom(len(list)+2, list)) }),
	asksNumber("middle", impl.TreeMiddle), asksNumber("first", impl.TreeFirst),
	asksNumber("free", impl.SetFree), asksNumber("full", impl.SetFull), asksNumber("watch", impl.SetWatch), asksNumber("match", impl.SetMatch), asksNumber("hues", impl.SetColours),
	asksList("counts", impl.SetCounts),
	takesText("term", func(_ []int, text string) reply { return graphReply(impl.TermGraph(text)) }),
	{"as", false, func(g []int, _ string) reply { return textReply(impl.TermOf(g)) }},
	takesText("tidy", func(_ []int, text string) reply { return textReply(impl.TermTidy(text)) }),
	takesOne("prove", func(g []int, code int) reply {
		if code >= codeCount(len(g)) {
			return reply{}
		}
		return textReply(impl.ProofMake(g, drawn(len(g), code)))
	}),
}

// edgeByWords makes a pair an edge or none, by its bit in the code.
func edgeByWords(g []int, a int, b int) reply {
	for place, pair := range pairOrder[:pairCount(len(g))] {
		if pair == [2]int{min(a, b), max(a, b)} {
			return graphReply(drawn(len(g), codeOf(g)^1<<place), true)
		}
	}
	return reply{}
}

// isWord reports whether a text is a word, and whether it has a rest.
func isWord(text string) (bool, bool) {
	for _, c := range commands {
		if c.word == text {
			return true, c.hasRest
		}
	}
	return false, false
}

// lineByWords returns what a line prints by the document's words, and the graph behind it.
func lineByWords(g []int, line string) (string, []int) {
	for _, c := range commands {
		rest, hasRest := strings.CutPrefix(line, c.word+" ")
		if hasRest != c.hasRest || !hasRest && line != c.word {
			continue
		}
		told := c.tell(g, rest)
		switch {
		case !told.ok:
			return "no", g
		case told.left != nil:
			return told.text, told.left
		}
		return told.text, g
	}
	return "what", g
}

// outputByWords returns the output of a script by the document's words.
func outputByWords(script string) string {
	if len(script) > 600 {
		return "too long\n"
	}
	g := []int{0, 0, 0}
	output := ""
	for {
		line, behind, ended := strings.Cut(script, "\n")
		if !ended {
			return output + fmt.Sprintf("nodes %d\n", len(g))
		}
		var text string
		text, g = lineByWords(g, line)
		output += text + "\n"
		script = behind
	}
}

// wantOutput checks the output of a script.
func wantOutput(t *testing.T, script string, want string) {
	t.Helper()
	if got := impl.Execute(script); got != want {
		t.Fatalf("Execute of %q: %q; it has to be %q", script[:min(len(script), 700)], got, want)
	}
}

// wantByWords checks the output of a script against the document's words.
func wantByWords(t *testing.T, script string) {
	t.Helper()
	wantOutput(t, script, outputByWords(script))
}

// graphLine returns the line that makes a graph.
func graphLine(g []int) string {
	return fmt.Sprintf("graph %d %d\n", len(g), codeOf(g))
}

// wantLine checks what a line prints for a graph, and that it leaves another one.
func wantLine(t *testing.T, g []int, line string, text string, left []int) {
	t.Helper()
	wantOutput(t, graphLine(g)+line+"\nshow\n", fmt.Sprintf("ok\n%s\n%s\nnodes %d\n", text, shown(left), len(left)))
}

// knownLines are lines with what they print for a graph, and the graph that they leave, if
// it is another one.
var knownLines = []struct {
	g     []int
	lines [][2]string
	left  [][]int
}{
	{square, [][2]string{
		{"show", "10 5 10 5"}, {"code", "45"}, {"edges", "4"}, {"degrees", "2 2 2 2"}, {"linked", "yes"}, {"least", "30"}, {"same", "8"}, {"orbits", "15"}, {"many", "3"}, {"own", "not"},
		{"all 1", "1"}, {"all 2", "2"}, {"all 3", "4"}, {"all 4", "11"}, {"all 5", "34"}, {"all 0", "no"}, {"all 6", "no"},
		{"deck", "3 3 3 3"}, {"cards", "13 13 13 13"}, {"back 3 3 3 3", "30"}, {"back 0 1 1", "3"}, {"back 0 0 0 0 0", "0"}, {"back 1 0 0", "no"}, {"back 2 2 2", "no"}, {"back 0", "no"}, {"back 0 0", "no"}, {"back 0 0 0 0 0 0", "no"},
		{"poly", "0 0 -4 0 1"}, {"trees", "4"}, {"three", "0"}, {"walks 0", "4"}, {"walks 2", "16"}, {"walks 12", "16384"}, {"walks 13", "no"}, {"closed 1", "0"}, {"closed 4", "32"}, {"closed 12", "8192"}, {"closed 13", "no"},
		{"fine", "0 0 0 0"}, {"from 1 0 0 0", "2 1 0 1"}, {"from 1000 0 0 0", "2 1 0 1"}, {"from 1001 0 0 0", "no"}, {"from 0 0 0", "no"}, {"from 0 0 0 0 0", "no"},
		{"copies 1 0", "4"}, {"copies 2 0", "2"}, {"copies 2 1", "4"}, {"copies 3 5", "4"}, {"copies 4 45", "1"}, {"copies 5 0", "0"}, {"copies 6 32767", "0"}, {"copies 7 0", "no"}, {"copies 0 0", "no"}, {"copies 2 2", "no"}, {"copies 6 32768", "no"},
		{"pieces 1", "0"}, {"pieces 2", "0 1"}, {"pieces 3", "3"}, {"pieces 4", "30"}, {"pieces 0", "no"}, {"pieces 5", "no"},
		{"near 0", "4"}, {"near 30", "0"}, {"near 63", "2"}, {"near 64", "no"}, {"twins", "5 10"}, {"flip", "0"},
		{"tutte", "0 1 1 0 1 0 1 0"}, {"paint 0", "0"}, {"paint 3", "18"}, {"paint 5", "260"}, {"paint 6", "no"}, {"flows 2", "1"}, {"flows 3", "2"}, {"flows 4", "3"}, {"flows 1", "no"}, {"flows 5", "no"},
		{"letters", "no"}, {"middle", "no"}, {"first", "13"}, {"free", "2"}, {"full", "2"}, {"watch", "2"}, {"match", "2"}, {"hues", "2"}, {"counts", "1 4 2"},
		{"as", "((1+1)*(1+1))"}, {"tidy 1", "1"}, {"tidy --1", "1"}, {"tidy -((1+1)*1)", "((1*1)+1)"}, {"tidy 1)", "no"}, {"tidy (1 + 1)", "no"}, {"tidy (1+1", "no"}, {"tidy (1+(1+(1+(1+(1+(1+1))))))", "no"},
		{"prove 30", "names 0 2 1 3"}, {"prove 45", "names 0 1 2 3"}, {"prove 0", "piece 2 0"}, {"prove 64", "no"},
		{"graph 0 0", "no"}, {"graph 7 0", "no"}, {"graph 1 1", "no"}, {"graph 3 8", "no"}, {"graph 6 32768", "no"}, {"graph 6 99999", "no"},
		{"edge 1 1", "no"}, {"edge 0 4", "no"}, {"edge 4 0", "no"}, {"edge 4 5", "no"}, {"edge 0 64", "no"}, {"edge 99999 99998", "no"}, {"drop 4", "no"}, {"part 0", "no"}, {"part 16", "no"},
		{"name 0 0 1 2", "no"}, {"name 0 1 2 4", "no"}, {"name 0 1 2", "no"}, {"name 0 1 2 3 4", "no"}, {"switch 16", "no"}, {"plant 3", "no"}, {"plant 4 0", "no"}, {"plant 0 0 0 0 0", "no"},
		{"term (1", "no"}, {"term 1)", "no"}, {"term (1 + 1)", "no"}, {"term  1", "no"}, {"term 1 ", "no"}, {"term (1+(1+(1+(1+(1+(1+1))))))", "no"}, {"zzz", "what"}, {"edge x", "no"},
	}, nil},
	{square, [][2]string{
		{"graph 1 0", "ok"}, {"graph 6 32767", "ok"}, {"graph 00003 00005", "ok"}, {"edge 0 2", "ok"}, {"edge 1 0", "ok"}, {"edge 2 3", "ok"}, {"drop 1", "ok"}, {"part 7", "ok"}, {"part 5", "ok"}, {"part 8", "ok"}, {"part 15", "ok"},
		{"name 0 2 1 3", "ok"}, {"switch 0", "ok"}, {"switch 1", "ok"}, {"switch 5", "ok"}, {"switch 15", "ok"}, {"other", "ok"}, {"sort", "ok"},
		{"plant 0", "ok"}, {"plant 0 0", "ok"}, {"plant 1 2 3", "ok"}, {"plant 3 3 3 3", "ok"}, {"term 1", "ok"}, {"term (1+(1*1))", "ok"}, {"term -(1+1)", "ok"}, {"term (1*(1*(1*(1*(1*1)))))", "ok"},
	}, [][]int{
		{0}, full6, way3, {14, 5, 11, 5}, {8, 4, 10, 5}, {10, 5, 2, 1}, {4, 4, 3}, way3, {0, 0}, {0}, square,
		{12, 12, 3, 3}, square, {4, 4, 11, 4}, none4, square, {4, 8, 1, 2}, {12, 12, 3, 3},
		{6, 1, 1}, {14, 1, 1, 1}, way5, {8, 8, 8, 55, 8, 8}, {0}, {0, 4, 2}, edge2, full6,
	}},
	{one, [][2]string{
		{"show", "0"}, {"code", "0"}, {"edges", "0"}, {"degrees", "0"}, {"linked", "yes"}, {"least", "0"}, {"same", "1"}, {"orbits", "1"}, {"many", "1"}, {"own", "yes"}, {"deck", "no"}, {"cards", "-"}, {"poly", "0 1"}, {"trees", "1"}, {"three", "0"},
		{"walks 0", "1"}, {"walks 1", "0"}, {"closed 0", "1"}, {"fine", "0"}, {"from 1000", "0"}, {"from 0 0", "no"}, {"copies 1 0", "1"}, {"copies 2 0", "0"}, {"pieces 1", "0"}, {"pieces 2", "no"}, {"near 0", "0"}, {"near 1", "no"}, {"twins", "1"}, {"flip", "0"},
		{"tutte", "1"}, {"paint 5", "5"}, {"flows 2", "1"}, {"letters", "no"}, {"middle", "1"}, {"first", "0"}, {"free", "1"}, {"full", "1"}, {"watch", "1"}, {"match", "0"}, {"hues", "1"}, {"counts", "1 1"}, {"as", "1"}, {"prove 0", "names 0"}, {"prove 1", "no"},
		{"all 4", "11"}, {"back 1 1 1", "7"}, {"tidy (-1+1)", "(1+1)"}, {"edge 0 0", "no"}, {"edge 0 1", "no"}, {"drop 0", "no"}, {"part 2", "no"}, {"name 1", "no"}, {"name 0 0", "no"}, {"switch 2", "no"},
		{"other", "ok"}, {"sort", "ok"}, {"part 1", "ok"}, {"name 0", "ok"}, {"switch 1", "ok"},
	}, nil},
	{one, [][2]string{{"graph 2 1", "ok"}, {"plant 1", "ok"}, {"term (1*1)", "ok"}}, [][]int{edge2, way3, edge2}},
	{full6, [][2]string{
		{"show", "62 61 59 55 47 31"}, {"code", "32767"}, {"edges", "15"}, {"degrees", "5 5 5 5 5 5"}, {"linked", "yes"}, {"least", "32767"}, {"same", "720"}, {"orbits", "63"}, {"many", "1"}, {"own", "not"},
		{"deck", "1023 1023 1023 1023 1023 1023"}, {"cards", "16383" + strings.Repeat(" 16383", 14)}, {"poly", "-5 -24 -45 -40 -15 0 1"}, {"trees", "1296"}, {"three", "20"}, {"walks 12", "1464843750"}, {"closed 12", "244140630"},
		{"fine", "0 0 0 0 0 0"}, {"from 0 0 7 0 0 0", "0 0 1 0 0 0"}, {"copies 4 63", "15"}, {"copies 6 32767", "1"}, {"copies 2 0", "0"}, {"pieces 5", "1023"}, {"pieces 6", "32767"}, {"pieces 7", "no"}, {"near 0", "15"}, {"near 32767", "0"}, {"near 32768", "no"},
		{"twins", "63"}, {"flip", "1023"}, {"tutte", "no"}, {"paint 3", "no"}, {"flows 3", "no"}, {"letters", "no"}, {"middle", "no"}, {"first", "1099"}, {"free", "1"}, {"full", "6"}, {"watch", "1"}, {"match", "3"}, {"hues", "6"}, {"counts", "1 6"},
		{"as", "(1*(1*(1*(1*(1*1)))))"}, {"prove 32767", "names 0 1 2 3 4 5"}, {"prove 0", "piece 2 0"}, {"prove 32768", "no"}, {"all 5", "34"}, {"back 1 1 1", "7"}, {"tidy -(1+1)", "(1*1)"},
		{"edge 5 6", "no"}, {"edge 5 5", "no"}, {"drop 6", "no"}, {"part 64", "no"}, {"name 0 1 2 3 4", "no"}, {"name 0 1 2 3 4 5 6", "no"}, {"name 1 2 3 4 5 6", "no"}, {"switch 64", "no"}, {"sort", "ok"}, {"part 63", "ok"}, {"name 5 4 3 2 1 0", "ok"}, {"switch 63", "ok"},
	}, nil},
	{full6, [][2]string{{"edge 4 5", "ok"}, {"drop 5", "ok"}, {"part 42", "ok"}, {"switch 7", "ok"}, {"other", "ok"}, {"graph 6 0", "ok"}, {"plant 0", "ok"}, {"term 1", "ok"}}, [][]int{
		{62, 61, 59, 55, 15, 15}, full5, ring3, rings33, none6, none6, {6, 1, 1}, {0},
	}},
	{way4, [][2]string{{"letters", "1 2"}, {"middle", "6"}, {"first", "37"}, {"own", "yes"}, {"as", "no"}, {"orbits", "9 6"}, {"twins", "1 2 4 8"}, {"degrees", "1 2 2 1"}, {"linked", "yes"}}, nil},
	{way3, [][2]string{{"letters", "1"}, {"middle", "2"}, {"cards", "1 1"}, {"fine", "0 1 0"}, {"prove 3", "names 1 0 2"}}, nil},
	{edge2, [][2]string{{"letters", "-"}, {"middle", "3"}, {"cards", "0"}, {"deck", "0 0"}, {"tutte", "0 1"}, {"trees", "1"}}, nil},
	{none6, [][2]string{{"cards", "-"}, {"first", "no"}, {"linked", "not"}, {"trees", "0"}, {"tutte", "no"}, {"letters", "no"}, {"counts", "1 6 15 20 15 6 1"}, {"poly", "0 0 0 0 0 0 1"}}, nil},
	{[]int{0, 0, 0}, [][2]string{{"first", "no"}, {"linked", "not"}, {"cards", "-"}, {"as", "(1+(1+1))"}, {"tutte", "1"}, {"letters", "no"}, {"middle", "no"}, {"trees", "0"}}, nil},
	{noneLike6, [][2]string{{"same", "1"}, {"orbits", "1 2 4 8 16 32"}, {"many", "720"}, {"as", "no"}}, nil},
}

// square is a ring of four nodes.
var square = []int{10, 5, 10, 5}

// surely are the words that never fail.
var surely = strings.Fields("other sort show code edges degrees linked least same orbits many own cards poly trees three fine twins flip free full watch match hues counts")

func TestPromises108To113KnownLines(t *testing.T) {
	succeeded, refused := map[string]bool{}, map[string]bool{}
	for _, k := range knownLines {
		for i, line := range k.lines {
			left := k.g
			if k.left != nil {
				left = k.left[i]
			}
			wantLine(t, k.g, line[0], line[1], left)
			word, _, _ := strings.Cut(line[0], " ")
			succeeded[word] = succeeded[word] || line[1] != "no"
			refused[word] = refused[word] || line[1] == "no"
		}
	}
	for _, c := range commands {
		if !succeeded[c.word] || refused[c.word] == slices.Contains(surely, c.word) {
			t.Errorf("the word %s: known to succeed %v, to fail %v", c.word, succeeded[c.word], refused[c.word])
		}
	}
	if len(commands) != 51 {
		t.Errorf("%d words", len(commands))
	}
}

// goodRests has for each word with a rest one with which it succeeds for the square.
var goodRests = map[string]string{
	"graph": "4 53", "edge": "0 2", "drop": "1", "part": "7", "name": "1 0 2 3", "switch": "1", "all": "4", "back": "0 1 1", "walks": "2", "closed": "4", "from": "1 0 0 0",
	"copies": "3 3", "pieces": "3", "near": "30", "paint": "3", "flows": "3", "plant": "1 2", "term": "(1*1)", "tidy": "(1*1)", "prove": "30",
}

// eachRest calls do for each word that takes a rest, with a good one.
func eachRest(do func(word string, rest string)) {
	for _, c := range commands {
		if c.hasRest {
			do(c.word, goodRests[c.word])
		}
	}
}

// eachNumbers calls do for each word that takes a rest of numbers, with a good one.
func eachNumbers(do func(word string, rest string)) {
	eachRest(func(word string, rest string) {
		if word != "term" && word != "tidy" {
			do(word, rest)
		}
	})
}

// wantSame checks that a line prints a text for the square, and that it changes nothing.
func wantSame(t *testing.T, line string, text string) {
	t.Helper()
	wantLine(t, square, line, text, square)
}

// Lines with and without a rest.
func TestPromises108To113RestsAndNone(t *testing.T) {
	for _, c := range commands {
		if !c.hasRest {
			text, left := lineByWords(square, c.word)
			wantLine(t, square, c.word, text, left)
			for _, rest := range []string{"", " ", "0", "1", "0 1", "x", "1 ", "(1+1)", "-", "\t", "\r", c.word, " " + c.word} {
				wantSame(t, c.word+" "+rest, "what")
			}
		}
	}
	eachRest(func(word string, rest string) {
		wantSame(t, word, "what")
		for _, wrong := range []string{"", " ", "  ", "\t", "\r", "-", "x", word, " " + word, word + " " + rest, " " + rest, "  " + rest, rest + " ", rest + "  ", " " + rest + " ", rest + "\t", "\t" + rest, rest + "\r", rest + "\x00", "(" + rest, rest + ")", rest + " show"} {
			wantSame(t, word+" "+wrong, "no")
		}
		for _, between := range []string{"", "\t", "\t ", "\r", "\v", "\f", "\x00", "\u00a0", "\xa0", "-", ",", "=", ":"} {
			_, hasSpace := strings.CutSuffix(between, " ")
			if hasSpace || !strings.Contains(rest, " ") {
				wantSame(t, word+between+rest, "what")
			}
		}
	})
}

// misspelt returns texts made from a word that are none.
func misspelt(word string) []string {
	texts := []string{strings.ToUpper(word), strings.ToUpper(word[:1]) + word[1:], word[:len(word)-1] + strings.ToUpper(word[len(word)-1:]), word + word, "", "x", word + "\t", word + "\r", word + "\x00", "\t" + word, "\ufeff" + word, word + "\xff", word + "é", word + "\u00a0", "\"" + word + "\"", word + ";", word + ":", "-" + word, word + "-", word + "1", "1" + word}
	for i := range len(word) {
		texts = append(texts, word[:i]+word[i+1:], word[:i]+word[i:i+1]+word[i:], word[:i]+"x"+word[i+1:], word[:i]+"s"+word[i:])
	}
	for _, letter := range strings.Split("a b e d n r s t x y z _ .", " ") {
		texts = append(texts, word+letter, letter+word)
	}
	return slices.DeleteFunc(texts, func(text string) bool {
		known, _ := isWord(text)
		return known
	})
}

func TestPromises108To113WordsThatAreNone(t *testing.T) {
	for _, c := range commands {
		rest := goodRests[c.word]
		for _, text := range misspelt(c.word) {
			wantSame(t, text, "what")
			wantSame(t, text+" ", "what")
			wantSame(t, text+" 1", "what")
			if c.hasRest {
				wantSame(t, text+" "+rest, "what")
			}
		}
		for _, ahead := range []string{" ", "  ", "\t", " \t", "\r", "\x00", "0 ", "- ", ". "} {
			wantSame(t, ahead+c.word, "what")
			wantSame(t, ahead+c.word+" ", "what")
			wantSame(t, ahead+c.word+" "+rest, "what")
		}
	}
	for _, line := range []string{"", " ", "  ", "\t", "0", "1", "zzz", "help", "quit", "exit", "nodes", "nodes 3", "ok", "no", "what", "yes", "not", "too long", "no ", "what ", "new", "set", "cover", "lines", "greedy", "best", "join", "way", "far", "in", "graph\x004 53", "#", "# show", "//", "show;code", "show,code", "show&&code", strings.Repeat("x", 500), strings.Repeat(" ", 500)} {
		wantSame(t, line, "what")
	}
	for b := range 256 {
		if line := string([]byte{byte(b)}); line != "\n" {
			wantSame(t, line, "what")
			wantSame(t, "show"+line, "what")
			wantSame(t, line+"show", "what")
		}
	}
}

// widened returns a rest with each number in some digits at least.
func widened(rest string, digits int) string {
	texts := strings.Split(rest, " ")
	for i, text := range texts {
		texts[i] = strings.Repeat("0", max(0, digits-len(text))) + text
	}
	return strings.Join(texts, " ")
}

func TestPromises108To113DigitsAndLeadingZeros(t *testing.T) {
	eachNumbers(func(word string, rest string) {
		text, left := lineByWords(square, word+" "+rest)
		if text == "no" || text == "what" {
			t.Fatalf("%s %s has to succeed", word, rest)
		}
		for digits := 1; digits <= 5; digits++ {
			wantLine(t, square, word+" "+widened(rest, digits), text, left)
		}
		for digits := 6; digits <= 30; digits += 4 {
			wantSame(t, word+" "+widened(rest, digits), "no")
		}
		// One of the numbers alone in more digits.
		numbers := strings.Split(rest, " ")
		for i, number := range numbers {
			wide := slices.Clone(numbers)
			wide[i] = widened(number, 5)
			wantLine(t, square, word+" "+strings.Join(wide, " "), text, left)
			for _, digits := range []int{6, 7, 20} {
				wide[i] = widened(number, digits)
				wantSame(t, word+" "+strings.Join(wide, " "), "no")
			}
		}
	})
	for _, line := range [][2]string{{"near 9", "2"}, {"near 09", "2"}, {"near 63", "2"}, {"near 063", "2"}, {"walks 010", "4096"}, {"walks 00010", "4096"}, {"walks 08", "1024"}, {"from 0 999 1000 00009", "0 2 3 1"}, {"copies 4 63", "0"}, {"copies 5 1023", "0"}, {"copies 6 12345", "0"}, {"copies 6 032767", "no"}, {"near 100000", "no"}, {"near 000030", "no"}, {"near 65566", "no"}} {
		wantSame(t, line[0], line[1])
	}
}

// wrongNumbers returns texts that are no number of one to five digits.
func wrongNumbers(number string) []string {
	return []string{
		"", " ", "-", "+", ".", "x", "-" + number, "+" + number, "--" + number, number + "-", number + "+", "-0", "+0", "-1", "+1", number + "x", "x" + number, number + "a", "a", "f", "one", "0x" + number, "0X" + number, "0b1", "0o7", "1_0", "0_0", "_" + number, number + "_",
		number + ".", "." + number, number + ".0", "1e0", number + "e0", number + ",", number + ";", "(" + number + ")", "[" + number + "]", "\"" + number + "\"", "'" + number + "'", number + "\t", "\t" + number, number + "\r", number + "\v", number + "\f", number + "\x00", "\x00" + number, number + "\u00a0", "\u00a0" + number, number + "\xa0",
		"\u0661", "\u0660", "\uff11", "\u00b9", "\u00bd", "\xb1", "\xff", "é", "NaN", "Inf", "nil", "100000", "123456", "999999", "4294967296", "4294967297", "9223372036854775807", "9223372036854775808", "18446744073709551616", "18446744073709551617", "1" + strings.Repeat("0", 100), strings.Repeat("0", 6), strings.Repeat("0", 100), strings.Repeat("9", 300), number + "/1", number + "+0", number + "*1", "99999x", "x99999",
	}
}

func TestPromises108To113WrongNumbers(t *testing.T) {
	eachNumbers(func(word string, rest string) {
		numbers := strings.Split(rest, " ")
		for i, number := range numbers {
			for _, wrong := range wrongNumbers(number) {
				list := slices.Clone(numbers)
				list[i] = wrong
				wantSame(t, word+" "+strings.Join(list, " "), "no")
			}
		}
		for _, between := range []string{"  ", "\t", " \t", "\t ", "\r", "\v", "\f", "\x00", "\u00a0", "\u2003", ",", ", ", ";", "+", "-", " - ", " and "} {
			if len(numbers) > 1 {
				wantSame(t, word+" "+strings.Join(numbers, between), "no")
			}
			wantSame(t, word+" "+rest+between+"1", "no")
		}
	})
}

// Words that take one number or two, with fewer and with more.
func TestPromises108To113OtherNumbersOfNumbers(t *testing.T) {
	eachNumbers(func(word string, rest string) {
		numbers := strings.Split(rest, " ")
		taken := len(numbers)
		switch word {
		case "back", "plant":
			taken = 0
		}
		for count := 1; count <= 8; count++ {
			for _, filling := range []string{numbers[len(numbers)-1], numbers[0], "0", "1", "5"} {
				list := slices.Clone(numbers[:min(count, len(numbers))])
				for len(list) < count {
					list = append(list, filling)
				}
				line := word + " " + strings.Join(list, " ")
				text, left := lineByWords(square, line)
				wantLine(t, square, line, text, left)
				if taken != 0 && count != taken && text != "no" {
					t.Fatalf("%q: %q, but it takes %d numbers", line, text, taken)
				}
			}
		}
		wantSame(t, word+strings.Repeat(" 0", 200), "no")
		wantSame(t, word+strings.Repeat(" 1", 200), "no")
	})
}

// As many numbers as decks and letters have, and one more.
func TestPromises108To113DecksAndLetters(t *testing.T) {
	for n := 3; n <= 6; n++ {
		for _, code := range leastOnes(n) {
			g := drawn(n, code)
			text := strconv.Itoa(code)
			if n == 6 {
				text = "no"
			}
			cards := shown(deckOf(g))
			wantLine(t, g, "deck", cards, g)
			wantLine(t, g, "back "+cards, text, g)
			// One card more than the graph has may be the deck of one more node.
			more := "back " + cards + " " + strconv.Itoa(codeCount(n-1)-1)
			text, _ = lineByWords(g, more)
			wantLine(t, g, more, text, g)
			if n >= 5 && text != "no" {
				t.Fatalf("%q: %q", more, text)
			}
		}
	}
	eachTree(3, 6, func(g []int) {
		letters := shown(lettersByWords(g))
		wantLine(t, g, "letters", letters, g)
		wantLine(t, one, "plant "+letters, "ok", g)
		wantLine(t, g, "plant "+letters+strings.Repeat(" 0", 7-len(g)), "no", g)
		wantLine(t, g, "plant "+letters+" 6", "no", g)
	})
	for count := 1; count <= 6; count++ {
		for _, letter := range []int{0, 1, count + 1, count + 2} {
			list := slices.Repeat([]int{letter}, count)
			tree := slices.Repeat([]int{1 << letter}, count+2)
			if count > 4 || letter == count+2 {
				wantSame(t, "plant "+shown(list), "no")
				continue
			}
			tree[letter] = 1<<(count+2) - 1 - 1<<letter
			wantLine(t, square, "plant "+shown(list), "ok", tree)
		}
	}
}

// Codes that some graph of as many nodes has, and the next ones.
func TestPromises108To113CodesOfAsManyNodes(t *testing.T) {
	for n := 1; n <= 6; n++ {
		for _, g := range [][]int{make([]int, n), drawn(n, codeCount(n)-1), drawn(n, codeCount(n)/3)} {
			last := codeCount(n) - 1
			for _, word := range []string{"near", "prove"} {
				for _, code := range []int{0, last, last / 2} {
					line := fmt.Sprintf("%s %d", word, code)
					text, left := lineByWords(g, line)
					if text == "no" || text == "what" {
						t.Fatalf("%q has to succeed for %v", line, g)
					}
					wantLine(t, g, line, text, left)
				}
				for _, code := range []int{last + 1, last + 2, 32768, 65536, 99999} {
					wantLine(t, g, fmt.Sprintf("%s %d", word, code), "no", g)
				}
			}
			for k := 1; k <= 6; k++ {
				last := codeCount(k) - 1
				for _, code := range []int{0, last, last / 2} {
					text := strconv.Itoa(copiesOf(drawn(k, code), g))
					if k > n && text != "0" {
						t.Fatalf("%s copies of %d nodes in %v", text, k, g)
					}
					wantLine(t, g, fmt.Sprintf("copies %d %d", k, code), text, g)
				}
				wantLine(t, g, fmt.Sprintf("copies %d %d", k, last+1), "no", g)
			}
			wantLine(t, g, "copies 0 0", "no", g)
			wantLine(t, g, "copies 7 0", "no", g)
		}
	}
}

func TestPromises108To113TextsThatAreNoTerms(t *testing.T) {
	for _, text := range noTerms() {
		if !strings.Contains(text, "\n") {
			wantSame(t, "term "+text, "no")
			wantSame(t, "tidy "+text, "no")
		}
	}
	for _, text := range knownTerms {
		g := graphByWords(text)
		wantLine(t, square, "term "+text, "ok", g)
		wantSame(t, "tidy "+text, tidyByRules(text))
		for _, wrong := range []string{" " + text, text + " ", text + "\r", text + "\t", strings.ReplaceAll(text, "1", " 1"), strings.ReplaceAll(text, "1", "1 "), "((((((" + text + "+1)+1)+1)+1)+1)+1)", strings.Repeat("-", 60) + text} {
			wantSame(t, "term "+wrong, "no")
			wantSame(t, "tidy "+wrong, "no")
		}
	}
	for _, seven := range []string{"(1+(1+(1+(1+(1+(1+1))))))", "((((((1*1)*1)*1)*1)*1)*1)", "(((1+1)*(1+1))+((1*1)*1))", "-(1+(1+(1+(1+(1+(1+1))))))"} {
		wantSame(t, "term "+seven, "no")
		wantSame(t, "tidy "+seven, "no")
	}
	for dashes := 57; dashes <= 62; dashes++ {
		text := strings.Repeat("-", dashes) + "1"
		if dashes < 60 {
			wantLine(t, square, "term "+text, "ok", one)
			wantSame(t, "tidy "+text, "1")
			continue
		}
		wantSame(t, "term "+text, "no")
		wantSame(t, "tidy "+text, "no")
	}
}

// Promise 108: scripts without lines, and what stands behind the last newline.
func TestPromise108KnownScripts(t *testing.T) {
	for _, k := range [][2]string{
		{"", "nodes 3\n"}, {"show", "nodes 3\n"}, {" ", "nodes 3\n"}, {"drop 0", "nodes 3\n"}, {"zzz", "nodes 3\n"}, {"\x00", "nodes 3\n"}, {"show\r", "nodes 3\n"},
		{"\n", "what\nnodes 3\n"}, {"\n\n\n", "what\nwhat\nwhat\nnodes 3\n"}, {"\n\nshow", "what\nwhat\nnodes 3\n"}, {"\nshow\n\n", "what\n0 0 0\nwhat\nnodes 3\n"}, {"\r\n", "what\nnodes 3\n"}, {" \n", "what\nnodes 3\n"},
		{"show\n", "0 0 0\nnodes 3\n"}, {"show\r\n", "what\nnodes 3\n"}, {"show\rcode\n", "what\nnodes 3\n"}, {"show\n\r", "0 0 0\nnodes 3\n"}, {"show\ncode", "0 0 0\nnodes 3\n"}, {"show\ncode\nedges", "0 0 0\n0\nnodes 3\n"},
		{"code\nlinked\nsame\nas\n", "0\nnot\n6\n(1+(1+1))\nnodes 3\n"}, {"drop 0\ndrop 0", "ok\nnodes 2\n"}, {"drop 0\ndrop 0\n", "ok\nok\nnodes 1\n"}, {"drop 0\ndrop 0\ndrop 0\n", "ok\nok\nno\nnodes 1\n"},
		{"graph 6 0\n", "ok\nnodes 6\n"}, {"graph 6 0\ngraph 1 0", "ok\nnodes 6\n"}, {"graph 1 0\n", "ok\nnodes 1\n"}, {"graph 7 0\n", "no\nnodes 3\n"}, {"graph 5 1\ngraph 7 0\n", "ok\nno\nnodes 5\n"},
		{"term (1*1)\n", "ok\nnodes 2\n"}, {"plant 0 0\n", "ok\nnodes 4\n"}, {"plant 0 0 0 0\n", "ok\nnodes 6\n"}, {"part 4\n", "ok\nnodes 1\n"}, {"part 6\npart 4\n", "ok\nno\nnodes 2\n"}, {"other\nname 2 1 0\nswitch 1\nsort\nedge 0 1\n", "ok\nok\nok\nok\nok\nnodes 3\n"},
	} {
		wantOutput(t, k[0], k[1])
	}
}

// someScripts returns scripts of complete lines.
func someScripts() []string {
	scripts := []string{"", "\n", "show\n", "\n\n\n", "drop 0\n", "zzz\n", "other\nshow\ncode\n", strings.Repeat("\n", 580), strings.Repeat("edge 0 1\nshow\n", 40), strings.Repeat("x", 570) + "\n"}
	for _, k := range knownLines {
		script := graphLine(k.g)
		for _, line := range k.lines {
			if len(script)+len(line[0]) > 540 {
				scripts = append(scripts, script)
				script = graphLine(k.g)
			}
			script += line[0] + "\n"
		}
		scripts = append(scripts, script)
	}
	return scripts
}

// filled returns a script of complete lines with one line more that makes it as long as told.
func filled(script string, length int) string {
	return script + strings.Repeat("x", length-len(script)-1) + "\n"
}

func TestPromise108LastLines(t *testing.T) {
	for _, script := range someScripts() {
		output := impl.Execute(script)
		wantOutput(t, script, outputByWords(script))
		for _, tail := range []string{" ", "s", "show", "show ", "drop 0", "graph 6 0", "graph 1 0", "zzz", "too long", "\r", "\x00", "\xff", "other"} {
			wantOutput(t, script+tail, output)
		}
		wantOutput(t, script+strings.Repeat("x", 600-len(script)), output)
		wantOutput(t, script+strings.Repeat("x", 601-len(script)), "too long\n")
		wantOutput(t, script+strings.Repeat("x", 4000), "too long\n")
	}
}

// cutOutput returns the output of a script of at most MaxScript bytes, ahead of the last line
// and this line, which is never left out.
func cutOutput(t *testing.T, script string) (string, string) {
	t.Helper()
	output := impl.Execute(script)
	end := strings.LastIndex(strings.TrimSuffix(output, "\n"), "\n") + 1
	if !regexp.MustCompile(`\Anodes [1-6]\n\z`).MatchString(output[end:]) {
		t.Fatalf("Execute of %q: %q", script, output)
	}
	return output[:end], output[end:]
}

func TestPromise108MaxScript(t *testing.T) {
	if impl.MaxScript != 600 {
		t.Fatalf("MaxScript is %d", impl.MaxScript)
	}
	for _, script := range someScripts() {
		ahead, last := cutOutput(t, script)
		wantOutput(t, filled(script, 599), ahead+"what\n"+last)
		wantOutput(t, filled(script, 600), ahead+"what\n"+last)
		wantOutput(t, filled(script, 601), "too long\n")
		wantOutput(t, filled(script, 602), "too long\n")
	}
	for _, k := range []struct {
		script string
		output string
	}{
		{strings.Repeat("\n", 600), strings.Repeat("what\n", 600) + "nodes 3\n"}, {strings.Repeat("\n", 601), "too long\n"}, {strings.Repeat("x", 600), "nodes 3\n"}, {strings.Repeat("x", 601), "too long\n"}, {strings.Repeat("x", 1<<20), "too long\n"},
		{strings.Repeat("show\n", 120), strings.Repeat("0 0 0\n", 120) + "nodes 3\n"}, {strings.Repeat("show\n", 120) + "\n", "too long\n"}, {strings.Repeat("show\n", 119) + "show", strings.Repeat("0 0 0\n", 119) + "nodes 3\n"}, {strings.Repeat("show\n", 121), "too long\n"},
		{strings.Repeat("é", 300), "nodes 3\n"}, {strings.Repeat("é", 300) + "x", "too long\n"}, {strings.Repeat("é", 599), "too long\n"}, {strings.Repeat("€", 200), "nodes 3\n"}, {strings.Repeat("€", 201), "too long\n"}, {strings.Repeat("\xff", 600), "nodes 3\n"}, {strings.Repeat("\xff", 601), "too long\n"}, {strings.Repeat("\x00", 601), "too long\n"},
		{strings.Repeat("all 5\n", 100), strings.Repeat("34\n", 100) + "nodes 3\n"}, {strings.Repeat("graph 6 32767\n", 42) + "own\ncards\n\n", ""},
	} {
		if k.output == "" {
			k.output = outputByWords(k.script)
		}
		wantOutput(t, k.script, k.output)
	}
}

// Promises 108 and 109: no output is empty, and lines that are refused leave what there is.
func TestPromise109RefusedLines(t *testing.T) {
	scripts := someScripts()
	for _, script := range someScripts() {
		scripts = append(scripts, filled(script, 588), filled(script, 589))
	}
	for _, script := range scripts {
		ahead, last := cutOutput(t, script)
		wantOutput(t, script+"zzz\nedge x\n", ahead+"what\nno\n"+last)
		// Promise 110, for which there is room, too.
		more := impl.Execute(script + "show\nshow\n")
		lines := strings.Split(strings.TrimPrefix(more, ahead), "\n")
		if !strings.HasPrefix(more, ahead) || len(lines) != 4 || lines[0] != lines[1] || lines[2]+"\n" != last || lines[3] != "" {
			t.Fatalf("Execute of %q with two lines more: %q, and without %q", script, more, ahead+last)
		}
	}
	for _, script := range someScripts() {
		wantOutput(t, filled(script, 590)+"zzz\nedge x\n", "too long\n")
	}
}

// Promise 110: a line that asks changes nothing.
func TestPromise110LinesThatAsk(t *testing.T) {
	for _, script := range someScripts() {
		script = filled(script, 590)
		output := impl.Execute(script + "show\nshow\n")
		lines := strings.Split(output, "\n")
		if n := len(lines); n < 4 || lines[n-3] != lines[n-4] || strings.Count(lines[n-3], " ")+1 != mustCount(t, lines[n-2]) {
			t.Fatalf("Execute of %q with two lines more: %q", script, output)
		}
		wantOutput(t, script+"show\nshow\n\n", "too long\n")
	}
	changing := strings.Fields("graph edge drop part name switch other sort plant term")
	for _, g := range append(ones(4), ring5, way5, ring6, full6, none6, noneLike6) {
		for _, c := range commands {
			line := c.word
			if c.hasRest {
				line += " " + goodRests[c.word]
			}
			if slices.Contains(changing, c.word) {
				continue
			}
			text, _ := lineByWords(g, line)
			wantLine(t, g, line, text, g)
			wantOutput(t, graphLine(g)+line+"\n"+line+"\ncode\n", fmt.Sprintf("ok\n%s\n%s\n%d\nnodes %d\n", text, text, codeOf(g), len(g)))
		}
	}
}

// mustCount returns the number of the last line of an output.
func mustCount(t *testing.T, last string) int {
	t.Helper()
	count, err := strconv.Atoi(strings.TrimPrefix(last, "nodes "))
	if err != nil {
		t.Fatalf("the last line is %q", last)
	}
	return count
}

// Promise 111: the graph with the least code, for all graphs.
func TestPromise111LeastCodes(t *testing.T) {
	eachGraph(6, func(g []int, code int) {
		if len(g) < 6 || code%23 == 0 || classOf(g).least == code {
			least := classOf(g).least
			wantOutput(t, graphLine(g)+"least\nsort\ncode\n", fmt.Sprintf("ok\n%d\nok\n%d\nnodes %d\n", least, least, len(g)))
		}
	})
}

// Promise 112: terms and the sorted terms of their graphs.
func TestPromise112SortedTerms(t *testing.T) {
	terms := slices.Concat(tidyTerms()...)
	terms = append(terms, knownTerms...)
	terms = append(terms, shortTerms(10)...)
	for i, term := range terms {
		if len(term) < 24 {
			terms = append(terms, dashed(term, i, 2))
		}
	}
	for _, term := range terms {
		sorted := mustText(t)(impl.TermSorted(term))
		wantOutput(t, "term "+term+"\nas\n", fmt.Sprintf("ok\n%s\nnodes %d\n", sorted, strings.Count(term, "1")))
		if sorted != sortedByKind(graphByWords(term)) {
			t.Fatalf("%q has the sorted term %q", term, sorted)
		}
	}
}

// Promise 113: proofs for two graphs.
func TestPromise113Proofs(t *testing.T) {
	for n := 1; n <= 6; n++ {
		codes := leastOnes(n)
		for i, code := range codes {
			g := renamed(drawn(n, code), backwards(n))
			for j, other := range codes {
				if n == 6 && i != j && (7*i+j)%29 != 0 {
					continue
				}
				h := drawn(n, other)
				proof := mustText(t)(impl.ProofMake(g, h))
				wantOutput(t, fmt.Sprintf("%sprove %d\n", graphLine(g), codeOf(h)), fmt.Sprintf("ok\n%s\nnodes %d\n", proof, n))
				if told, right := proofByWords(g, h, proof); !right || (told == 1) != (i == j) {
					t.Fatalf("%q is no proof for %v and %v", proof, g, h)
				}
			}
		}
	}
	for code := range codeCount(3) {
		for other := range codeCount(3) {
			proof := mustText(t)(impl.ProofMake(drawn(3, code), drawn(3, other)))
			wantOutput(t, fmt.Sprintf("graph 3 %d\nprove %d\n", code, other), "ok\n"+proof+"\nnodes 3\n")
		}
	}
}

// manyLines returns lines of all words with rests of many kinds.
func manyLines() []string {
	lines := []string{"", " ", "zzz", "edge x", "show ", "term", "edge"}
	pairs := []string{"0 1", "1 0", "1 2", "2 2", "0 3", "3 1", "4 5", "5 6", "1 1", "2 1", "3 5", "3 8", "4 13", "4 45", "5 1023", "5 1024", "6 32767", "6 4711", "6 32768", "7 0", "0 0"}
	numbers := strings.Fields("0 1 2 3 4 5 6 7 8 9 12 13 15 16 30 31 32 42 63 64 1023 1024 4711 32767 32768 99999 00001")
	lists := []string{"0", "0 1", "1 0", "0 1 2", "2 0 1", "1 1 0", "0 0 0", "3 3 3", "3 3 3 3", "0 1 2 3", "3 1 0 2", "1000 0 7 7", "1001 0 0 0", "4 3 2 1 0", "1 2 3 4 0", "3 6 6 7 7", "0 0 0 0 0", "5 4 3 2 1 0", "2 0 5 1 4 3", "1 0 0 0 0 0", "0 1 2 3 4 5 6", "6 6 6 6 6 6"}
	for _, c := range commands {
		var rests []string
		switch {
		case c.word == "term" || c.word == "tidy":
			rests = append(slices.Clone(knownTerms), "", "(1", "(1 + 1)", "1 1", "(1+(1+(1+(1+(1+(1+1))))))")
		case slices.Contains([]string{"name", "back", "from", "plant"}, c.word):
			rests = lists
		case strings.Contains(goodRests[c.word], " "):
			rests = pairs
		case c.hasRest:
			rests = append(slices.Clone(numbers), "0 0")
		default:
			lines = append(lines, c.word)
		}
		for _, rest := range rests {
			lines = append(lines, c.word+" "+rest)
		}
	}
	return lines
}

func TestPromises108To113AllLines(t *testing.T) {
	lines := manyLines()
	graphs := append(ones(4), way3, []int{1 << 2, 1 << 2, 3}, square, way4, crossed4, ring5, way5, star5, ring3edge, bowtie, full5, make([]int, 5), way6, star6, broom6, ring6, rings33, prism, full6, none6, noneLike6)
	for _, g := range graphs {
		for _, line := range lines {
			text, left := lineByWords(g, line)
			wantLine(t, g, line, text, left)
		}
	}
}

// longScripts returns scripts of many lines in an order that changes from one to the next.
func longScripts(count int) []string {
	lines := manyLines()
	var scripts []string
	for i := range count {
		script := ""
		for j := 0; ; j++ {
			line := lines[(i*31+j*(2*i+17)+j*j*7)%len(lines)] + "\n"
			if j%3 == 2 {
				line += "show\n"
			}
			if len(script)+len(line) > 600 {
				break
			}
			script += line
		}
		scripts = append(scripts, script+lines[i%len(lines)][:min(len(lines[i%len(lines)]), 600-len(script))])
	}
	return scripts
}

func TestPromises108To113LongScripts(t *testing.T) {
	for _, script := range longScripts(1500) {
		wantByWords(t, script)
		if impl.Execute(script) == "" {
			t.Fatalf("Execute of %q is empty", script)
		}
	}
}

// A script changed at each place by a byte put in, taken out or put in its stead.
func TestPromises108To113ChangedScripts(t *testing.T) {
	bytes := strings.Split("0 1 9 a s x + - \t \r \n \x00 \xff \u00e9", " ")
	bytes = append(bytes, " ", "  ", "\n\n", "0 ", " 0")
	for _, script := range []string{"graph 4 45\nedge 0 2\nname 1 0 2 3\nshow\ndrop 3\nshow\n", "plant 1 2\nletters\nother\nsort\nswitch 3\npart 7\ncode\nall 4\nback 0 1 1\n", "term (1*(1+1))\nas\ntidy -1\nprove 3\nnear 7\nfrom 0 1 0\ncounts\n", "walks 3\nclosed 2\ncopies 2 0\npieces 2\npaint 2\nflows 2\nown\n"} {
		for at := range len(script) + 1 {
			ahead, behind := script[:at], script[at:]
			wantByWords(t, ahead)
			wantByWords(t, behind)
			wantByWords(t, behind+ahead)
			for _, put := range bytes {
				wantByWords(t, ahead+put+behind)
				if behind != "" {
					wantByWords(t, ahead+put+behind[1:])
					wantByWords(t, ahead+behind[1:])
				}
			}
		}
	}
}

// Answers do not depend on scripts that ran before, nor on those that run at the same time.
func TestCommandKeepsNothing(t *testing.T) {
	scripts := append(longScripts(60), "", "show\n", "code\nshow\n", "graph 6 32767\nother\n", "drop 0\ndrop 0\n", strings.Repeat("x", 601))
	var want []string
	for _, script := range scripts {
		want = append(want, impl.Execute(script))
	}
	for i, script := range slices.Backward(scripts) {
		wantOutput(t, script, want[i])
		wantOutput(t, "show\n", "0 0 0\nnodes 3\n")
	}
	var callers sync.WaitGroup
	for i := range 8 {
		callers.Go(func() {
			for j := range scripts {
				at := (i*5 + j) % len(scripts)
				if got := impl.Execute(scripts[at]); got != want[at] {
					t.Errorf("Execute of %q: %q, and at the same time %q", scripts[at], want[at], got)
				}
			}
		})
	}
	callers.Wait()
}
