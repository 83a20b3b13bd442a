package tests

import (
	"slices"
	"strconv"
	"strings"
	"sync"
	"testing"

	"loop.example/tipstaff/impl"
)

func TestSomeScripts(t *testing.T) {
	list := []struct {
		name         string
		lines, wants []string
	}{
		{"nothing", nil, nil},
		{"make without equations", []string{"make"}, []string{"all"}},
		{"make twice", []string{"make", "make"}, []string{"all", "all"}},
		{"ask without equations", []string{"ask a = a", "ask x11 = x11", "ask a = b", "ask x0 = x1"}, []string{"a", "x11", "differ", "differ"}},
		{"the ranking in the beginning", []string{"eq b = a", "eq g(x0) = b", "eq f(x0,x1) = g(x0)", "make"}, []string{"eq 0", "eq 1", "eq 2", "rule b to a by 1", "rule g(x0) to a by 2", "rule f(x0,x1) to a by 3", "all"}},
		{"a ranking before equations", []string{"rank abgf", "eq b = a", "make"}, []string{"rank", "eq 0", "rule a to b by 1", "all"}},
		{"a ranking behind equations", []string{"eq b = a", "make", "rank abgf", "make"}, []string{"eq 0", "rule b to a by 1", "all", "rank", "rule a to b by 1", "all"}},
		{"the last ranking counts", []string{"rank abgf", "eq b = a", "rank fgba", "make"}, []string{"rank", "eq 0", "rank", "rule b to a by 1", "all"}},
		{"what is no ranking does not count", []string{"rank abgf", "eq b = a", "rank ffff", "rank fgb", "rank", "make"}, []string{"rank", "eq 0", "no", "no", "what", "rule a to b by 1", "all"}},
		{"equations behind make", []string{"eq b = a", "make", "eq g(x3) = x3", "make"}, []string{"eq 0", "rule b to a by 1", "all", "eq 1", "rule b to a by 1", "rule g(x0) to x0 by 1", "all"}},
		{"an equation twice", []string{"eq b = a", "eq b = a", "make"}, []string{"eq 0", "eq 1", "rule b to a by 1", "all"}},
		{"an equation of a term and itself", []string{"eq a = a", "make"}, []string{"eq 0", "all"}},
		{"malformed equations do not count", []string{"eq b", "eq b = a", "eq b = c", "eq g(a) = a"}, []string{"no", "eq 0", "no", "eq 1"}},
		{"one link", []string{"eq f(x0,a) = x0", "ask f(b,a) = b"}, []string{"eq 0", "f(b,a)", " 0 b"}},
		{"one link back", []string{"eq f(x0,a) = x0", "ask b = f(b,a)"}, []string{"eq 0", "b", " 0 f(b,a)"}},
		{"a link below another term", []string{"eq x5 = x5", "eq f(x0,a) = x0", "ask g(f(f(b,a),b)) = g(f(b,b))"}, []string{"eq 0", "eq 1", "g(f(f(b,a),b))", " 1 g(f(b,b))"}},
		{"links on both sides", []string{"eq b = a", "eq g(a) = a", "ask f(b,a) = f(a,g(a))"}, []string{"eq 0", "eq 1", "f(b,a)", " 0 f(a,a)", " 1 f(a,g(a))"}},
		{"stuck at once", []string{"eq f(x0,x1) = f(x1,x0)", "make"}, []string{"eq 0", "stuck f(x0,x1) = f(x1,x0)"}},
		{"stuck, two variables", []string{"eq x3 = x1", "make", "ask x3 = x1", "ask x3 = x3"}, []string{"eq 0", "stuck x3 = x1", "unknown", "x3"}},
		{"stuck behind rules", []string{"eq f(x0,x1) = f(x1,x0)", "eq g(a) = a", "eq g(g(b)) = g(a)", "make", "ask f(a,b) = f(b,a)", "ask g(g(b)) = a"}, []string{"eq 0", "eq 1", "eq 2", "rule g(a) to a by 1", "rule g(g(b)) to a by 2", "stuck f(x0,x1) = f(x1,x0)", "unknown", "g(g(b))", " 2 g(a)", " 1 a"}},
		{"too long", []string{"eq g(g(g(g(g(g(g(g(g(x0))))))))) = a", "make", "ask a = b", "ask b = b"}, []string{"eq 0", "rule g(g(g(g(g(g(g(g(g(x0))))))))) to a by 1", "long", "unknown", "b"}},
		{"a rule that was found", []string{"eq f(x0,a) = x0", "eq f(a,x0) = g(x0)", "make", "ask g(a) = a", "ask a = g(a)", "ask g(b) = b"}, []string{"eq 0", "eq 1", "rule f(x0,a) to x0 by 1", "rule f(a,x0) to g(x0) by 1", "rule g(a) to a by 2", "all", "g(a)", " 1 f(a,a)", " 0 a", "a", " 0 f(a,a)", " 1 g(a)", "differ"}},
		{"an equation changes the answer", []string{"ask a = b", "eq a = b", "ask a = b"}, []string{"differ", "eq 0", "a", " 0 b"}},
		{"a ranking changes the answer", []string{"eq f(x0,x1) = g(x1)", "rank gfba", "ask f(a,b) = g(b)", "rank fgba", "ask f(a,b) = g(b)"}, []string{"eq 0", "rank", "unknown", "rank", "f(a,b)", " 0 g(b)"}},
	}
	for _, c := range list {
		t.Run(c.name, func(t *testing.T) {
			mustRun(t, textOf(c.lines...), textOf(c.wants...))
		})
	}
}

func TestNewlines(t *testing.T) {
	list := []struct{ text, want string }{
		{"", ""},
		{"\n", ""},
		{"\n\n\n", ""},
		{"make", "all\n"},
		{"make\n", "all\n"},
		{"\nmake", "all\n"},
		{"\n\nmake\n\n", "all\n"},
		{"eq a = b\n\n\nmake\n\n", "eq 0\nrule b to a by 1\nall\n"},
		{"eq a = b\nmake", "eq 0\nrule b to a by 1\nall\n"},
		{"eq a = b\n\nask a = b", "eq 0\na\n 0 b\n"},
		{" ", "what\n"},
		{" \n  \n \n", "what\nwhat\nwhat\n"},
		{"\r\n\r\n", "what\nwhat\n"},
		{"make\r\nmake\r\n", "what\nwhat\n"},
		{"eq a = b\r\neq a = b\n", "no\neq 0\n"},
		{"rank\nfgba\n", "what\nwhat\n"},
		{"eq a =\nb\n", "no\nwhat\n"},
		{"eq \na = b\n", "what\nwhat\n"},
		{"ask \n\nask ", "what\nwhat\n"},
		{"rank \nfgba", "what\nwhat\n"},
		{"rank fgba \nx\n", "no\nwhat\n"},
		{"\x00", "what\n"},
	}
	for _, c := range list {
		mustRun(t, c.text, c.want)
	}
}

func TestStrangeLinesAreAnsweredByWhat(t *testing.T) {
	for _, line := range strangeLines() {
		mustRun(t, line, "what\n")
		mustRun(t, "eq a = b\n"+line+"\nmake\n", "eq 0\nwhat\nrule b to a by 1\nall\n")
	}
	mustRun(t, textOf(strangeLines()...)+"make", strings.Repeat("what\n", len(strangeLines()))+"all\n")
}

func TestMalformedLinesAreAnsweredByNo(t *testing.T) {
	for _, line := range malformedLines() {
		mustRun(t, line, "no\n")
		mustRun(t, "rank abgf\neq a = b\n"+line+"\nmake\nask b = b\n", "rank\neq 0\nno\nrule a to b by 1\nall\nb\n")
	}
}

func TestRankWithMoreWordsIsNoCommand(t *testing.T) {
	for _, line := range wordyLines() {
		mustRun(t, line, "what\n")
		mustRun(t, "eq a = b\nrank abgf\n"+line+"\nmake\n", "eq 0\nrank\nwhat\nrule a to b by 1\nall\n")
		mustRun(t, "eq a = b\n"+line+"\nmake\n", "eq 0\nwhat\nrule b to a by 1\nall\n")
	}
	for _, line := range []string{"rank x", "rank ffff", "rank  fgba", "rank fgba ", "rank   fgba   "} {
		mustRun(t, "eq a = b\nrank abgf\n"+line+"\nmake\n", "eq 0\nrank\nno\nrule a to b by 1\nall\n")
	}
}

func TestWordAloneIsNoCommand(t *testing.T) {
	for _, line := range aloneLines() {
		mustRun(t, line, "what\n")
		mustRun(t, line+"\n", "what\n")
		mustRun(t, "eq b = a\n"+line+"\nmake\n", "eq 0\nwhat\nrule b to a by 1\nall\n")
		mustRun(t, strings.Repeat("eq b = a\n", impl.EqMax)+line+"\nmake\n", "eq 0\neq 1\neq 2\neq 3\neq 4\neq 5\nwhat\nrule b to a by 1\nall\n")
	}
	for _, text := range []string{"a", " a", "a ", "=", " = ", " =", " a = b", "a = b ", "a  = b", "a = b b", "  a  =  b  "} {
		mustRun(t, "eq "+text, "no\n")
		mustRun(t, "ask "+text, "no\n")
	}
}

// Blanks and words in all orders behind the words that take a text.
func TestBlanksAndWordsBehindACommand(t *testing.T) {
	counts := map[string]int{}
	eachText(" ab=", 6, "", func(text string) {
		for _, word := range []string{"rank", "eq", "ask", "make"} {
			line := word + " " + text
			mustRun(t, line, linesBy(line))
			counts[word+" "+impl.LinesRun(line)]++
		}
	})
	for _, kind := range []string{"rank no\n", "rank what\n", "eq no\n", "eq what\n", "eq eq 0\n", "ask no\n", "ask what\n", "ask a\n", "ask differ\n", "make what\n"} {
		if counts[kind] == 0 {
			t.Errorf("no line is answered: %q", kind)
		}
	}
	if counts["eq what\n"] != 7 || counts["ask what\n"] != 7 {
		t.Errorf("%d and %d texts of no words", counts["eq what\n"], counts["ask what\n"])
	}
}

func TestAllRankings(t *testing.T) {
	found := 0
	mustRun(t, "rank ", "what\n")
	eachText("abgfx", 5, "", func(letters string) {
		if letters == "" {
			return
		}
		if !isRanking(rankOf(letters)) {
			mustRun(t, "rank "+letters, "no\n")
			return
		}
		found++
		want := "a to b"
		if strings.Index(letters, "b") < strings.Index(letters, "a") {
			want = "b to a"
		}
		mustRun(t, "rank "+letters+"\neq a = b\nmake", "rank\neq 0\nrule "+want+" by 1\nall\n")
	})
	if found != 24 {
		t.Errorf("%d rankings", found)
	}
}

// Each ranking leads to rules of its own.
func TestMakeUsesTheRanking(t *testing.T) {
	eqs := readEqs(t, "f(a,b) = g(b); g(a) = f(a,a); g(g(x0)) = b")
	for _, rank := range rankings() {
		mustRun(t, textOf(append(taskLines(task{eqs, rank}), "make")...), "eq 0\neq 1\neq 2\nrank\n"+madeText(courseOf(eqs, rank).done())+"\n")
	}
}

func TestEquationsUpToEqMax(t *testing.T) {
	lines, wants := []string{}, []string{}
	for i := range impl.EqMax {
		lines = append(lines, "eq "+termText(chain(i, a()))+" = b", "eq x12 = a")
		wants = append(wants, "eq "+strconv.Itoa(i), "no")
	}
	lines = append(lines, "eq g(g(g(g(g(g(a)))))) = b", "eq a = a", "eq", "eq a")
	wants = append(wants, "no", "no", "what", "no")
	mustRun(t, textOf(lines...), textOf(wants...))
	mustRun(t, textOf(append(lines, "make", "ask g(g(g(g(g(a))))) = b")...), textOf(append(wants, "rule b to a by 1", "rule g(a) to a by 2", "all", "g(g(g(g(g(a)))))", " 1 g(g(g(g(b))))", " 0 g(g(g(g(a))))", " 1 g(g(g(b)))", " 0 g(g(g(a)))", " 1 g(g(b))", " 0 g(g(a))", " 1 g(b)", " 0 g(a)", " 1 b", " 0 a", " 0 b")...))
}

// Each equation is told by its own index, also the last one.
func TestIndexesOfLinks(t *testing.T) {
	eqs := readEqs(t, "g(a) = a; g(b) = b; f(a,a) = a; f(a,b) = b; f(b,a) = b; f(b,b) = a")
	for i, e := range eqs {
		text := textOf(append(eqLines(eqs), "ask "+eqText(e))...)
		mustRun(t, text, "eq 0\neq 1\neq 2\neq 3\neq 4\neq 5\n"+termText(e.S)+"\n "+strconv.Itoa(i)+" "+termText(e.T)+"\n")
	}
}

// The terms on the way are told in full, also those that are too large to be
// asked about.
func TestLargeTermsOfProofsAreTold(t *testing.T) {
	lines := []string{"eq f(x0,a) = x0", "eq f(a,x0) = g(x0)"}
	for _, height := range []int{13, 14, 15} {
		wants := []string{"eq 0", "eq 1", termText(chain(height, a()))}
		for rest := height - 1; rest >= 0; rest-- {
			wants = append(wants, " 1 "+termText(chain(rest, f(a(), a()))), " 0 "+termText(chain(rest, a())))
		}
		mustRun(t, textOf(append(lines, "ask "+termText(chain(height, a()))+" = a")...), textOf(wants...))
	}
	x0 := variable(0)
	part := f(f(x0, x0), f(x0, f(x0, x0)))
	eqs := []impl.Eq{eq(f(x0, x0), x0), eq(f(a(), x0), part)}
	x := chain(11, b())
	got := impl.LinesRun(textOf(append(eqLines(eqs), "ask "+termText(f(a(), x))+" = "+termText(x))...))
	largest := applied([]impl.Bind{bind(0, x)}, part)
	if countParts(largest) != impl.ProofBig || !strings.Contains(got, "\n 1 "+termText(largest)+"\n 0 ") {
		t.Errorf("%q", got)
	}
}

func TestScriptsOfAllLengths(t *testing.T) {
	most := impl.LinesMax
	list := []struct{ text, want string }{
		{strings.Repeat("\n", most), ""},
		{strings.Repeat("x", most), "what\n"},
		{strings.Repeat(" ", most), "what\n"},
		{strings.Repeat("\x00", most), "what\n"},
		{strings.Repeat("\xff", most), "what\n"},
		{strings.Repeat("\u00e9", most/2), "what\n"},
		{strings.Repeat("x\n", most/2), strings.Repeat("what\n", most/2)},
		{strings.Repeat("make\n", most/5), strings.Repeat("all\n", most/5)},
		{"make\n" + strings.Repeat("\n", most-5), "all\n"},
		{strings.Repeat("\n", most-4) + "make", "all\n"},
		{"eq " + strings.Repeat("g(", most) + "a", "too long\n"},
		{"eq " + strings.Repeat("g(", (most-4)/2) + "a", "no\n"},
		{"ask " + strings.Repeat("f(", (most-4)/2), "no\n"},
		{"ask a = " + strings.Repeat("f(a,", (most-8)/4), "no\n"},
		{"rank " + strings.Repeat("f", most-5), "no\n"},
		{"make" + strings.Repeat(" ", most-4), "what\n"},
		{"eq a = b\n" + strings.Repeat("\n", most-13) + "make", "eq 0\nrule b to a by 1\nall\n"},
	}
	for _, c := range list {
		mustRun(t, c.text, c.want)
		mustRun(t, c.text+strings.Repeat("\n", most+1-len(c.text[:min(len(c.text), most)])), "too long\n")
	}
	for _, text := range []string{"", "make\n", "\n", "\u00e9", "eq a = b\n"} {
		mustRun(t, strings.Repeat("\n", most+1-len(text))+text, "too long\n")
		mustRun(t, text+strings.Repeat("x", most+1-len(text)), "too long\n")
		mustRun(t, text+strings.Repeat("make\n", 1000000), "too long\n")
	}
}

func TestMakeTellsWhatDoneOfMakes(t *testing.T) {
	counts := map[string]int{}
	for _, r := range results() {
		text := textOf(append(taskLines(r.task), "make")...)
		if len(r.eqs) == 0 || len(text) > impl.LinesMax {
			continue
		}
		_, got, _ := strings.Cut(impl.LinesRun(text), "rank\n")
		if want := madeText(r.done) + "\n"; got != want {
			t.Fatalf("%q: got %q, want %q", text, got, want)
		}
		counts[strings.Fields(madeText(impl.Done{Code: r.done.Code}))[0]]++
	}
	for _, end := range []string{"all", "stuck", "long"} {
		if counts[end] < 50 {
			t.Errorf("%d completions end with %s", counts[end], end)
		}
	}
}

// More rules than RuleMax are told as well.
func TestMakeTellsAllRules(t *testing.T) {
	x := readTask(t, manyTask)
	got := impl.LinesRun(textOf(append(taskLines(x), "make")...))
	if strings.Count(got, "rule ") != impl.RuleMax+1 || !strings.HasSuffix(got, "\nlong\n") {
		t.Errorf("%q", got)
	}
}

func TestAskTellsWhatAskSameAnswers(t *testing.T) {
	counts := map[string]int{}
	for i, q := range answers() {
		text := textOf(append(taskLines(q.task), "ask "+eqText(eq(q.s, q.x)))...)
		if i%3 > 0 || len(text) > impl.LinesMax {
			continue
		}
		_, got, _ := strings.Cut(impl.LinesRun(text), "rank\n")
		if want := toldBy(q.eqs, q.s, q.code, q.why) + "\n"; got != want {
			t.Fatalf("%q: got %q, want %q", text, got, want)
		}
		counts[answerText(q.code)]++
		counts["links "+strconv.Itoa(min(len(q.why), 9))]++
	}
	for _, kind := range []string{"yes", "no", "not", "links 0", "links 1", "links 9"} {
		if counts[kind] < 20 {
			t.Errorf("%s: %d answers", kind, counts[kind])
		}
	}
}

// As many links as a proof may have, and one question with more.
func TestAskTellsLongProofs(t *testing.T) {
	x := readTask(t, farTask)
	for height, want := range map[int]int{4: impl.ProofMax, 5: 0} {
		term := termText(chain(height, b()))
		got := impl.LinesRun(textOf(append(taskLines(x), "ask "+term+" = "+term)...))
		if strings.Count(got, "\n ") != want || strings.HasSuffix(got, "\nunknown\n") != (want == 0) {
			t.Errorf("%d g: %q", height, got)
		}
	}
}

func TestScriptsOfAllKinds(t *testing.T) {
	counts := map[string]int{}
	for _, x := range scripts() {
		text := textOf(x.lines...)
		mustRun(t, text, linesBy(text))
		for line := range strings.Lines(strings.Join(x.answers, "")) {
			counts[strings.TrimSuffix(line, "\n")]++
			counts[strings.Fields(line)[0]]++
		}
	}
	for _, kind := range []string{"rank", "eq", "rule", "all", "stuck", "long", "differ", "unknown", "no", "what", "0", "1", "2"} {
		if counts[kind] < 10 {
			t.Errorf("%s: %d lines", kind, counts[kind])
		}
	}
}

// Texts of any bytes, most of which are near to scripts.
func TestThrownTexts(t *testing.T) {
	parts := []string{"rank", "eq", "ask", "make", " ", " ", " = ", "=", "\n", "\n", "a", "b", "x0", "x1", "g(", "f(", ",", ")", "fgba", "gfab", "eq a = b\n", "ask b = a\n", "make\n", "eq g(x0) = x0\n", "\r", "\x00", "\xff", "\u00e9"}
	d := dice(41)
	for range 20000 {
		text := ""
		for range d.below(12) {
			text += pick(parts, &d)
		}
		mustRun(t, text, linesBy(text))
		mustReadAsBy(t, text)
	}
}

func TestScriptsKeepNothingBetweenCalls(t *testing.T) {
	first := "make\nask a = b\neq a = b\nmake\n"
	for i, x := range scripts() {
		if i%5 > 0 {
			continue
		}
		mustRun(t, textOf(x.lines...), strings.Join(x.answers, ""))
		mustRun(t, first, "all\ndiffer\neq 0\nrule b to a by 1\nall\n")
		mustRun(t, "rank abfg", "rank\n")
	}
}

func TestScriptsMayRunAtTheSameTime(t *testing.T) {
	all := slices.Clone(scripts())
	var group sync.WaitGroup
	for range 8 {
		group.Go(func() {
			for i := 0; i < len(all); i += 10 {
				if got := impl.LinesRun(textOf(all[i].lines...)); got != strings.Join(all[i].answers, "") {
					t.Errorf("%q: %q", all[i].lines, got)
				}
			}
		})
	}
	group.Wait()
}
