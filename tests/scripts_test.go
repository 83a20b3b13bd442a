package tests

import (
	"slices"
	"strconv"
	"strings"
	"sync"
	"testing"

	"loop.example/tipstaff/impl"
)

// parseTerm reads a term of any size from the front of a text.
func parseTerm(text string) (x impl.Term, rest string, ok bool) {
	for v := impl.TermVar - 1; v >= 0; v-- {
		if rest, found := strings.CutPrefix(text, "x"+strconv.Itoa(v)); found {
			return variable(v), rest, true
		}
	}
	if rest, found := strings.CutPrefix(text, "g("); found {
		kid, rest, ok := parseTerm(rest)
		rest, closed := strings.CutPrefix(rest, ")")
		return g(kid), rest, ok && closed
	}
	if rest, found := strings.CutPrefix(text, "f("); found {
		first, rest, okFirst := parseTerm(rest)
		rest, parted := strings.CutPrefix(rest, ",")
		if !okFirst || !parted {
			return impl.Term{}, rest, false
		}
		second, rest, ok := parseTerm(rest)
		rest, closed := strings.CutPrefix(rest, ")")
		return f(first, second), rest, ok && closed
	}
	if rest, found := strings.CutPrefix(text, "a"); found {
		return a(), rest, true
	}
	rest, ok = strings.CutPrefix(text, "b")
	return b(), rest, ok
}

func termBy(text string) (impl.Term, bool) {
	x, rest, ok := parseTerm(text)
	return x, ok && rest == "" && isTerm(x)
}

func eqBy(text string) (impl.Eq, bool) {
	parts := strings.Split(text, " = ")
	if len(parts) != 2 {
		return impl.Eq{}, false
	}
	s, okS := termBy(parts[0])
	x, okX := termBy(parts[1])
	if !okS || !okX {
		return impl.Eq{}, false
	}
	return eq(s, x), true
}

func eqText(e impl.Eq) string {
	return termText(e.S) + " = " + termText(e.T)
}

func lettersOf(rank []int) string {
	letters := ""
	for _, sign := range rank {
		letters += "?abgf"[sign : sign+1]
	}
	return letters
}

// runner does lines by the document's words one by one.
type runner task

func linesBy(text string) string {
	if len(text) > impl.LinesMax {
		return "too long\n"
	}
	r := runner{rank: rankOf("fgba")}
	answers := ""
	for _, line := range strings.Split(text, "\n") {
		if line != "" {
			answers += r.line(line) + "\n"
		}
	}
	return answers
}

func (r *runner) line(line string) string {
	parts := strings.Split(line, " ")
	words := slices.DeleteFunc(parts[1:], func(part string) bool { return part == "" })
	if line == "make" {
		return r.make()
	}
	if letters, found := strings.CutPrefix(line, "rank "); found && len(words) == 1 {
		return r.setRank(letters)
	}
	if text, found := strings.CutPrefix(line, "eq "); found && len(words) > 0 {
		return r.add(text)
	}
	if text, found := strings.CutPrefix(line, "ask "); found && len(words) > 0 {
		return r.ask(text)
	}
	return "what"
}

func (r *runner) setRank(letters string) string {
	if !isRanking(rankOf(letters)) {
		return "no"
	}
	r.rank = rankOf(letters)
	return "rank"
}

func (r *runner) add(text string) string {
	e, ok := eqBy(text)
	if !ok || len(r.eqs) == impl.EqMax {
		return "no"
	}
	r.eqs = append(r.eqs, e)
	return "eq " + strconv.Itoa(len(r.eqs)-1)
}

func (r *runner) make() string {
	return madeText(courseOf(r.eqs, r.rank).done())
}

// madeText is how a completion is answered, by the document's words.
func madeText(d impl.Done) string {
	text := ""
	for _, made := range d.Rules {
		text += "rule " + ruleText(made) + "\n"
	}
	switch d.Code {
	case impl.DoneAll:
		return text + "all"
	case impl.DoneStuck:
		return text + "stuck " + eqText(d.Stuck)
	}
	return text + "long"
}

func (r *runner) ask(text string) string {
	e, ok := eqBy(text)
	if !ok {
		return "no"
	}
	code, why := answerBy(r.eqs, courseOf(r.eqs, r.rank).done(), e.S, e.T)
	return toldBy(r.eqs, e.S, code, why)
}

// toldBy is how an answer is told, by the document's words.
func toldBy(eqs []impl.Eq, x impl.Term, code int, why []impl.Link) string {
	switch code {
	case impl.AskNo:
		return "differ"
	case impl.AskNot:
		return "unknown"
	}
	text := termText(x)
	for _, l := range why {
		x, _ = linkBy(eqs, x, l)
		text += "\n " + strconv.Itoa(l.Eq) + " " + termText(x)
	}
	return text
}

func eqLines(eqs []impl.Eq) []string {
	var lines []string
	for _, e := range eqs {
		lines = append(lines, "eq "+eqText(e))
	}
	return lines
}

// taskLines set the equations and the ranking of a task.
func taskLines(x task) []string {
	return append(eqLines(x.eqs), "rank "+lettersOf(x.rank))
}

// textOf ends each line by a newline.
func textOf(lines ...string) string {
	text := ""
	for _, line := range lines {
		text += line + "\n"
	}
	return text
}

// mustRun fails unless the answers to a script are those that are expected.
func mustRun(t *testing.T, text, want string) {
	t.Helper()
	if got := impl.LinesRun(text); got != want {
		t.Fatalf("%.2000q: got %.2000q, want %.2000q", text, got, want)
	}
}

// aloneLines have a command's word and blanks, but no word behind it.
func aloneLines() []string {
	var list []string
	for _, word := range []string{"rank", "eq", "ask", "make"} {
		list = append(list, word+" ", word+"  ", word+"       ")
	}
	return append(list, "rank", "eq", "ask")
}

// wordyLines have more than one word behind "rank".
func wordyLines() []string {
	return []string{
		"rank fgba x", "rank fg ba", "rank fgba fgba", "rank a b g f", "rank f g b a", "rank abgf fgba", "rank a b", "rank rank fgba", "rank a = b",
		"rank fgb a", "rank x fgba", "rank fgba x ", "rank fgba  x", "rank  fg ba", "rank fgba \r", "rank fgba \x00", "rank \xff fgba", "rank fgba \u00a0",
	}
}

// strangeLines are no commands.
func strangeLines() []string {
	return append(append(aloneLines(), wordyLines()...),
		" ", "  ", "\t", "\r", "\x00", "\xff", "\u00e9", "\u2028", "=", " = ", "0", "what", "no", "all",
		"rank\r", "eq\r", "ask\r", "make\r", "rank\t", "make\x00",
		"Make", "MAKE", "RANK fgba", "Rank fgba", "EQ a = b", "Eq a = b", "ASK a = b", "Ask a = b",
		" make", " rank fgba", " eq a = b", " ask a = b", "  eq a = b", "\tmake", "\xffmake",
		"make a", "make all", "make make", "make a = b", "make eq a = b", "make fgba",
		"mak", "makes", "ran", "ranks fgba", "e", "e a = b", "eqs a = b", "as a = b", "asks a = b",
		"rankfgba", "eqa = b", "aska = b", "eq\ta = b", "ask\ta = b", "rank\tfgba", "rank=fgba", "eq=a = b", "eq,a = b",
		"a", "a = b", "f(a,b)", "fgba", "rule b to a by 1", "stuck a = b", "long",
	)
}

// malformedEqs are texts that are no equations.
func malformedEqs() []string {
	list := []string{
		"", " ", "=", " = ", "  =  ", " =", "= ", "a = ", " = a", "a =", "= a", "a", "a ", " a", "x0", "f(a,b)",
		"a=b", "a= b", "a =b", "a  b", "a b", "a - b", "a == b", "a := b", "a = = b", "a , b", "a\t=\tb", "a\u00a0=\u00a0b", "a\x00=\x00b",
		"a = b = a", "a = b = ", " = a = b", "a = a = a = a", "a = b b", "a a = b", "a = b,", "a = b;", "(a = b)", "a = b = b",
		" a = b", "a = b ", "a  = b", "a =  b", "  a = b", "a = b  ", "a = b\r", "a = b\n", "\na = b", "a\n= b", "a = b\x00", "\xffa = b",
		"A = b", "a = B", "f(a, b) = a", "f(a ,b) = a", "a = f( a,b)", "a = g(a )", "g (a) = a",
	}
	for _, wrong := range []string{"c", "x", "x12", "x00", "x01", "x-1", "x99999999999999999999", "g(x012)", "g", "g()", "g(a", "g(a))", "g(a,b)", "f", "f(a)", "f(a,", "f(a,b", "f(a,b,a)", "f(,)", "a()", "b(a)", "x1(a)", "h(a)", "\x00", "\xff", "\u0430", "x\u0661", termText(chain(16, a())), termText(comb(9))} {
		list = append(list, wrong+" = a", "x0 = "+wrong, wrong+" = "+wrong)
	}
	return list
}

// malformedRanks are texts of one word that are no rankings.
func malformedRanks() []string {
	return []string{
		"f", "fg", "gg", "fgb", "abg", "fgbaf", "fgbab", "fgbafgba", "ffff", "fgbb", "aabf", "fgbx", "fgb0", "fgb ", " gba", "0123", "4321",
		"FGBA", "Fgba", "fgbA", "fg\tba", "fg\u00a0ba", "f,g,b,a", " fgba", "fgba ", "  fgba", " fgba ", "fgba\r", "fgba\x00", "\xfffgba", "fgb\u0430", "fg\u00e9", "\u00e9\u00e9",
	}
}

// malformedLines are commands that are answered by "no" wherever they stand.
func malformedLines() []string {
	var list []string
	for _, text := range malformedEqs() {
		if strings.Trim(text, " ") != "" && !strings.Contains(text, "\n") {
			list = append(list, "eq "+text, "ask "+text)
		}
	}
	for _, text := range malformedRanks() {
		list = append(list, "rank "+text)
	}
	return list
}

// pick takes one of a list.
func pick[T any](list []T, d *dice) T {
	return list[d.below(len(list))]
}

// askLine asks about two terms that may be equal by the equations.
func askLine(x task, d *dice) string {
	terms := someTerms(result{task: x}, 1, 3, d)
	if d.below(4) == 0 {
		terms = someTerms(result{task: x}, 2, 1, d)
	}
	return "ask " + termText(pick(terms, d)) + " = " + termText(terms[len(terms)-1])
}

// thrownScript sets a task and has some other lines at any place.
func thrownScript(x task, d *dice) []string {
	lines := taskLines(x)
	for range 3 {
		lines = append(lines, askLine(x, d))
	}
	others := []string{"make", "make", "", askLine(x, d), pick(strangeLines(), d), pick(malformedLines(), d), "rank " + lettersOf(pick(rankings(), d))}
	for range 2 + d.below(5) {
		lines = slices.Insert(lines, d.below(len(lines)+1), pick(others, d))
	}
	return lines
}

// answered is a script and the answer to each of its lines, with the newline
// behind it; the answer to an empty line is empty.
type answered struct {
	lines   []string
	answers []string
}

func answeredLines(lines []string) answered {
	x := answered{lines: lines}
	before := ""
	for i := range lines {
		after := impl.LinesRun(textOf(lines[:i+1]...))
		x.answers = append(x.answers, strings.TrimPrefix(after, before))
		before = after
	}
	return x
}

// scripts are answered only once. There is room for more lines in each.
var scripts = sync.OnceValue(func() []answered {
	var list []answered
	d := dice(21)
	for i, x := range thrownTasks() {
		if lines := thrownScript(x, &d); i%10 == 0 && len(textOf(lines...)) < impl.LinesMax-100 {
			list = append(list, answeredLines(lines))
		}
	}
	return list
})

// eachInsert calls do with scripts that have another line at each place, and
// with the answers that all lines but this one had without it.
func eachInsert(t *testing.T, choose func(d *dice) string, do func(lines []string, at int, before, behind string)) {
	t.Helper()
	d := dice(8)
	count := 0
	for _, x := range scripts() {
		for at := range len(x.lines) + 1 {
			lines := slices.Insert(slices.Clone(x.lines), at, choose(&d))
			do(lines, at, strings.Join(x.answers[:at], ""), strings.Join(x.answers[at:], ""))
			count++
		}
	}
	if count < 1000 {
		t.Errorf("only %d scripts", count)
	}
}
