package tests

import (
	"slices"
	"strings"
	"testing"

	"loop.example/tipstaff/impl"
)

// P109 and P110 are in l31_eq_test.go.

func TestP111FirstAnswersDoNotDependOnTheRest(t *testing.T) {
	all := scripts()
	for i, x := range all {
		whole := impl.LinesRun(textOf(x.lines...))
		for end := range len(x.lines) + 1 {
			first := textOf(x.lines[:end]...)
			got := impl.LinesRun(first)
			if !strings.HasPrefix(whole, got) || got != strings.Join(x.answers[:end], "") {
				t.Fatalf("%q: %q, and all: %q", first, got, whole)
			}
			mustRun(t, strings.TrimSuffix(first, "\n"), got)
			rest := textOf(all[(i+1)%len(all)].lines...)
			if other := first + rest; end%4 == 0 && len(other) <= impl.LinesMax && !strings.HasPrefix(impl.LinesRun(other), got) {
				t.Fatalf("%q: %q, then %q", first, got, impl.LinesRun(other))
			}
		}
	}
}

func TestP112EmptyLinesAreNotAnswered(t *testing.T) {
	eachInsert(t, func(*dice) string { return "" }, func(lines []string, at int, before, behind string) {
		mustRun(t, textOf(lines...), before+behind)
	})
	for _, x := range scripts() {
		text, want := textOf(x.lines...), strings.Join(x.answers, "")
		mustRun(t, "\n\n"+text, want)
		mustRun(t, text+"\n\n\n", want)
		mustRun(t, strings.ReplaceAll(text, "\n", "\n\n"), want)
	}
	for number := range impl.LinesMax + 1 {
		mustRun(t, strings.Repeat("\n", number), "")
	}
}

func TestP113LineThatIsNoCommandChangesNothing(t *testing.T) {
	strange := strangeLines()
	eachInsert(t, func(d *dice) string { return pick(strange, d) }, func(lines []string, at int, before, behind string) {
		mustRun(t, textOf(lines...), before+"what\n"+behind)
	})
}

func TestP113MalformedCommandChangesNothing(t *testing.T) {
	malformed := malformedLines()
	eachInsert(t, func(d *dice) string { return pick(malformed, d) }, func(lines []string, at int, before, behind string) {
		mustRun(t, textOf(lines...), before+"no\n"+behind)
	})
}

func TestP114AskingAndMakingChangeNothing(t *testing.T) {
	questions := []string{"make", "make", "ask a = a", "ask a = b", "ask x0 = x1", "ask g(a) = f(a,a)", "ask f(x0,x1) = f(x1,x0)", "ask g(g(g(g(g(g(g(g(g(g(g(g(g(g(b)))))))))))))) = x11"}
	eachInsert(t, func(d *dice) string { return pick(questions, d) }, func(lines []string, at int, before, behind string) {
		got := impl.LinesRun(textOf(lines...))
		answer := impl.LinesRun(textOf(lines[:at+1]...))
		if !strings.HasPrefix(answer, before) || len(answer) <= len(before) || got != answer+behind {
			t.Fatalf("%q: %q, want %q, an answer and %q", lines, got, before, behind)
		}
	})
}

// Without its questions a script has the same other answers.
func TestP114WithoutQuestionsNothingElseChanges(t *testing.T) {
	for _, x := range scripts() {
		var lines []string
		want := ""
		for i, line := range x.lines {
			if line != "make" && !strings.HasPrefix(line, "ask ") {
				lines, want = append(lines, line), want+x.answers[i]
			}
		}
		mustRun(t, textOf(lines...), want)
		last := len(x.lines) - 1
		if question := x.lines[last]; len(lines) < last && strings.HasPrefix(question, "ask ") {
			mustRun(t, textOf(append(lines, question)...), want+x.answers[last])
		}
	}
}

func TestP115SettingTheInitialRankingChangesNothing(t *testing.T) {
	set := 0
	for _, x := range scripts() {
		for at, line := range x.lines {
			lines := slices.Insert(slices.Clone(x.lines), at, "rank fgba")
			mustRun(t, textOf(lines...), strings.Join(x.answers[:at], "")+"rank\n"+strings.Join(x.answers[at:], ""))
			set++
			if strings.HasPrefix(line, "rank ") && x.answers[at] == "rank\n" {
				break
			}
		}
	}
	if set < 500 {
		t.Errorf("only %d scripts", set)
	}
}

// Another ranking may change the answers.
func TestP115OnlyTheInitialRankingChangesNothing(t *testing.T) {
	text := "eq a = g(b)\neq f(x0,b) = g(x0)\neq b = a\nmake\n"
	plain := impl.LinesRun(text)
	for _, rank := range rankings() {
		same := impl.LinesRun("rank "+lettersOf(rank)+"\n"+text) == "rank\n"+plain
		if lettersOf(rank) == "fgba" && !same || lettersOf(rank) == "abgf" && same {
			t.Errorf("%s: %v", lettersOf(rank), same)
		}
	}
}

func TestP116LastLineOfMakeIsTheResultOfCompletion(t *testing.T) {
	counts := map[int]int{}
	for _, r := range results() {
		text := textOf(append(taskLines(r.task), "make")...)
		if len(text) > impl.LinesMax {
			continue
		}
		done := impl.DoneOf(r.eqs, r.rank)
		want := map[int]string{impl.DoneAll: "all", impl.DoneStuck: "stuck " + impl.EqWrite(done.Stuck), impl.DoneLong: "long"}[done.Code]
		lines := strings.Split(impl.LinesRun(text), "\n")
		if want == "" || lines[len(lines)-1] != "" || lines[len(lines)-2] != want {
			t.Fatalf("%q: %q, want %q", text, lines, want)
		}
		counts[done.Code]++
	}
	for _, code := range anyCode {
		if counts[code] < 50 {
			t.Errorf("code %d: %d completions", code, counts[code])
		}
	}
}
