package tests

import (
	"slices"
	"strings"
	"sync"
	"testing"

	"loop.example/tipstaff/impl"
)

// question is a task and two terms.
type question struct {
	task
	s, x impl.Term
}

// String is for messages, also about what is invalid.
func (q question) String() string {
	all := slices.Concat([]impl.Term{q.s, q.x}, sidesOfAll(q.eqs))
	if slices.ContainsFunc(all, func(x impl.Term) bool { return !isProofTerm(x) }) {
		return "a question with a bad term"
	}
	return eqsText(q.eqs) + ": is " + termText(q.s) + " " + termText(q.x)
}

func sidesOfAll(eqs []impl.Eq) []impl.Term {
	var list []impl.Term
	for _, e := range eqs {
		list = append(list, e.S, e.T)
	}
	return list
}

// answerBy follows the document's words one by one; the terms must be valid, and
// d what DoneOf makes of valid equations and a ranking.
func answerBy(eqs []impl.Eq, d impl.Done, s, x impl.Term) (int, []impl.Link) {
	first, there, okS := normBy(d.Rules, s)
	second, back, okX := normBy(d.Rules, x)
	switch {
	case len(d.Rules) > impl.RuleMax || !okS || !okX:
		return impl.AskNot, nil
	case sameTerm(first, second):
		why := slices.Concat(there, backBy(back))
		end, fits, ok := endBy(eqs, s, why)
		if !fits || !ok || !sameTerm(end, x) {
			return impl.AskNot, nil
		}
		return impl.AskYes, why
	case d.Code == impl.DoneAll:
		return impl.AskNo, nil
	}
	return impl.AskNot, nil
}

func answerText(code int) string {
	texts := map[int]string{impl.AskYes: "yes", impl.AskNo: "no", impl.AskNot: "not"}
	text, known := texts[code]
	if !known {
		return "none of the answers"
	}
	return text
}

// readQuestion is for tables: "f(a,x0) = g(a)".
func readQuestion(t *testing.T, text string) (impl.Term, impl.Term) {
	t.Helper()
	s, x, found := strings.Cut(text, " = ")
	if !found {
		t.Fatalf("%q is no text of a question", text)
	}
	return readTerm(t, s), readTerm(t, x)
}

// mustProve fails unless a proof keeps to its limits and leads from s to x, by
// ProofEnd and by the document's words.
func mustProve(t *testing.T, eqs []impl.Eq, s, x impl.Term, why []impl.Link) {
	t.Helper()
	end, ok := impl.ProofEnd(eqs, s, why)
	mustTerm(t, end, ok, x)
	end, fits, ok := endBy(eqs, s, why)
	mustTerm(t, end, ok && fits, x)
}

// mustAnswer fails unless a question has an answer, with a proof that leads
// there, or with none.
func mustAnswer(t *testing.T, y task, s, x impl.Term, want int) []impl.Link {
	t.Helper()
	code, why := impl.AskSame(y.eqs, y.rank, s, x)
	if code != want {
		t.Fatalf("%v: %s, want %s", question{y, s, x}, answerText(code), answerText(want))
	}
	if code == impl.AskYes {
		mustProve(t, y.eqs, s, x, why)
	} else if len(why) > 0 {
		t.Fatalf("%v: %s by %d links", question{y, s, x}, answerText(code), len(why))
	}
	return why
}

// mustNotBeNo fails if the answer is AskNo, and says whether it is AskYes.
func mustNotBeNo(t *testing.T, y task, s, x impl.Term) bool {
	t.Helper()
	code, _ := impl.AskSame(y.eqs, y.rank, s, x)
	if code == impl.AskNo {
		t.Fatalf("%v: no", question{y, s, x})
	}
	return code == impl.AskYes
}

// asked is a question and its answer.
type asked struct {
	question
	done impl.Done
	code int
	why  []impl.Link
}

// linkedTerms are some that links lead to from a term, one after the other.
func linkedTerms(eqs []impl.Eq, x impl.Term, number int, d *dice) []impl.Term {
	var list []impl.Term
	for range number {
		var next []impl.Term
		eachLinkFrom(eqs, x, func(y impl.Term) { next = append(next, y) })
		if len(next) == 0 {
			break
		}
		x = next[d.below(len(next))]
		list = append(list, x)
	}
	return list
}

// someTerms are a number of those of doneTerms, and what links lead to from
// them.
func someTerms(r result, number, links int, d *dice) []impl.Term {
	var list []impl.Term
	all := doneTerms()
	for range number {
		x := all[d.below(len(all))]
		list = append(append(list, x), linkedTerms(r.eqs, x, links, d)...)
	}
	return list
}

// someResults are every few of the results.
func someResults(every int) []result {
	var list []result
	for i, r := range results() {
		if i%every == 0 {
			list = append(list, r)
		}
	}
	return list
}

// answers are those to many questions, asked only once, as that takes longer
// than most tests.
var answers = sync.OnceValue(func() []asked {
	var list []asked
	d := dice(11)
	for _, r := range someResults(4) {
		terms := someTerms(r, 3, 2, &d)
		for i := range terms {
			for _, k := range []int{0, i + 1, d.below(len(terms))} {
				s, x := terms[i], terms[k%len(terms)]
				code, why := impl.AskSame(r.eqs, r.rank, s, x)
				list = append(list, asked{question{r.task, s, x}, r.done, code, why})
			}
		}
	}
	return list
})

// eachAnswer calls do with the answers that are one of some codes, and fails if
// there are hardly any.
func eachAnswer(t *testing.T, do func(q asked), codes ...int) {
	t.Helper()
	count := 0
	for _, q := range answers() {
		if slices.Contains(codes, q.code) {
			count++
			do(q)
		}
	}
	if count < 300 {
		t.Errorf("only %d answers", count)
	}
}
