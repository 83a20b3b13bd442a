package tests

import (
	"slices"
	"testing"

	"loop.example/tipstaff/impl"
)

func TestP94NoEquationsMakeNoRules(t *testing.T) {
	terms := smallTerms(3)
	for _, rank := range rankings() {
		for _, eqs := range [][]impl.Eq{nil, {}} {
			mustDone(t, eqs, rank, impl.Done{Code: impl.DoneAll})
			for v := range impl.TermVar {
				for w := range impl.TermVar {
					want := impl.AskNo
					if v == w {
						want = impl.AskYes
					}
					if why := mustAnswer(t, task{eqs, rank}, variable(v), variable(w), want); len(why) > 0 {
						t.Fatalf("%d links", len(why))
					}
				}
			}
		}
	}
	for i, s := range terms {
		for k, x := range terms {
			want := impl.AskNo
			if i == k {
				want = impl.AskYes
			}
			mustAnswer(t, task{nil, rankOf("gbfa")}, s, x, want)
		}
	}
}

func TestP94NoEquationsWithABadRanking(t *testing.T) {
	for _, bad := range badRanks() {
		t.Run(bad.name, func(t *testing.T) {
			mustBeBad(t, nil, bad.rank)
			for _, x := range []impl.Term{variable(0), variable(1), a(), g(b())} {
				mustAnswer(t, task{nil, bad.rank}, variable(0), x, impl.AskNot)
				mustAnswer(t, task{nil, bad.rank}, x, x, impl.AskNot)
			}
		})
	}
}

func TestP95AllCriticalPairsMeetIfCompletionSucceeds(t *testing.T) {
	count := 0
	eachResult(t, func(r result) {
		pairs := pairsOfAll(r.done.Rules)
		count += len(pairs)
		if !impl.AskAll(r.done.Rules) || !meetBy(r.done.Rules, pairs) {
			t.Fatalf("%s", rulesText(r.done.Rules))
		}
		for _, p := range allPairs(r.done.Rules) {
			if same, known := sameNorm(r.done.Rules, p.S, p.T); !same || !known {
				t.Fatalf("%s and %s by %s", termText(p.S), termText(p.T), rulesText(r.done.Rules))
			}
		}
	}, impl.DoneAll)
	if count < 500 {
		t.Errorf("only %d pairs", count)
	}
}

func TestP96YesComesWithAProofAndNoOtherAnswerDoes(t *testing.T) {
	short, long := 0, 0
	eachAnswer(t, func(q asked) {
		mustProve(t, q.eqs, q.s, q.x, q.why)
		switch {
		case len(q.why) == 0 && !sameTerm(q.s, q.x):
			t.Fatalf("%v: no link", q.question)
		case len(q.why) < 2:
			short++
		case len(q.why) > 9:
			long++
		}
	}, impl.AskYes)
	for _, code := range []int{impl.AskNo, impl.AskNot} {
		eachAnswer(t, func(q asked) {
			if len(q.why) > 0 {
				t.Fatalf("%v: %s by %d links", q.question, answerText(q.code), len(q.why))
			}
		}, code)
	}
	if short < 500 || long < 50 {
		t.Errorf("%d proofs have hardly any links, %d have more than nine", short, long)
	}
}

func TestP97WhereAProofLeadsIsNeverNo(t *testing.T) {
	d := dice(5)
	yes, not := 0, 0
	for _, r := range someResults(5) {
		all := doneTerms()
		x := all[d.below(len(all))]
		for _, end := range linkedTerms(r.eqs, x, 7, &d) {
			if mustNotBeNo(t, r.task, x, end) {
				yes++
			} else {
				not++
			}
		}
	}
	if yes < 500 || not < 100 {
		t.Errorf("%d yes, %d not", yes, not)
	}
}

// A proof may go through terms that are too large to be asked about.
func TestP97WhereALargeProofLeadsIsNeverNo(t *testing.T) {
	d := dice(12)
	yes, large := 0, 0
	for _, text := range []string{
		"f(x0,a) = x0; f(a,x0) = g(x0) | fgba",
		"f(f(x0,x1),x2) = f(x0,f(x1,x2)); f(x0,a) = x0; f(a,x0) = x0 | fgba",
		"f(x0,x0) = x0; g(g(x0)) = x0 | fgba",
	} {
		y := readTask(t, text)
		mustCourse(t, y.eqs, y.rank, endAll)
		for _, x := range []impl.Term{a(), f(variable(3), b()), g(f(g(b()), variable(0))), comb(3)} {
			w := walkFrom(y.eqs, x, impl.ProofMax, 48, true, &d)
			for _, end := range w.terms {
				if !isTerm(end) {
					large++
				} else if mustNotBeNo(t, y, x, end) {
					yes++
				}
			}
		}
	}
	if yes < 50 || large < 50 {
		t.Errorf("%d yes, %d terms are too large", yes, large)
	}
}

func TestP98TermAndItselfAreNeverNo(t *testing.T) {
	yes, not := 0, 0
	d := dice(6)
	for _, r := range someResults(4) {
		for _, x := range someTerms(r, 4, 1, &d) {
			if mustNotBeNo(t, r.task, x, copyTerm(x)) {
				yes++
			} else {
				not++
			}
		}
	}
	if yes < 2000 || not < 10 {
		t.Errorf("%d yes, %d not", yes, not)
	}
	for _, bad := range badTerms() {
		mustAnswer(t, task{nil, rankOf("fgba")}, bad.term, bad.term, impl.AskNot)
	}
}

func TestP99OrderOfBothTermsDoesNotMatter(t *testing.T) {
	turn := 0
	for _, code := range []int{impl.AskYes, impl.AskNo, impl.AskNot} {
		eachAnswer(t, func(q asked) {
			turn++
			if turn%3 > 0 {
				return
			}
			why := mustAnswer(t, q.task, q.x, q.s, code)
			if !sameLinks(why, impl.ProofBack(q.why)) {
				t.Fatalf("%v: %v and %v", q.question, q.why, why)
			}
		}, code)
	}
}

// someYes calls do with every few of the answers that are AskYes, by more than
// no link, and counts what of do's questions are AskYes as well.
func someYes(t *testing.T, do func(q asked) []question) {
	t.Helper()
	turn, yes, not := 0, 0, 0
	eachAnswer(t, func(q asked) {
		if turn++; len(q.why) == 0 || turn%9 > 0 {
			return
		}
		for _, y := range do(q) {
			if mustNotBeNo(t, y.task, y.s, y.x) {
				yes++
			} else {
				not++
			}
		}
	}, impl.AskYes)
	if yes < 500 || not < 10 {
		t.Errorf("%d yes, %d not", yes, not)
	}
}

func TestP100WhatIsYesIsNeverNoWithinATerm(t *testing.T) {
	whole := f(g(variable(1)), f(f(a(), variable(0)), b()))
	someYes(t, func(q asked) (list []question) {
		for _, place := range placesBelow(whole) {
			list = append(list, question{q.task, withPart(whole, place, q.s), withPart(whole, place, q.x)})
		}
		for _, two := range [][2]impl.Term{{g(q.s), g(q.x)}, {chain(4, q.s), chain(4, q.x)}, {f(q.s, q.x), f(q.x, q.s)}, {f(q.s, q.s), f(q.s, q.x)}} {
			list = append(list, question{q.task, two[0], two[1]})
		}
		return list
	})
}

func TestP101WhatIsYesIsNeverNoUnderASubstitution(t *testing.T) {
	x0, x1, x7 := variable(0), variable(1), variable(7)
	substs := [][]impl.Bind{
		{bind(0, a()), bind(1, b()), bind(2, a()), bind(7, b())},
		{bind(0, x7), bind(1, x7), bind(2, x0), bind(7, x0)},
		{bind(0, g(x1)), bind(1, f(x0, a())), bind(2, g(g(b()))), bind(7, g(x0))},
		{bind(0, f(b(), x0)), bind(7, f(f(a(), a()), x1))},
	}
	someYes(t, func(q asked) (list []question) {
		for _, s := range substs {
			list = append(list, question{q.task, applied(s, q.s), applied(s, q.x)})
		}
		return list
	})
}

func TestP102WhatIsYesThroughAThirdTermIsNeverNo(t *testing.T) {
	d := dice(8)
	linked, apart := 0, 0
	for _, r := range someResults(14) {
		terms := someTerms(r, 3, 1, &d)
		codes := map[[2]int]int{}
		for i, s := range terms {
			for k, x := range terms {
				codes[[2]int{i, k}], _ = impl.AskSame(r.eqs, r.rank, s, x)
			}
		}
		eachList(3, 0, len(terms)-1, nil, func(at []int) {
			first, second, both := codes[[2]int{at[0], at[1]}], codes[[2]int{at[1], at[2]}], codes[[2]int{at[0], at[2]}]
			if first == impl.AskYes && second == impl.AskYes {
				linked++
				if both == impl.AskNo {
					t.Fatalf("%s: %s and %s through %s", eqsText(r.eqs), termText(terms[at[0]]), termText(terms[at[2]]), termText(terms[at[1]]))
				}
			}
			if first == impl.AskYes && second == impl.AskNo {
				apart++
				if both == impl.AskYes {
					t.Fatalf("%s: %s and %s, but not %s", eqsText(r.eqs), termText(terms[at[0]]), termText(terms[at[2]]), termText(terms[at[1]]))
				}
			}
		})
	}
	if linked < 1000 || apart < 500 {
		t.Errorf("%d are linked, %d are apart", linked, apart)
	}
}

func TestP103BothSidesOfAnEquationAreNeverNo(t *testing.T) {
	yes, not := 0, 0
	for _, r := range results() {
		for _, e := range r.eqs {
			if mustNotBeNo(t, r.task, e.S, e.T) {
				yes++
			} else {
				not++
			}
		}
	}
	if yes < 1000 || not < 100 {
		t.Errorf("%d yes, %d not", yes, not)
	}
}

func TestP104TermAndItsNormalFormAreNeverNo(t *testing.T) {
	d := dice(9)
	yes := 0
	for _, r := range someResults(4) {
		for _, x := range someTerms(r, 3, 1, &d) {
			norm, why, ok := impl.NormOf(r.done.Rules, x)
			if !ok || len(why) == 0 {
				continue
			}
			for _, two := range [][2]impl.Term{{x, norm}, {norm, x}} {
				if mustNotBeNo(t, r.task, two[0], two[1]) {
					yes++
				}
			}
		}
	}
	if yes < 500 {
		t.Errorf("only %d yes", yes)
	}
}

func TestP105AllIfAndOnlyIfTheCriticalPairsOfAllRulesMeet(t *testing.T) {
	yes, no := 0, 0
	for _, rules := range askLists() {
		want := len(rules) <= impl.RuleMax && meetBy(rules, pairsOfAll(rules))
		if impl.AskAll(rules) != want || len(rules) <= impl.RuleMax && impl.PairsMeet(rules, allPairs(rules)) != want {
			t.Fatalf("%s: %v", rulesText(rules), !want)
		}
		if want {
			yes++
		} else {
			no++
		}
	}
	if yes < 500 || no < 50 {
		t.Errorf("%d meet, %d do not", yes, no)
	}
}

// With more than EqMax equations nothing is known any more.
func TestP106WithAFurtherEquationWhatIsYesIsNeverNo(t *testing.T) {
	x0, x1 := variable(0), variable(1)
	more := []impl.Eq{
		eq(a(), b()),
		eq(x0, x0),
		eq(g(x0), a()),
		eq(f(x0, x0), x0),
		eq(f(x0, g(x1)), g(f(x1, x0))),
		eq(x0, x1),
	}
	someYes(t, func(q asked) (list []question) {
		for i, e := range more {
			eqs := slices.Insert(slices.Clone(q.eqs), min(i, len(q.eqs)), e)
			list = append(list, question{task{eqs, q.rank}, q.s, q.x})
		}
		full := slices.Concat(q.eqs, slices.Repeat(more[:1], impl.EqMax-len(q.eqs)))
		mustNotBeNo(t, task{full, q.rank}, q.s, q.x)
		mustAnswer(t, task{append(full, more[0]), q.rank}, q.s, q.x, impl.AskNot)
		return list
	})
}

func TestP107NoOnlyIfCompletionSucceeded(t *testing.T) {
	eachAnswer(t, func(q asked) {
		first, _, okS := normBy(q.done.Rules, q.s)
		second, _, okX := normBy(q.done.Rules, q.x)
		if q.done.Code != impl.DoneAll || !okS || !okX || sameTerm(first, second) {
			t.Fatalf("%v: no", q.question)
		}
	}, impl.AskNo)
	stuck, long := 0, 0
	eachAnswer(t, func(q asked) {
		if same, known := sameNorm(q.done.Rules, q.s, q.x); !known || same {
			return
		}
		switch q.done.Code {
		case impl.DoneStuck:
			stuck++
		case impl.DoneLong:
			long++
		}
	}, impl.AskNot)
	if stuck < 300 || long < 300 {
		t.Errorf("%d differ where completion is stuck, %d where it is too long", stuck, long)
	}
}

func TestP108ProofHasAtMostProofMaxLinksOfTheEquations(t *testing.T) {
	eachAnswer(t, func(q asked) {
		if len(q.why) > impl.ProofMax {
			t.Fatalf("%d links", len(q.why))
		}
		for _, l := range q.why {
			if l.Eq < 0 || l.Eq >= len(q.eqs) {
				t.Fatalf("%s: there is no equation %d", eqsText(q.eqs), l.Eq)
			}
		}
	}, impl.AskYes)
	sort := sorter(1, 1)
	x := task{sort.eqs, sort.rank}
	if why := mustAnswer(t, x, scattered(0, 0, 0, 0, 5), scattered(0, 0, 0, 0, 5), impl.AskYes); len(why) != impl.ProofMax {
		t.Errorf("%d links", len(why))
	}
	mustAnswer(t, x, scattered(0, 0, 0, 0, 6), scattered(0, 0, 0, 1, 5), impl.AskNot)
}
