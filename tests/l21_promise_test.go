package tests

import (
	"slices"
	"testing"

	"loop.example/tipstaff/impl"
)

// doneTerms are terms to which rules that were made apply in many ways.
func doneTerms() []impl.Term {
	x0, x1, x7 := variable(0), variable(1), variable(7)
	return append(slices.Concat(termsOfSize(3, []impl.Term{x0, x7, a(), b()})...),
		f(g(x0), f(x0, x0)),
		f(f(a(), b()), f(b(), a())),
		f(g(g(a())), g(g(b()))),
		g(f(f(x7, a()), f(b(), x7))),
		f(f(f(x0, b()), x1), g(g(g(a())))),
		g(g(f(g(x1), f(a(), g(x1))))),
		f(f(g(f(a(), x1)), g(f(x1, a()))), f(f(b(), b()), b())),
		chain(6, x1),
		chain(9, b()),
		rightComb(5, a(), x7),
		rightComb(4, g(x0), b()),
		comb(5),
		f(comb(4), chain(3, a())))
}

var anyCode = []int{impl.DoneAll, impl.DoneStuck, impl.DoneLong}

// eachMade calls do with all results and terms.
func eachMade(t *testing.T, do func(r result, x impl.Term), codes ...int) {
	t.Helper()
	terms := doneTerms()
	eachResult(t, func(r result) {
		for _, x := range terms {
			do(r, x)
		}
	}, codes...)
}

// mustLead holds a proof against its limits: it must lead there without them,
// and by ProofEnd unless it is too large.
func mustLead(t *testing.T, eqs []impl.Eq, x impl.Term, why []impl.Link, want impl.Term) bool {
	t.Helper()
	end, fits, ok := endBy(eqs, x, why)
	mustTerm(t, end, ok, want)
	got, ok := impl.ProofEnd(eqs, x, why)
	if fits {
		mustTerm(t, got, ok, want)
	} else {
		mustFail(t, got, ok)
	}
	return fits
}

func TestP77StepByRulesThatAreMadeDecreases(t *testing.T) {
	done := 0
	eachMade(t, func(r result, x impl.Term) {
		if next, _, ok := impl.RuleStep(r.done.Rules, x); ok {
			done++
			if !impl.OrderMore(r.rank, x, next) || impl.OrderMore(r.rank, next, x) || !moreBy(r.rank, x, next) {
				t.Fatalf("%s to %s by %s", termText(x), termText(next), rulesText(r.done.Rules))
			}
		}
	}, anyCode...)
	if done < 10000 {
		t.Errorf("only %d steps", done)
	}
}

func TestP78ProofOfAStepLeadsToItsResult(t *testing.T) {
	fits, large := 0, 0
	eachMade(t, func(r result, x impl.Term) {
		if next, why, ok := impl.RuleStep(r.done.Rules, x); ok {
			if mustLead(t, r.eqs, x, why, next) {
				fits++
			} else {
				large++
			}
		}
	}, anyCode...)
	if fits < 10000 || large < 1 {
		t.Errorf("%d proofs, and %d that are too large", fits, large)
	}
}

func TestP79ProofOfNormOfLeadsToTheNormalForm(t *testing.T) {
	fits, long := 0, 0
	eachMade(t, func(r result, x impl.Term) {
		if norm, why, ok := impl.NormOf(r.done.Rules, x); ok {
			if mustLead(t, r.eqs, x, why, norm) {
				fits++
			}
			if len(why) > 1 {
				long++
			}
		}
	}, anyCode...)
	if fits < 10000 || long < 5000 {
		t.Errorf("%d proofs, %d of more than one link", fits, long)
	}
}

func TestP80NormalFormIsSmallerOrEqual(t *testing.T) {
	smaller, equal := 0, 0
	eachMade(t, func(r result, x impl.Term) {
		norm, why, ok := impl.NormOf(r.done.Rules, x)
		switch {
		case !ok:
		case sameTerm(norm, x) && len(why) == 0:
			equal++
		case impl.OrderMore(r.rank, x, norm):
			smaller++
		default:
			t.Fatalf("%s to %s by %s", termText(x), termText(norm), rulesText(r.done.Rules))
		}
	}, anyCode...)
	if smaller < 10000 || equal < 10000 {
		t.Errorf("%d are smaller, %d are equal", smaller, equal)
	}
}

// sameNorm says whether two terms have the same normal form; it is true also if
// one of them has none, because of a limit.
func sameNorm(rules []impl.Rule, x, y impl.Term) (same, known bool) {
	first, _, okX := impl.NormOf(rules, x)
	second, _, okY := impl.NormOf(rules, y)
	if !okX || !okY {
		return true, false
	}
	return sameTerm(first, second), true
}

func TestP81NormalizingBelowASymbolDoesNotMatter(t *testing.T) {
	count := 0
	other := f(b(), g(variable(0)))
	eachMade(t, func(r result, x impl.Term) {
		norm, _, ok := impl.NormOf(r.done.Rules, x)
		if !ok {
			return
		}
		for _, two := range [][2]impl.Term{{g(x), g(norm)}, {f(x, other), f(norm, other)}, {f(other, x), f(other, norm)}, {f(x, x), f(norm, x)}} {
			same, known := sameNorm(r.done.Rules, two[0], two[1])
			if !same {
				t.Fatalf("%s by %s", termText(two[0]), rulesText(r.done.Rules))
			}
			if known && !sameTerm(x, norm) {
				count++
			}
		}
	}, impl.DoneAll)
	if count < 10000 {
		t.Errorf("only %d terms", count)
	}
}

func TestP82NormalFormHasNoOtherVariables(t *testing.T) {
	fewer := 0
	eachMade(t, func(r result, x impl.Term) {
		norm, _, ok := impl.NormOf(r.done.Rules, x)
		if !ok {
			return
		}
		vars, left := varsBelow(x, nil), varsBelow(norm, nil)
		for _, v := range left {
			if !slices.Contains(vars, v) {
				t.Fatalf("%s to %s by %s", termText(x), termText(norm), rulesText(r.done.Rules))
			}
		}
		if len(left) < len(vars) {
			fewer++
		}
	}, anyCode...)
	if fewer < 1000 {
		t.Errorf("only %d have fewer variables", fewer)
	}
}

// eachLinkFrom calls do with where a link may lead from a term; variables that
// only the new side has stand for another term.
func eachLinkFrom(eqs []impl.Eq, x impl.Term, do func(next impl.Term)) {
	for _, place := range placesBelow(x) {
		for i, e := range eqs {
			for _, back := range []bool{false, true} {
				from, to := sidesOf(e, back)
				s, ok := matchBy(from, partAt(x, place))
				if !ok {
					continue
				}
				for _, v := range varsBelow(to, nil) {
					if !isBound(s, v) {
						s = append(s, bind(v, f(a(), variable(2))))
					}
				}
				slices.SortFunc(s, func(b, c impl.Bind) int { return b.Var - c.Var })
				if next, ok := impl.LinkDo(eqs, x, at(i, back, place, s...)); ok && isTerm(next) {
					do(next)
				}
			}
		}
	}
}

func TestP83BothEndsOfALinkHaveTheSameNormalForm(t *testing.T) {
	count, turn := 0, 0
	terms := doneTerms()
	eachResult(t, func(r result) {
		turn++
		for i, x := range terms {
			if (i+turn)%4 > 0 {
				continue
			}
			eachLinkFrom(r.eqs, x, func(next impl.Term) {
				same, known := sameNorm(r.done.Rules, x, next)
				if !same {
					t.Fatalf("%s and %s by %s", termText(x), termText(next), rulesText(r.done.Rules))
				}
				if known {
					count++
				}
			})
		}
	}, impl.DoneAll)
	if count < 10000 {
		t.Errorf("only %d links", count)
	}
}

func TestP84EachRuleFollowsAndDecreases(t *testing.T) {
	most := 0
	everyResult(t, func(r result) {
		for i, made := range r.done.Rules {
			end, ok := impl.ProofEnd(r.eqs, made.L, made.Why)
			mustTerm(t, end, ok, made.R)
			if !impl.OrderMore(r.rank, made.L, made.R) || !moreBy(r.rank, made.L, made.R) {
				t.Fatalf("%s by %v", ruleText(made), r.rank)
			}
			if !impl.RulesOk(r.eqs, r.rank, r.done.Rules[i:i+1]) {
				t.Fatalf("%s from %s", ruleText(made), eqsText(r.eqs))
			}
			most = max(most, len(made.Why))
		}
		if len(r.done.Rules) <= impl.RuleMax && !impl.RulesOk(r.eqs, r.rank, r.done.Rules) {
			t.Fatalf("%s from %s", rulesText(r.done.Rules), eqsText(r.eqs))
		}
	})
	if most < 20 {
		t.Errorf("no proof has more than %d links", most)
	}
}

func TestP85BothSidesOfAnEquationHaveTheSameNormalForm(t *testing.T) {
	count := 0
	eachResult(t, func(r result) {
		for _, e := range r.eqs {
			same, known := sameNorm(r.done.Rules, e.S, e.T)
			if !same {
				t.Fatalf("%s by %s", eqsText(r.eqs), rulesText(r.done.Rules))
			}
			if known {
				count++
			}
		}
	}, impl.DoneAll)
	if count < 1000 {
		t.Errorf("only %d equations", count)
	}
}

func TestP86NoLeftSideMatchesAnythingInAnotherRule(t *testing.T) {
	most := 0
	everyResult(t, func(r result) {
		most = max(most, len(r.done.Rules))
		for i, made := range r.done.Rules {
			for k, other := range r.done.Rules {
				if matchesWithin(made.L, other.R) || i != k && matchesWithin(made.L, other.L) {
					t.Fatalf("%s in %s, of %s", ruleText(made), ruleText(other), eqsText(r.eqs))
				}
			}
		}
	})
	if most < impl.RuleMax {
		t.Errorf("only up to %d rules", most)
	}
}

func TestP87StuckCanBeOrientedNeitherWay(t *testing.T) {
	everyResult(t, func(r result) {
		s, x := r.done.Stuck.S, r.done.Stuck.T
		if r.done.Code != impl.DoneStuck {
			if !isZero(s) || !isZero(x) {
				t.Fatalf("%s: %v is stuck", eqsText(r.eqs), r.done)
			}
			return
		}
		if sameTerm(s, x) || moreBy(r.rank, s, x) || moreBy(r.rank, x, s) || impl.OrderMore(r.rank, s, x) || impl.OrderMore(r.rank, x, s) {
			t.Fatalf("%s is stuck", eqsText([]impl.Eq{r.done.Stuck}))
		}
		for _, side := range []impl.Term{s, x} {
			norm, why, ok := impl.NormOf(r.done.Rules, side)
			mustRewrite(t, norm, why, ok, side, nil)
		}
	})
}

// mustAgree fails if two sets of rules that are complete do not decide the same
// way; it says whether they have been compared.
func mustAgree(t *testing.T, r result, other impl.Done) bool {
	t.Helper()
	if other.Code != impl.DoneAll {
		return false
	}
	for _, x := range doneTerms() {
		norm, _, ok := impl.NormOf(r.done.Rules, x)
		got, _, okOther := impl.NormOf(other.Rules, x)
		if ok && okOther && !sameTerm(norm, got) {
			t.Fatalf("%s: %s by %s, %s by %s", termText(x), termText(norm), rulesText(r.done.Rules), termText(got), rulesText(other.Rules))
		}
	}
	return true
}

// eachAgain completes again what was complete, from other equations.
func eachAgain(t *testing.T, change func(r result) [][]impl.Eq) {
	t.Helper()
	count := 0
	eachResult(t, func(r result) {
		for _, eqs := range change(r) {
			if len(eqs) <= impl.EqMax && mustAgree(t, r, impl.DoneOf(eqs, r.rank)) {
				count++
			}
		}
	}, impl.DoneAll)
	if count < 500 {
		t.Errorf("only %d are complete again", count)
	}
}

func TestP88RepeatedEquationsMakeNoDifference(t *testing.T) {
	eachAgain(t, func(r result) (list [][]impl.Eq) {
		for i, e := range r.eqs {
			list = append(list, slices.Insert(slices.Clone(r.eqs), (i+2)%len(r.eqs), e))
		}
		return list
	})
}

func TestP89RulesMadeFromRules(t *testing.T) {
	same := 0
	eachAgain(t, func(r result) [][]impl.Eq {
		var eqs []impl.Eq
		for _, made := range r.done.Rules {
			eqs = append(eqs, eq(made.L, made.R))
		}
		if len(eqs) <= impl.EqMax && len(impl.DoneOf(eqs, r.rank).Rules) == len(eqs) {
			same++
		}
		return [][]impl.Eq{eqs}
	})
	if same < 500 {
		t.Errorf("only %d stay as many", same)
	}
}

func TestP90OrderOfEquationsAndSidesMakesNoDifference(t *testing.T) {
	eachAgain(t, func(r result) [][]impl.Eq {
		back, turned := slices.Clone(r.eqs), slices.Clone(r.eqs)
		slices.Reverse(back)
		for i, e := range r.eqs {
			turned[i] = eq(e.T, e.S)
		}
		both := slices.Clone(turned)
		slices.Reverse(both)
		return [][]impl.Eq{back, turned, both}
	})
}

func TestP90AllOrdersOfSomeEquations(t *testing.T) {
	for _, text := range []string{
		"f(x0,a) = x0; f(a,x0) = g(x0); g(g(b)) = b | fgba",
		"f(f(x0,x1),x2) = f(x0,f(x1,x2)); f(x0,a) = x0; f(a,x0) = x0; g(a) = b | fgba",
		"g(f(x0,x1)) = f(x1,x0); g(g(x0)) = x0; f(x0,x0) = a | gfba",
		"g(b) = a; f(a,x1) = b; f(x0,a) = a | abgf",
	} {
		x := readTask(t, text)
		r := result{x, impl.DoneOf(x.eqs, x.rank)}
		if r.done.Code != impl.DoneAll || len(r.done.Rules) < 2 {
			t.Fatalf("%s: %v", text, r.done)
		}
		eachOrder(x.eqs, nil, func(eqs []impl.Eq) {
			for number := range 1 << len(eqs) {
				turned := slices.Clone(eqs)
				for i := range turned {
					if number>>i&1 == 1 {
						turned[i] = eq(turned[i].T, turned[i].S)
					}
				}
				if !mustAgree(t, r, impl.DoneOf(turned, x.rank)) {
					t.Fatalf("%s is not complete", eqsText(turned))
				}
			}
		})
	}
}

func TestP91DoneBadIfAndOnlyIfInvalid(t *testing.T) {
	ranks := [][]int{rankOf("fgba")}
	for _, bad := range badRanks() {
		ranks = append(ranks, bad.rank)
	}
	lists := [][]impl.Eq{nil, {eq(b(), a())}, {eq(variable(0), variable(1))}, proofEqs(), slices.Repeat([]impl.Eq{eq(a(), a())}, impl.EqMax+1)}
	for _, bad := range badTerms() {
		lists = append(lists, []impl.Eq{eq(bad.term, a())}, []impl.Eq{eq(b(), a()), eq(a(), bad.term)})
	}
	for i, eqs := range lists {
		for k, rank := range ranks {
			bad := !impl.EqsOk(eqs) || !impl.OrderOk(rank)
			if bad != (i > 3 || k > 0) {
				t.Fatalf("equations %d and ranking %d: %v", i, k, bad)
			}
			if (impl.DoneOf(eqs, rank).Code == impl.DoneBad) != bad {
				t.Errorf("equations %d and ranking %d: %v", i, k, !bad)
			}
		}
	}
	for _, r := range results() {
		if !slices.Contains(anyCode, r.done.Code) {
			t.Fatalf("%s: %d", eqsText(r.eqs), r.done.Code)
		}
	}
}

func TestP92EquationOfATermAndItselfMakesNoDifference(t *testing.T) {
	x0 := variable(0)
	eachAgain(t, func(r result) (list [][]impl.Eq) {
		terms := []impl.Term{variable(4), f(x0, g(x0))}
		for _, e := range r.eqs[:min(len(r.eqs), 1)] {
			terms = append(terms, e.S, e.T)
		}
		for i, x := range terms {
			list = append(list, slices.Insert(slices.Clone(r.eqs), i%(len(r.eqs)+1), eq(x, x)))
		}
		return list
	})
}

func TestP93EachRuleIsValidWithSomeLinks(t *testing.T) {
	one, many := 0, 0
	everyResult(t, func(r result) {
		for _, made := range r.done.Rules {
			if !impl.RuleOk(r.rank, made) || !ruleOkBy(r.rank, made.L, made.R) {
				t.Fatalf("%s by %v", ruleText(made), r.rank)
			}
			switch number := len(made.Why); {
			case number < 1 || number > impl.ProofMax:
				t.Fatalf("%s", ruleText(made))
			case number == 1:
				one++
			default:
				many++
			}
		}
	})
	if one < 500 || many < 500 {
		t.Errorf("%d rules have one link, %d have more", one, many)
	}
}
