package tests

import (
	"slices"
	"testing"

	"loop.example/tipstaff/impl"
)

func TestSomeRules(t *testing.T) {
	x0, x1, x2 := variable(0), variable(1), variable(2)
	list := []struct {
		name string
		l, r impl.Term
		ok   bool
	}{
		{"an argument", f(x0, a()), x0, true},
		{"no variable", b(), a(), true},
		{"the right side has fewer variables", f(x0, x1), x1, true},
		{"the right side has them in another order", f(f(x0, x1), x2), f(x1, x0), true},
		{"a repeated variable", f(x0, f(x1, x0)), f(x0, x1), true},
		{"not greater", f(x0, f(x1, x2)), f(f(x0, x1), x2), false},
		{"smaller", a(), b(), false},
		{"neither greater nor smaller", f(x0, x1), f(x1, x0), false},
		{"a variable", x0, a(), false},
		{"equal sides", g(x0), g(x0), false},
		{"equal variables", x0, x0, false},
		{"equal symbols", b(), b(), false},
		{"a further variable", f(x0, a()), x1, false},
		{"a further variable beside", f(x0, x1), g(x2), false},
		{"a gap at the start", f(x1, a()), x1, false},
		{"a gap", f(x0, x2), x0, false},
		{"a gap far up", g(variable(11)), a(), false},
		{"another order", f(x1, x0), x0, false},
		{"another order behind", f(x0, f(x2, x1)), x0, false},
		{"a right side in the order of its own", f(f(x1, x0), a()), f(x0, x1), false},
		{"half of TermVar variables", comb(6), x0, true},
		{"half of TermVar variables, repeated", f(comb(6), x0), f(variable(5), a()), true},
		{"one more", comb(7), x0, false},
		{"one more, and fewer on the right side", f(comb(7), a()), a(), false},
		{"two more", comb(8), variable(7), false},
		{"the largest terms", chain(15, b()), chain(15, a()), true},
	}
	for _, c := range list {
		for _, why := range [][]impl.Link{nil, {self(0, 1)}, oddLinks()} {
			if impl.RuleOk(rankOf("fgba"), rule(c.l, c.r, why...)) != c.ok {
				t.Errorf("%s: %v", c.name, !c.ok)
			}
		}
	}
}

func TestRulesOfAllKinds(t *testing.T) {
	terms := slices.Concat(termsOfSize(3, []impl.Term{variable(0), variable(1), variable(2), a(), b()})...)
	for _, rank := range someRankings() {
		good := 0
		for _, l := range terms {
			for _, r := range terms {
				want := ruleOkBy(rank, l, r)
				if impl.RuleOk(rank, rule(l, r)) != want {
					t.Fatalf("%v to %v by %v: %v", l, r, rank, !want)
				}
				if want {
					good++
				}
			}
		}
		if good < 50 {
			t.Errorf("only %d rules are valid by %v", good, rank)
		}
	}
}

func TestLargeRules(t *testing.T) {
	for _, rank := range rankings() {
		for _, l := range largeOrderTerms() {
			for _, r := range append(largeOrderTerms(), a(), variable(0)) {
				if impl.RuleOk(rank, rule(l, r)) != ruleOkBy(rank, l, r) {
					t.Fatalf("%v to %v by %v", l, r, rank)
				}
			}
		}
	}
}

func TestRulesByBadRankingsAreRefused(t *testing.T) {
	for _, bad := range badRanks() {
		t.Run(bad.name, func(t *testing.T) {
			for _, s := range goodSystems() {
				for _, r := range s.rules {
					if impl.RuleOk(bad.rank, r) || impl.RulesOk(s.eqs, bad.rank, []impl.Rule{r}) {
						t.Fatalf("%v", r)
					}
				}
			}
			// By its words, RulesOk asks for a ranking only to check rules.
			if !impl.RulesOk(nil, bad.rank, nil) {
				t.Error("no rule is not valid")
			}
		})
	}
}

func TestBadTermsAreNoRules(t *testing.T) {
	eqs := []impl.Eq{eq(b(), a())}
	good := rule(b(), a(), self(0, 0))
	for _, bad := range badTerms() {
		t.Run(bad.name, func(t *testing.T) {
			for _, r := range []impl.Rule{rule(bad.term, a()), rule(b(), bad.term), rule(bad.term, bad.term), rule(f(bad.term, a()), a())} {
				if impl.RuleOk(rankOf("fgba"), r) {
					t.Fatal("RuleOk")
				}
				for i := range impl.RuleMax {
					rules := slices.Repeat([]impl.Rule{good}, impl.RuleMax)
					rules[i] = r
					if impl.RulesOk(eqs, rankOf("fgba"), rules) || impl.RulesOk(eqs, rankOf("fgba"), rules[:i+1]) {
						t.Fatalf("RulesOk at %d", i)
					}
					mustStop(t, rules, b())
					mustStop(t, rules[:i+1], b())
					mustStop(t, rules, variable(3))
				}
			}
		})
	}
}

func TestBadTermsAreNotRewritten(t *testing.T) {
	for _, bad := range badTerms() {
		t.Run(bad.name, func(t *testing.T) {
			for _, rules := range append(ruleLists(), nil) {
				mustStop(t, rules, bad.term)
				mustStop(t, rules, f(b(), bad.term))
			}
		})
	}
}

func TestNumberOfRules(t *testing.T) {
	eqs := []impl.Eq{eq(b(), a())}
	good := rule(b(), a(), self(0, 0))
	for number := range impl.RuleMax + 1 {
		rules := slices.Repeat([]impl.Rule{good}, number)
		if !impl.RulesOk(eqs, rankOf("fgba"), rules) {
			t.Errorf("%d rules are valid", number)
		}
		got, why, ok := impl.NormOf(rules, g(a()))
		mustRewrite(t, got, why, ok, g(a()), nil)
	}
	for _, number := range []int{impl.RuleMax + 1, impl.RuleMax + 2, 100000} {
		rules := slices.Repeat([]impl.Rule{good}, number)
		if impl.RulesOk(eqs, rankOf("fgba"), rules) {
			t.Errorf("%d rules", number)
		}
		mustStop(t, rules, b())
		mustStop(t, rules, a())
	}
}

func TestRulesOfSystemsAreOk(t *testing.T) {
	for i, s := range goodSystems() {
		if !impl.RulesOk(s.eqs, s.rank, s.rules) {
			t.Errorf("system %d", i)
		}
	}
	if !impl.RulesOk(nil, rankOf("fgba"), nil) || !impl.RulesOk([]impl.Eq{}, rankOf("fgba"), []impl.Rule{}) {
		t.Error("no rule is valid")
	}
}

func TestRulesOfBadEquationsAreRefused(t *testing.T) {
	tooMany := slices.Repeat([]impl.Eq{eq(b(), a())}, impl.EqMax+1)
	if impl.RulesOk(tooMany, rankOf("fgba"), nil) || impl.RulesOk(tooMany, rankOf("fgba"), []impl.Rule{rule(b(), a(), self(0, 0))}) {
		t.Error("too many equations")
	}
	for _, bad := range badTerms() {
		t.Run(bad.name, func(t *testing.T) {
			for _, e := range []impl.Eq{eq(bad.term, a()), eq(a(), bad.term)} {
				eqs := []impl.Eq{eq(b(), a()), e}
				if impl.RulesOk(eqs, rankOf("fgba"), nil) || impl.RulesOk(eqs, rankOf("fgba"), []impl.Rule{rule(b(), a(), self(0, 0))}) {
					t.Fatal("RulesOk")
				}
			}
		})
	}
}

func TestProofsOfRules(t *testing.T) {
	x0, x1 := variable(0), variable(1)
	eqs := []impl.Eq{eq(b(), g(a())), eq(g(a()), a()), eq(f(x0, b()), x0), eq(f(x0, x1), f(x1, x0)), eq(g(x0), chain(14, x0))}
	down := []impl.Link{self(0, 0), self(1, 0)}
	list := []struct {
		name string
		rule impl.Rule
		ok   bool
	}{
		{"two links", rule(b(), a(), down...), true},
		{"one link", rule(f(x0, b()), x0, self(2, 1)), true},
		{"a link with more binds", rule(f(x0, b()), x0, self(2, 9)), true},
		{"a large term that does not count", rule(b(), a(), at(0, false, nil, bind(3, chain(63, a()))), self(1, 0)), true},
		{"through a large term", rule(g(a()), a(), self(4, 0), at(1, false, placeOfDepth(13)), at(0, true, placeOfDepth(13))), false},
		{"through a large term and back", rule(g(b()), a(), at(4, false, nil, bind(0, b())), at(4, false, []int{0}, bind(0, chain(12, b()))), at(4, true, []int{0}, bind(0, chain(12, b()))), at(4, true, nil, bind(0, b())), self(0, 0, 0), self(1, 0, 0), self(1, 0)), true},
		{"ProofMax-2 links", rule(b(), a(), longer(down, impl.ProofMax-4)...), true},
		{"ProofMax links", rule(b(), a(), longer(down, impl.ProofMax-2)...), true},
		{"two links too many", rule(b(), a(), longer(down, impl.ProofMax)...), false},
		{"ProofMax-1 links", rule(g(a()), a(), longer(down[1:], impl.ProofMax-2)...), true},
		{"one link too many", rule(g(a()), a(), longer(down[1:], impl.ProofMax)...), false},
		{"very many links", rule(g(a()), a(), longer(down[1:], 100000)...), false},
		{"no link", rule(b(), a()), false},
		{"elsewhere", rule(b(), a(), down[0]), false},
		{"elsewhere from the middle", rule(f(x0, b()), x0, self(2, 1), turned(self(2, 1))), false},
		{"to another variable", rule(f(f(x0, x1), b()), x0, at(2, false, nil, bind(0, f(x0, x1)))), false},
		{"nowhere", rule(b(), a(), down[1]), false},
		{"nowhere at the end", rule(b(), a(), down[0], down[1], down[1]), false},
		{"no such equation", rule(b(), a(), self(5, 0)), false},
		{"no such place", rule(b(), a(), self(0, 0, 0), down[1]), false},
		{"a term too large for a proof", rule(b(), a(), at(0, false, nil, bind(3, chain(64, a()))), self(1, 0)), false},
		{"a proof of the reverse", rule(b(), a(), turned(down[1]), turned(down[0])), false},
		{"a rule that is not valid", rule(f(x0, x1), f(x1, x0), self(3, 2)), false},
		{"equal sides without a link", rule(b(), b()), false},
	}
	for _, c := range list {
		if impl.RulesOk(eqs, rankOf("fgba"), []impl.Rule{c.rule}) != c.ok {
			t.Errorf("%s: %v", c.name, !c.ok)
		}
		other := rule(b(), a(), down...)
		for _, rules := range [][]impl.Rule{{c.rule, other}, {other, c.rule}, {other, c.rule, other}} {
			if impl.RulesOk(eqs, rankOf("fgba"), rules) != c.ok {
				t.Errorf("%s, beside another rule: %v", c.name, !c.ok)
			}
		}
	}
}

func TestSomeSteps(t *testing.T) {
	x0, x1, x3, x7 := variable(0), variable(1), variable(3), variable(7)
	why := []impl.Link{at(2, true, []int{1}, bind(0, x1), bind(4, f(x0, x3)))}
	unit := rule(f(x0, a()), x0, why...)
	list := []struct {
		name  string
		rules []impl.Rule
		from  impl.Term
		to    impl.Term
		why   []impl.Link
	}{
		{"at the root", []impl.Rule{unit}, f(b(), a()), b(), []impl.Link{at(2, true, []int{1}, bind(0, x1), bind(4, f(b(), x3)))}},
		{"below", []impl.Rule{unit}, g(f(x3, f(x7, a()))), g(f(x3, x7)), []impl.Link{at(2, true, []int{0, 1, 1}, bind(0, x1), bind(4, f(x7, x3)))}},
		{"the root before below", []impl.Rule{unit}, f(f(b(), a()), a()), f(b(), a()), []impl.Link{at(2, true, []int{1}, bind(0, x1), bind(4, f(f(b(), a()), x3)))}},
		{"the first argument before the second", []impl.Rule{unit}, f(f(x3, a()), f(x7, a())), f(x3, f(x7, a())), []impl.Link{at(2, true, []int{0, 1}, bind(0, x1), bind(4, f(x3, x3)))}},
		{"a deep first argument before the second", []impl.Rule{unit}, f(chain(4, f(x3, a())), f(x7, a())), f(chain(4, x3), f(x7, a())), []impl.Link{at(2, true, []int{0, 0, 0, 0, 0, 1}, bind(0, x1), bind(4, f(x3, x3)))}},
		{"the position before the rule", []impl.Rule{rule(b(), a(), why[0], why[0]), rule(g(x0), x0)}, g(b()), b(), nil},
		{"the first rule at a position", []impl.Rule{rule(g(x0), x0), rule(g(b()), a(), why...)}, g(b()), b(), nil},
		{"the first rule at a position, exchanged", []impl.Rule{rule(g(b()), a()), rule(g(x0), x0, why...)}, g(b()), a(), nil},
		{"not the first rule", []impl.Rule{rule(g(a()), a(), why...), rule(g(b()), a()), rule(g(x0), x0, why...)}, g(b()), a(), nil},
		{"a repeated variable", []impl.Rule{rule(f(x0, x0), x0), rule(f(x0, x1), x1)}, f(g(x1), g(x1)), g(x1), nil},
		{"a repeated variable that differs", []impl.Rule{rule(f(x0, x0), x0), rule(f(x0, x1), b())}, f(g(x1), g(x0)), b(), nil},
		{"a repeated variable below", []impl.Rule{rule(f(x0, x0), x0)}, f(f(x3, x3), f(x7, x7)), f(x3, f(x7, x7)), nil},
		{"a further variable on the right side", []impl.Rule{rule(g(x0), f(x0, x3))}, g(x7), f(x7, x3), nil},
		{"a further variable that the term has", []impl.Rule{rule(f(x0, a()), f(x1, x0))}, f(g(x1), a()), f(x1, g(x1)), nil},
		{"variables of the term stay", []impl.Rule{rule(f(x0, x1), f(x1, x0))}, f(x1, g(x0)), f(g(x0), x1), nil},
		{"a variable as left side", []impl.Rule{rule(x0, g(x0))}, f(a(), b()), g(f(a(), b())), nil},
		{"no difference", []impl.Rule{rule(a(), a(), why...)}, g(a()), g(a()), []impl.Link{at(2, true, []int{0, 1}, bind(0, x1), bind(4, f(x0, x3)))}},
		{"to the largest size", []impl.Rule{rule(a(), g(a()))}, chain(14, a()), chain(15, a()), nil},
		{"a rule that is too large elsewhere", []impl.Rule{rule(g(x0), x0), rule(a(), chain(15, a()))}, chain(15, a()), chain(14, a()), nil},
	}
	for _, c := range list {
		t.Run(c.name, func(t *testing.T) {
			got, why, ok := impl.RuleStep(c.rules, c.from)
			mustRewrite(t, got, why, ok, c.to, c.why)
		})
	}
}

func TestStepsThatAreTooLarge(t *testing.T) {
	x0, x1 := variable(0), variable(1)
	list := []struct {
		name  string
		rules []impl.Rule
		from  impl.Term
	}{
		{"by one", []impl.Rule{rule(a(), g(a()))}, chain(15, a())},
		{"by many", []impl.Rule{rule(g(x0), comb(8))}, chain(15, a())},
		{"by what is put in", []impl.Rule{rule(g(x0), f(x0, f(x0, x0)))}, chain(7, b())},
		{"though the next rule is small", []impl.Rule{rule(a(), g(a())), rule(a(), b())}, chain(15, a())},
		{"though the next position is small", []impl.Rule{rule(g(x0), f(g(x0), x0)), rule(a(), b())}, chain(9, a())},
		{"far too large", []impl.Rule{rule(f(x0, x1), f(f(f(x0, x0), f(x0, x0)), f(f(x0, x0), f(x0, x0))))}, f(chain(14, a()), b())},
	}
	for _, c := range list {
		t.Run(c.name, func(t *testing.T) {
			mustStop(t, c.rules, c.from)
		})
	}
}

func TestStepsOfAllKinds(t *testing.T) {
	done, large := 0, 0
	eachRewrite(func(rules []impl.Rule, x impl.Term) {
		want, links, okWant, big := stepBy(rules, x)
		got, why, ok := impl.RuleStep(rules, x)
		if okWant {
			done++
			mustRewrite(t, got, why, ok, want, links)
			return
		}
		if big {
			large++
		}
		mustNotRewrite(t, got, why, ok)
	})
	if done < 1000 || large < 10 {
		t.Errorf("%d steps were done, and %d were too large", done, large)
	}
}

func TestNormalFormsOfAllKinds(t *testing.T) {
	done, failed := 0, 0
	eachRewrite(func(rules []impl.Rule, x impl.Term) {
		want, links, okWant := normBy(rules, x)
		got, why, ok := impl.NormOf(rules, x)
		if okWant {
			done++
			mustRewrite(t, got, why, ok, want, links)
			return
		}
		failed++
		mustNotRewrite(t, got, why, ok)
	})
	if done < 1000 || failed < 100 {
		t.Errorf("%d terms have a normal form, and %d have none", done, failed)
	}
}

func TestP62RuleDecreasesTerms(t *testing.T) {
	terms := slices.Concat(termsOfSize(3, []impl.Term{variable(0), variable(1), a(), b()})...)
	for _, rank := range rankings() {
		for _, l := range terms {
			for _, r := range terms {
				if !impl.RuleOk(rank, rule(l, r)) {
					continue
				}
				if !impl.OrderMore(rank, l, r) || impl.OrderMore(rank, r, l) || impl.RuleOk(rank, rule(r, l)) {
					t.Fatalf("%v to %v by %v does not decrease", l, r, rank)
				}
				for _, v := range varsBelow(r, nil) {
					if !slices.Contains(varsBelow(l, nil), v) {
						t.Fatalf("%v to %v by %v has a further variable", l, r, rank)
					}
				}
			}
		}
	}
}

func TestP62StepByValidRulesDecreasesTerms(t *testing.T) {
	done := 0
	for _, s := range goodSystems() {
		for _, x := range ruleTerms() {
			next, _, ok := impl.RuleStep(s.rules, x)
			if !ok {
				continue
			}
			done++
			if !impl.OrderMore(s.rank, x, next) || impl.OrderMore(s.rank, next, x) {
				t.Fatalf("%v to %v by %v", x, next, s.rank)
			}
		}
	}
	if done < 300 {
		t.Errorf("only %d steps were done", done)
	}
}

func TestP63RulesStayValidWithoutOne(t *testing.T) {
	for _, s := range goodSystems() {
		for i := range s.rules {
			rest := slices.Delete(slices.Clone(s.rules), i, i+1)
			if !impl.RulesOk(s.eqs, s.rank, rest) {
				t.Errorf("%v without %d", s.rules, i)
			}
		}
	}
}

func TestP63EachRuleFollows(t *testing.T) {
	for _, s := range goodSystems() {
		for _, r := range s.rules {
			end, ok := impl.ProofEnd(s.eqs, r.L, r.Why)
			mustTerm(t, end, ok, r.R)
			for _, wrong := range []impl.Rule{rule(r.L, r.R), rule(r.L, r.R, r.Why[:len(r.Why)-1]...), rule(r.L, r.R, turned(r.Why[0]))} {
				if impl.RulesOk(s.eqs, s.rank, []impl.Rule{wrong}) || impl.RulesOk(s.eqs, s.rank, []impl.Rule{r, wrong}) {
					t.Errorf("%v follows", wrong)
				}
			}
			if impl.RulesOk(nil, s.rank, []impl.Rule{r}) {
				t.Errorf("%v follows from nothing", r)
			}
		}
	}
}

func TestP64WithoutRulesThereIsNoStep(t *testing.T) {
	for _, x := range ruleTerms() {
		for _, rules := range [][]impl.Rule{nil, {}} {
			got, why, ok := impl.RuleStep(rules, x)
			mustNotRewrite(t, got, why, ok)
			got, why, ok = impl.NormOf(rules, x)
			mustRewrite(t, got, why, ok, x, nil)
		}
	}
}

// The rules before and at the positions before the one of a step match
// nothing; at a step the rules behind do not matter.
func TestP65StepIsAtTheFirstPositionByTheFirstRule(t *testing.T) {
	eachRewrite(func(rules []impl.Rule, x impl.Term) {
		got, why, ok := impl.RuleStep(rules, x)
		for _, place := range impl.TermPlaces(x) {
			part, _ := impl.TermAt(x, place)
			for _, r := range rules {
				s, matches := impl.MatchOf(r.L, part)
				if !matches {
					continue
				}
				want, fits := impl.TermPut(x, place, applied(s, r.R))
				if !fits {
					mustNotRewrite(t, got, why, ok)
					return
				}
				mustRewrite(t, got, why, ok, want, impl.ProofUnder(r.Why, place, s))
				return
			}
		}
		mustNotRewrite(t, got, why, ok)
	})
}

func matchesRoot(rules []impl.Rule, x impl.Term) bool {
	return slices.ContainsFunc(rules, func(r impl.Rule) bool {
		_, ok := matchBy(r.L, x)
		return ok
	})
}

func TestP66FirstStepBelowIsTheFirstStep(t *testing.T) {
	done := 0
	eachRewrite(func(rules []impl.Rule, x impl.Term) {
		if matchesRoot(rules, x) {
			return
		}
		got, why, ok := impl.RuleStep(rules, x)
		for i, kid := range x.Kids {
			if next, links, okKid := impl.RuleStep(rules, kid); okKid {
				whole := withPart(x, []int{i}, next)
				if countParts(whole) > impl.TermMax {
					mustNotRewrite(t, got, why, ok)
				} else {
					done++
					mustRewrite(t, got, why, ok, whole, impl.ProofUnder(links, []int{i}, nil))
				}
				return
			}
			if _, _, _, big := stepBy(rules, kid); big {
				mustNotRewrite(t, got, why, ok)
				return
			}
		}
		mustNotRewrite(t, got, why, ok)
	})
	if done < 500 {
		t.Errorf("only %d steps were done below", done)
	}
}

func TestP67ProofOfAStepIsAsLongAsThatOfARule(t *testing.T) {
	eachRewrite(func(rules []impl.Rule, x impl.Term) {
		_, why, ok := impl.RuleStep(rules, x)
		if ok && !slices.ContainsFunc(rules, func(r impl.Rule) bool { return len(r.Why) == len(why) }) {
			t.Fatalf("%d links from %v by %v", len(why), x, rules)
		}
	})
}

func TestProofsOfStepsOfAnyLength(t *testing.T) {
	for _, number := range []int{0, 1, 2, 7, impl.ProofMax - 1, impl.ProofMax, impl.ProofMax + 1, 1000} {
		links := slices.Repeat([]impl.Link{at(4, true, []int{1}, bind(2, g(variable(0))))}, number)
		rules := []impl.Rule{rule(g(variable(0)), variable(0), links...)}
		got, why, ok := impl.RuleStep(rules, f(a(), g(b())))
		want := impl.ProofUnder(links, []int{1}, []impl.Bind{bind(0, b())})
		mustRewrite(t, got, why, ok, f(a(), b()), want)
		got, why, ok = impl.NormOf(rules, f(a(), g(b())))
		if number > impl.ProofMax {
			mustNotRewrite(t, got, why, ok)
		} else {
			mustRewrite(t, got, why, ok, f(a(), b()), want)
		}
	}
}

// The terms of Why are no terms of a rule: ProofUnder takes all of them.
func TestProofsOfStepsWithOddLinks(t *testing.T) {
	rules := []impl.Rule{rule(b(), a(), oddLinks()...), rule(g(variable(0)), variable(0))}
	got, why, ok := impl.RuleStep(rules, f(a(), b()))
	mustRewrite(t, got, why, ok, f(a(), a()), impl.ProofUnder(oddLinks(), []int{1}, nil))
	got, why, ok = impl.RuleStep(rules, g(a()))
	mustRewrite(t, got, why, ok, a(), nil)
	got, why, ok = impl.NormOf(rules, g(g(a())))
	mustRewrite(t, got, why, ok, a(), nil)
	for _, bad := range badProofTerms() {
		t.Run(bad.name, func(t *testing.T) {
			rules := []impl.Rule{rule(b(), a(), at(0, false, nil, bind(0, bad.term)))}
			got, why, ok := impl.RuleStep(rules, g(b()))
			mustTerm(t, got, ok, g(a()))
			if len(why) != 1 || len(why[0].Subst) != 1 {
				t.Fatalf("%d links", len(why))
			}
			mustRefuse(t, []impl.Eq{eq(b(), a())}, g(b()), why[0])
			if impl.RulesOk([]impl.Eq{eq(b(), a())}, rankOf("fgba"), rules) {
				t.Fatal("RulesOk")
			}
		})
	}
}

// eachNorm calls do with terms that have a normal form.
func eachNorm(t *testing.T, do func(rules []impl.Rule, x, norm impl.Term, why []impl.Link)) {
	t.Helper()
	done := 0
	eachRewrite(func(rules []impl.Rule, x impl.Term) {
		if norm, why, ok := impl.NormOf(rules, x); ok {
			done++
			do(rules, x, norm, why)
		}
	})
	if done < 1000 {
		t.Errorf("only %d terms have a normal form", done)
	}
}

func TestP68NoLeftSideMatchesANormalForm(t *testing.T) {
	eachNorm(t, func(rules []impl.Rule, x, norm impl.Term, why []impl.Link) {
		for _, place := range placesBelow(norm) {
			if matchesRoot(rules, partAt(norm, place)) {
				t.Fatalf("%v, of %v, by %v", norm, x, rules)
			}
		}
		got, links, ok := impl.RuleStep(rules, norm)
		mustNotRewrite(t, got, links, ok)
	})
}

func TestP69NormOfIsIdempotent(t *testing.T) {
	eachNorm(t, func(rules []impl.Rule, x, norm impl.Term, why []impl.Link) {
		got, links, ok := impl.NormOf(rules, norm)
		mustRewrite(t, got, links, ok, norm, nil)
	})
}

func TestP70NormOfIsAStepAndNormOf(t *testing.T) {
	steps := 0
	eachNorm(t, func(rules []impl.Rule, x, norm impl.Term, why []impl.Link) {
		next, first, ok := impl.RuleStep(rules, x)
		if !ok {
			mustRewrite(t, norm, why, true, x, nil)
			return
		}
		steps++
		got, rest, ok := impl.NormOf(rules, next)
		mustRewrite(t, got, slices.Concat(first, rest), ok, norm, why)
	})
	if steps < 500 {
		t.Errorf("only %d terms have a step", steps)
	}
}

func TestP71ArgumentsOfANormalFormAreNormalForms(t *testing.T) {
	eachNorm(t, func(rules []impl.Rule, x, norm impl.Term, why []impl.Link) {
		for _, kid := range norm.Kids {
			got, links, ok := impl.NormOf(rules, kid)
			mustRewrite(t, got, links, ok, kid, nil)
		}
	})
}

func TestProofOfANormalFormLeadsThere(t *testing.T) {
	for _, s := range goodSystems() {
		for _, x := range ruleTerms() {
			if norm, why, ok := impl.NormOf(s.rules, x); ok {
				end, ok := impl.ProofEnd(s.eqs, x, why)
				mustTerm(t, end, ok, norm)
			}
		}
	}
}

func TestNumberOfSteps(t *testing.T) {
	list := []struct{ fs, gs, bs int }{{0, 0, 0}, {0, 0, 1}, {1, 1, 1}, {3, 4, 0}, {3, 9, 0}, {4, 7, 0}, {3, 9, 1}, {4, 7, 1}, {3, 9, 2}, {4, 7, 2}, {3, 9, 3}, {4, 7, 3}, {4, 7, 5}}
	for _, c := range list {
		x, steps := word(c.fs, c.gs, c.bs), c.fs*c.gs+c.bs
		s := sorter(1, 1)
		next, count := x, 0
		for {
			after, _, ok := impl.RuleStep(s.rules, next)
			if !ok {
				break
			}
			next, count = after, count+1
		}
		if count != steps {
			t.Fatalf("%d steps, want %d", count, steps)
		}
		got, why, ok := impl.NormOf(s.rules, x)
		if steps < impl.StepsMax {
			mustTerm(t, got, ok, next)
			if len(why) != steps {
				t.Errorf("%d links, want %d", len(why), steps)
			}
		} else {
			mustNotRewrite(t, got, why, ok)
		}
	}
}

func TestStepsWithoutProofsAreCounted(t *testing.T) {
	s := sorter(1, 1)
	bare := []impl.Rule{rule(s.rules[0].L, s.rules[0].R), rule(s.rules[1].L, s.rules[1].R)}
	want, _, ok := impl.NormOf(s.rules, word(4, 7, 1))
	if !ok {
		t.Fatal("StepsMax-1 steps")
	}
	got, why, ok := impl.NormOf(bare, word(4, 7, 1))
	mustRewrite(t, got, why, ok, want, nil)
	got, why, ok = impl.NormOf(bare, word(4, 7, 2))
	mustNotRewrite(t, got, why, ok)
}

func TestRulesThatGoRoundHaveNoNormalForm(t *testing.T) {
	x0, x1 := variable(0), variable(1)
	list := []struct {
		rules []impl.Rule
		from  impl.Term
		to    impl.Term
	}{
		{[]impl.Rule{rule(a(), a())}, a(), a()},
		{[]impl.Rule{rule(a(), b()), rule(b(), a())}, g(a()), g(b())},
		{[]impl.Rule{rule(f(x0, x1), f(x1, x0))}, f(a(), b()), f(b(), a())},
		{[]impl.Rule{rule(x0, x0)}, g(x1), g(x1)},
		{[]impl.Rule{rule(x0, x1)}, g(a()), x1},
		{[]impl.Rule{rule(g(g(x0)), g(x0)), rule(g(x0), g(g(x0)))}, g(b()), g(g(b()))},
		{[]impl.Rule{rule(a(), g(a()))}, a(), g(a())},
	}
	for i, c := range list {
		got, why, ok := impl.RuleStep(c.rules, c.from)
		mustRewrite(t, got, why, ok, c.to, nil)
		got, why, ok = impl.NormOf(c.rules, c.from)
		if ok {
			t.Errorf("rules %d: %v", i, got)
		}
		mustNotRewrite(t, got, why, ok)
	}
	got, why, ok := impl.NormOf(list[1].rules, g(x0))
	mustRewrite(t, got, why, ok, g(x0), nil)
}

func TestNumberOfLinks(t *testing.T) {
	list := []struct{ swap, leaf, fs, gs, bs int }{
		{3, 1, 3, 4, 3}, {3, 1, 3, 4, 4}, {3, 1, 4, 3, 4}, {3, 1, 4, 3, 5},
		{1, 3, 4, 7, 0}, {1, 3, 4, 7, 1}, {5, 1, 2, 4, 0}, {5, 1, 2, 4, 1},
		{1, 39, 1, 1, 1}, {1, 39, 1, 2, 1}, {1, 41, 0, 0, 1}, {1, 41, 2, 2, 0},
		{39, 1, 1, 1, 1}, {39, 1, 1, 1, 2}, {39, 1, 1, 2, 0}, {1, 40001, 2, 2, 1},
	}
	for _, c := range list {
		s, x := sorter(c.swap, c.leaf), word(c.fs, c.gs, c.bs)
		links := c.swap*c.fs*c.gs + c.leaf*c.bs
		got, why, ok := impl.NormOf(s.rules, x)
		if links > impl.ProofMax {
			mustNotRewrite(t, got, why, ok)
			continue
		}
		if !ok || len(why) != links {
			t.Errorf("%v: %d links, %v; want %d", c, len(why), ok, links)
		}
		end, ok := impl.ProofEnd(s.eqs, x, why)
		mustTerm(t, end, ok, got)
	}
}

func TestRuleArgumentsStayUnchanged(t *testing.T) {
	for _, s := range goodSystems() {
		eqs, rank, rules := copyEqs(s.eqs), slices.Clone(s.rank), copyRules(s.rules)
		for _, x := range ruleTerms() {
			old := copyTerm(x)
			impl.RuleStep(s.rules, x)
			impl.NormOf(s.rules, x)
			if !sameTerm(x, old) {
				t.Fatalf("%v became %v", old, x)
			}
		}
		impl.RulesOk(s.eqs, s.rank, s.rules)
		for _, r := range s.rules {
			impl.RuleOk(s.rank, r)
		}
		if !sameEqs(s.eqs, eqs) || !slices.Equal(s.rank, rank) || !sameRules(s.rules, rules) {
			t.Fatalf("an argument was changed: %v", rules)
		}
	}
}

func TestRoomBehindRulesStaysUnchanged(t *testing.T) {
	links := []impl.Link{self(0, 0, 0), self(1, 1), self(2, 2)}
	rules := []impl.Rule{{L: b(), R: a(), Why: links[:1]}, rule(a(), b()), rule(a(), g(a()))}
	old, oldLinks := copyRules(rules), copyLinks(links)
	for range 2 {
		impl.RuleStep(rules[:1], f(b(), b()))
		impl.NormOf(rules[:1], f(b(), f(b(), b())))
		impl.RulesOk([]impl.Eq{eq(b(), a())}, rankOf("fgba"), rules[:1])
	}
	if !sameRules(rules, old) || !sameLinks(links, oldLinks) {
		t.Errorf("%v, %v", rules, links)
	}
}

func TestRuleResultsShareNoMemory(t *testing.T) {
	for _, s := range goodSystems() {
		for _, x := range ruleTerms() {
			rules, from := copyRules(s.rules), copyTerm(x)
			memory := newProofMemory()
			memory.addRules(t, rules)
			addMemory(t, memory.terms, from)
			for range 2 {
				next, why, _ := impl.RuleStep(rules, from)
				addMemory(t, memory.terms, next)
				memory.addLinks(t, why)
				norm, why, _ := impl.NormOf(rules, from)
				addMemory(t, memory.terms, norm)
				memory.addLinks(t, why)
			}
		}
	}
}

func TestSharedPartsAreNotSharedInSteps(t *testing.T) {
	x0, x1 := variable(0), variable(1)
	part := g(variable(3))
	place := []int{1}
	link := at(0, false, place, bind(0, f(x0, x0)), bind(1, x1))
	rules := []impl.Rule{rule(g(f(x0, x1)), f(f(x0, x1), f(x1, x1)), link, link)}
	memory := newProofMemory()
	next, why, ok := impl.RuleStep(rules, f(g(f(b(), part)), part))
	if !ok || !sameTerm(next, f(f(f(b(), part), f(part, part)), part)) {
		t.Fatalf("%v, %v", next, ok)
	}
	addMemory(t, memory.terms, next)
	memory.addLinks(t, why)
	norm, why, ok := impl.NormOf(rules, f(g(f(b(), a())), g(f(b(), a()))))
	if !ok || len(why) != 4 {
		t.Fatalf("%v, %v", norm, ok)
	}
	addMemory(t, memory.terms, norm)
	memory.addLinks(t, why)
}

func TestRulesKeepNothingBetweenCalls(t *testing.T) {
	first := sorter(1, 1)
	want, links, ok := impl.NormOf(first.rules, word(3, 3, 2))
	if !ok {
		t.Fatal("no normal form")
	}
	for _, rules := range ruleLists() {
		impl.NormOf(rules, word(3, 3, 2))
		impl.RuleStep(rules, word(3, 3, 2))
		got, why, ok := impl.NormOf(first.rules, word(3, 3, 2))
		mustRewrite(t, got, why, ok, want, links)
	}
}
