package tests

import (
	"slices"
	"testing"

	"loop.example/tipstaff/impl"
)

func TestAllOfSomeRules(t *testing.T) {
	x0, x1, x2 := variable(0), variable(1), variable(2)
	flat := rule(f(f(x0, x1), x2), f(x0, f(x1, x2)))
	unit, other := rule(f(x0, a()), x0), rule(f(a(), x0), x0)
	list := []struct {
		name  string
		rules []impl.Rule
		want  bool
	}{
		{"no rule", nil, true},
		{"an empty list", []impl.Rule{}, true},
		{"no pair", []impl.Rule{unit}, true},
		{"a pair of a rule with itself meets", []impl.Rule{flat}, true},
		{"a pair of a rule with itself does not meet", []impl.Rule{rule(f(f(x0, x1), x2), f(x2, x0))}, false},
		{"a pair of the first with the second does not meet", []impl.Rule{rule(g(f(x0, x0)), x0), rule(f(b(), b()), b())}, false},
		{"a pair of the second with the first does not meet", []impl.Rule{rule(f(b(), b()), b()), rule(g(f(x0, x0)), x0)}, false},
		{"both have a pair that meets", []impl.Rule{rule(g(f(x0, x0)), x0), rule(f(b(), b()), b()), rule(g(b()), b())}, true},
		{"one of two units", []impl.Rule{flat, unit}, false},
		{"both units", []impl.Rule{flat, unit, other}, true},
		{"both units, first", []impl.Rule{other, unit, flat}, true},
		{"other right sides", []impl.Rule{rule(g(x0), x0), rule(g(x0), a())}, false},
		{"the same rule twice", []impl.Rule{flat, flat}, true},
		{"as many rules as may be", slices.Repeat([]impl.Rule{flat}, impl.RuleMax), true},
		{"too many rules", slices.Repeat([]impl.Rule{flat}, impl.RuleMax+1), false},
		{"too many rules without pairs", slices.Repeat([]impl.Rule{rule(b(), a())}, impl.RuleMax+1), false},
		{"very many rules", slices.Repeat([]impl.Rule{rule(b(), a())}, 100000), false},
		{"a pair has no normal form", []impl.Rule{rule(g(g(x0)), x0), rule(g(x0), g(x0))}, false},
		{"what goes round, but has no pair", []impl.Rule{rule(a(), b()), rule(b(), a())}, true},
		{"left sides that are not plain", []impl.Rule{rule(g(x1), x1), rule(g(x2), a())}, true},
		{"a left side that is a variable", []impl.Rule{rule(x0, a()), rule(x0, b())}, true},
		{"a pair that is too large is none", []impl.Rule{rule(chain(9, x0), x0)}, true},
	}
	for _, c := range list {
		if impl.AskAll(c.rules) != c.want {
			t.Errorf("%s: %v", c.name, !c.want)
		}
	}
}

func TestAllOfBadTerms(t *testing.T) {
	good := rule(f(variable(0), a()), variable(0))
	for _, bad := range badTerms() {
		t.Run(bad.name, func(t *testing.T) {
			for _, r := range []impl.Rule{rule(bad.term, a()), rule(b(), bad.term), rule(bad.term, bad.term), rule(f(a(), bad.term), a())} {
				for i := range impl.RuleMax {
					rules := slices.Repeat([]impl.Rule{good}, impl.RuleMax)
					rules[i] = r
					if impl.AskAll(rules) || impl.AskAll(rules[:i+1]) {
						t.Fatalf("at %d", i)
					}
				}
			}
		})
	}
}

// askLists are rules that were made, and others.
func askLists() [][]impl.Rule {
	list := append(ruleLists(), nil)
	for _, r := range results() {
		if len(r.done.Rules) > 0 {
			list = append(list, r.done.Rules)
		}
	}
	return list
}

// A set that is complete need not be without one of its rules, even one that was
// found only as a critical pair.
func TestAllWithoutOneRule(t *testing.T) {
	x := readTask(t, "f(x0,a) = x0; f(a,x0) = g(x0) | fgba")
	rules := impl.DoneOf(x.eqs, x.rank).Rules
	for i, want := range []bool{true, true, false} {
		if !impl.AskAll(rules) || impl.AskAll(slices.Delete(slices.Clone(rules), i, i+1)) != want {
			t.Errorf("%s without %s: %v", rulesText(rules), ruleText(rules[i]), !want)
		}
	}
	yes, no := 0, 0
	eachResult(t, func(r result) {
		for i := range r.done.Rules {
			rest := slices.Concat(r.done.Rules[:i], r.done.Rules[i+1:])
			want := meetBy(rest, pairsOfAll(rest))
			if impl.AskAll(rest) != want {
				t.Fatalf("%s: %v", rulesText(rest), !want)
			}
			if want {
				yes++
			} else {
				no++
			}
		}
	}, impl.DoneAll)
	if yes < 500 || no < 50 {
		t.Errorf("%d meet, %d do not", yes, no)
	}
}

// Too many links keep a pair from meeting, whose terms otherwise come to one.
func TestProofsOfRulesDecideWhetherAllPairsMeet(t *testing.T) {
	x := readTask(t, "f(g(g(g(x0))),a) = a; g(a) = a; g(g(a)) = b | fabg")
	rules := impl.DoneOf(x.eqs, x.rank).Rules
	bare := copyRules(rules)
	for i := range bare {
		bare[i].Why = nil
	}
	if impl.AskAll(rules) || !impl.AskAll(bare) {
		t.Errorf("%s", rulesText(rules))
	}
}

// Links are counted, but what is in them does not matter, however large.
func TestAllWithAnyProof(t *testing.T) {
	x0 := variable(0)
	for _, links := range [][]impl.Link{oddLinks(), {at(0, false, nil, bind(0, endless()), bind(1, doubled(80)))}, slices.Repeat([]impl.Link{self(0, 1)}, 100)} {
		if !impl.AskAll([]impl.Rule{rule(g(g(a())), b(), links...), rule(f(x0, a()), x0, links...)}) {
			t.Errorf("%d links, no pair", len(links))
		}
		if impl.AskAll([]impl.Rule{rule(g(a()), b(), links...), rule(a(), b(), links...)}) {
			t.Errorf("%d links, a pair that does not meet", len(links))
		}
	}
}

func TestAllArgumentsStayUnchanged(t *testing.T) {
	for _, rules := range ruleLists() {
		old := copyRules(rules)
		impl.AskAll(rules)
		if !sameRules(rules, old) {
			t.Fatalf("%v", rules)
		}
	}
}
