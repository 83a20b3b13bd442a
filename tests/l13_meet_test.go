package tests

import (
	"slices"
	"testing"

	"loop.example/tipstaff/impl"
)

// allPairs are those of all rules, two at a time.
func allPairs(rules []impl.Rule) []impl.Pair {
	var list []impl.Pair
	eachTwo(rules, func(r, q impl.Rule) {
		list = append(list, impl.PairsOf(r, q)...)
	})
	return list
}

// meetPairs are pairs of equal and of different terms, some with the same
// normal form by some rules.
func meetPairs() []impl.Pair {
	x0, x1 := variable(0), variable(1)
	return []impl.Pair{
		pair(a(), a()),
		pair(a(), b()),
		pair(b(), a(), self(0, 0)),
		pair(g(b()), b(), self(1, 1), self(0, 0)),
		pair(x0, x0),
		pair(x0, x1),
		pair(f(x0, a()), x0),
		pair(f(f(x0, a()), a()), f(x0, a())),
		pair(g(g(x1)), g(x1)),
		pair(g(g(g(x1))), g(x1)),
		pair(f(f(x0, x1), a()), f(x0, f(x1, a()))),
		pair(f(x0, x1), f(x1, x0)),
		pair(f(g(x0), f(a(), x0)), a()),
		pair(word(2, 2, 3), word(2, 2, 3)),
		pair(word(4, 7, 1), word(4, 7, 1)),
		pair(word(4, 7, 2), word(4, 7, 2)),
		pair(word(4, 3, 5), word(4, 3, 4)),
		pair(chain(15, b()), chain(15, b())),
		pair(chain(15, a()), a()),
	}
}

func TestSomePairsMeet(t *testing.T) {
	x0, x1 := variable(0), variable(1)
	unit := rule(f(x0, a()), x0)
	bare := []impl.Rule{rule(f(x0, g(x1)), g(f(x0, x1))), rule(b(), a())}
	list := []struct {
		name  string
		rules []impl.Rule
		pairs []impl.Pair
		want  bool
	}{
		{"equal sides, no rule", nil, []impl.Pair{pair(g(x0), g(x0))}, true},
		{"equal sides, none matches", []impl.Rule{unit}, []impl.Pair{pair(g(x0), g(x0))}, true},
		{"different sides, no rule", nil, []impl.Pair{pair(a(), b())}, false},
		{"different variables, no rule", nil, []impl.Pair{pair(x0, x1)}, false},
		{"equal up to names, no rule", nil, []impl.Pair{pair(g(x0), g(x1))}, false},
		{"S comes to T", []impl.Rule{unit}, []impl.Pair{pair(f(x1, a()), x1)}, true},
		{"T comes to S", []impl.Rule{unit}, []impl.Pair{pair(x1, f(x1, a()))}, true},
		{"both come to the same", []impl.Rule{unit}, []impl.Pair{pair(f(f(x1, a()), a()), f(x1, a()))}, true},
		{"both come to others", []impl.Rule{unit}, []impl.Pair{pair(f(x1, a()), f(x0, a()))}, false},
		{"only one is a normal form", []impl.Rule{unit}, []impl.Pair{pair(g(f(x1, a())), x1)}, false},
		{"all meet", []impl.Rule{unit}, []impl.Pair{pair(f(x1, a()), x1), pair(a(), a()), pair(b(), f(b(), a()))}, true},
		{"one fails behind one that meets", []impl.Rule{unit}, []impl.Pair{pair(f(x1, a()), x1), pair(a(), b())}, false},
		{"one fails before one that meets", []impl.Rule{unit}, []impl.Pair{pair(a(), b()), pair(f(x1, a()), x1)}, false},
		{"one fails between", []impl.Rule{unit}, []impl.Pair{pair(a(), a()), pair(x0, x1), pair(b(), b())}, false},
		{"S goes round", []impl.Rule{rule(a(), a())}, []impl.Pair{pair(a(), b())}, false},
		{"T goes round", []impl.Rule{rule(a(), a())}, []impl.Pair{pair(b(), a())}, false},
		{"equal sides go round", []impl.Rule{rule(a(), a())}, []impl.Pair{pair(a(), a())}, false},
		{"equal sides grow", []impl.Rule{rule(a(), g(a()))}, []impl.Pair{pair(f(a(), b()), f(a(), b()))}, false},
		{"StepsMax-1 steps", bare, []impl.Pair{pair(word(4, 7, 1), word(4, 7, 1))}, true},
		{"StepsMax steps", bare, []impl.Pair{pair(word(4, 7, 2), word(4, 7, 2))}, false},
		{"StepsMax steps on one side", bare, []impl.Pair{pair(word(4, 7, 1), word(4, 7, 2))}, false},
		{"StepsMax-1 steps and fewer", bare, []impl.Pair{pair(word(4, 7, 1), word(4, 7, 0))}, false},
		{"ProofMax links", sorter(1, 39).rules, []impl.Pair{pair(word(1, 1, 1), word(1, 1, 1))}, true},
		{"too many links", sorter(1, 39).rules, []impl.Pair{pair(word(1, 2, 1), word(1, 2, 1))}, false},
		{"as many rules as may be", slices.Repeat([]impl.Rule{unit}, impl.RuleMax), []impl.Pair{pair(f(x1, a()), x1)}, true},
		{"too many rules", slices.Repeat([]impl.Rule{unit}, impl.RuleMax+1), []impl.Pair{pair(f(x1, a()), x1)}, false},
		{"too many rules, equal sides", slices.Repeat([]impl.Rule{unit}, impl.RuleMax+1), []impl.Pair{pair(b(), b())}, false},
		{"very many rules", slices.Repeat([]impl.Rule{unit}, 100000), []impl.Pair{pair(b(), b())}, false},
	}
	for _, c := range list {
		if impl.PairsMeet(c.rules, c.pairs) != c.want {
			t.Errorf("%s: %v", c.name, !c.want)
		}
	}
}

// By its words, PairsMeet asks for nothing if there is no pair.
func TestNoPairsMeet(t *testing.T) {
	lists := append(ruleLists(), nil, slices.Repeat([]impl.Rule{rule(b(), a())}, impl.RuleMax+1))
	for _, bad := range badTerms() {
		lists = append(lists, []impl.Rule{rule(bad.term, a())}, []impl.Rule{rule(b(), bad.term)})
	}
	for _, rules := range lists {
		if !impl.PairsMeet(rules, nil) || !impl.PairsMeet(rules, []impl.Pair{}) {
			t.Errorf("%d rules", len(rules))
		}
	}
}

func TestBadTermsDoNotMeet(t *testing.T) {
	good := pair(b(), b())
	for _, bad := range badTerms() {
		t.Run(bad.name, func(t *testing.T) {
			for _, p := range []impl.Pair{pair(bad.term, b()), pair(b(), bad.term), pair(bad.term, bad.term), pair(f(bad.term, a()), b()), pair(impl.Term{}, bad.term)} {
				for _, rules := range [][]impl.Rule{nil, {rule(a(), b())}, {rule(variable(0), b())}} {
					if impl.PairsMeet(rules, []impl.Pair{p}) || impl.PairsMeet(rules, []impl.Pair{good, p}) || impl.PairsMeet(rules, []impl.Pair{p, good}) {
						t.Fatalf("a pair, with %v", rules)
					}
				}
			}
			for _, r := range []impl.Rule{rule(bad.term, a()), rule(b(), bad.term), rule(bad.term, bad.term)} {
				if impl.PairsMeet([]impl.Rule{r}, []impl.Pair{good}) || impl.PairsMeet([]impl.Rule{rule(g(a()), a()), r}, []impl.Pair{good}) {
					t.Fatal("a rule")
				}
			}
		})
	}
}

func TestPairsMeetOfAllKinds(t *testing.T) {
	meet, fail := 0, 0
	for _, rules := range ruleLists() {
		for _, p := range append(meetPairs(), allPairs(rules)...) {
			want := meetBy(rules, []impl.Pair{p})
			if impl.PairsMeet(rules, []impl.Pair{p}) != want {
				t.Fatalf("%v by %v: %v", p, rules, !want)
			}
			if want {
				meet++
			} else {
				fail++
			}
		}
	}
	if meet < 100 || fail < 100 {
		t.Errorf("%d pairs meet, %d do not", meet, fail)
	}
}

// The proofs of pairs do not matter, however odd they are.
func TestPairsMeetWithAnyProof(t *testing.T) {
	rules := []impl.Rule{rule(b(), a())}
	for _, links := range [][]impl.Link{nil, oddLinks(), {at(0, false, nil, bind(0, endless()), bind(1, doubled(80)))}} {
		if !impl.PairsMeet(rules, []impl.Pair{pair(b(), a(), links...)}) || impl.PairsMeet(rules, []impl.Pair{pair(b(), g(a()), links...)}) {
			t.Errorf("%d links", len(links))
		}
	}
}

func TestPairsOfSystems(t *testing.T) {
	x0, x1, x2 := variable(0), variable(1), variable(2)
	list := []struct {
		name  string
		rules []impl.Rule
		want  bool
	}{
		{"no rule", nil, true},
		{"no pair", []impl.Rule{rule(f(x0, a()), x0)}, true},
		{"an associative symbol", []impl.Rule{rule(f(f(x0, x1), x2), f(x0, f(x1, x2)))}, true},
		{"with a unit on one side", []impl.Rule{rule(f(f(x0, x1), x2), f(x0, f(x1, x2))), rule(f(x0, a()), x0)}, false},
		{"with a unit on both sides", []impl.Rule{rule(f(f(x0, x1), x2), f(x0, f(x1, x2))), rule(f(x0, a()), x0), rule(f(a(), x0), x0)}, true},
		{"three are one", []impl.Rule{rule(g(g(g(x0))), g(x0))}, true},
		{"three are none, two are one", []impl.Rule{rule(g(g(g(x0))), x0), rule(g(g(x0)), g(x0))}, false},
		{"the start of a group", goodSystems()[4].rules[:3], false},
		{"other right sides", []impl.Rule{rule(g(x0), x0), rule(g(a()), b())}, false},
	}
	for _, c := range list {
		pairs := allPairs(c.rules)
		if got := impl.PairsMeet(c.rules, pairs); got != c.want || got != meetBy(c.rules, pairs) {
			t.Errorf("%s: %v", c.name, got)
		}
	}
}

func TestP74PairsMeetIfBothHalvesDo(t *testing.T) {
	meet, fail := 0, 0
	for _, rules := range append(ruleLists(), nil, slices.Repeat([]impl.Rule{rule(b(), a())}, impl.RuleMax+1)) {
		lists := [][]impl.Pair{meetPairs(), slices.Repeat([]impl.Pair{pair(variable(3), variable(3))}, 5), allPairs(rules)}
		for _, list := range lists {
			list = list[:min(len(list), 25)]
			whole := impl.PairsMeet(rules, list)
			for i := range len(list) + 1 {
				if whole != (impl.PairsMeet(rules, list[:i]) && impl.PairsMeet(rules, list[i:])) {
					t.Fatalf("%v by %v, split at %d", list, rules, i)
				}
			}
			if whole {
				meet++
			} else {
				fail++
			}
		}
	}
	if meet < 20 || fail < 20 {
		t.Errorf("%d lists meet, %d do not", meet, fail)
	}
}

func TestP75PairsThatMeetHaveEqualNormalForms(t *testing.T) {
	meet, fail := 0, 0
	for _, rules := range ruleLists() {
		list := append(meetPairs(), allPairs(rules)...)
		for i, p := range list {
			first, _, okS := impl.NormOf(rules, p.S)
			second, _, okT := impl.NormOf(rules, p.T)
			equal := okS && okT && sameTerm(first, second)
			if impl.PairsMeet(rules, []impl.Pair{p}) != equal {
				t.Fatalf("%v by %v: %v", p, rules, !equal)
			}
			if equal {
				meet++
			} else {
				fail++
			}
			if !equal && impl.PairsMeet(rules, list[:i+1]) {
				t.Fatalf("%v by %v", list[:i+1], rules)
			}
		}
	}
	if meet < 100 || fail < 100 {
		t.Errorf("%d pairs meet, %d do not", meet, fail)
	}
}

func TestMeetArgumentsStayUnchanged(t *testing.T) {
	for _, s := range goodSystems() {
		rules, list := copyRules(s.rules), append(meetPairs(), allPairs(s.rules)...)
		old := copyPairs(list)
		for i := range list {
			impl.PairsMeet(s.rules, list[i:])
		}
		if !sameRules(s.rules, rules) || !samePairs(list, old) {
			t.Fatalf("an argument was changed: %v, %v", s.rules, list)
		}
	}
}
