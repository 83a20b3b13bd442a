package tests

import (
	"slices"
	"testing"

	"loop.example/tipstaff/impl"
)

func TestSomePairs(t *testing.T) {
	list := []struct{ name, r, q, want string }{
		{"below the root", "g(g(a)) to b", "g(a) to x0", "b and g(x6)"},
		{"at the root", "g(x0) to a", "g(b) to b", "a and b"},
		{"at the root, the other way round", "g(b) to b", "g(x0) to a", "b and a"},
		{"at both", "g(g(x0)) to x0", "g(x0) to f(x0,a)", "x0 and f(g(x0),a); x6 and g(f(x6,a))"},
		{"not within the second rule", "g(x0) to x0", "f(a,g(x0)) to a", ""},
		{"a rule with itself", "g(g(x0)) to x0", "g(g(x0)) to x0", "g(x6) and g(x6)"},
		{"a rule with itself, at two places", "g(g(g(x0))) to x0", "g(g(g(x0))) to x0", "g(x6) and g(x6); g(g(x6)) and g(g(x6))"},
		{"a rule with itself, more variables", "f(f(x0,x1),x2) to f(x0,f(x1,x2))", "f(f(x0,x1),x2) to f(x0,f(x1,x2))", "f(f(x6,x7),f(x8,x2)) and f(f(x6,f(x7,x8)),x2)"},
		{"a rule with itself, only the root", "f(x0,x1) to x1", "f(x0,x1) to x1", ""},
		{"a rule with itself, no variable", "g(b) to b", "g(b) to b", ""},
		{"other right sides", "f(x0,x1) to x0", "f(x0,x1) to x1", "x6 and x7"},
		{"other left sides", "f(x0,a) to a", "f(x0,x1) to a", "a and a"},
		{"right sides that differ in a variable", "g(x0) to x1", "g(x0) to x2", "x1 and x8"},
		{"right sides that are equal only when renamed", "g(x0) to x0", "g(x0) to x6", "x6 and x6"},
		{"exchanged sides", "f(x0,a) to g(x0)", "g(x0) to f(x0,a)", ""},
		{"equal names", "f(x0,g(x0)) to x0", "g(g(x0)) to x0", "g(x6) and f(g(x6),x6)"},
		{"equal names, one in the other", "f(g(x0),x1) to x1", "g(f(x1,x0)) to x0", ""},
		{"equal names, exchanged", "g(f(x0,x1)) to f(x1,x0)", "f(x0,g(x1)) to f(x1,x0)", "f(g(x7),x6) and g(f(x7,x6))"},
		{"no pair at a variable", "f(x0,x1) to x0", "a to b", ""},
		{"no pair at a variable beside one that is", "f(x0,a) to x0", "a to b", "x0 and f(x0,b)"},
		{"a variable on the left of the first", "x0 to a", "g(x0) to x0", ""},
		{"a variable on the left of both", "x0 to a", "x0 to b", ""},
		{"a variable on the left of the second", "g(a) to b", "x0 to f(x0,x0)", "b and f(g(a),g(a)); b and g(f(a,a))"},
		{"another symbol", "f(a,b) to a", "g(x0) to x0", ""},
		{"another symbol below", "f(a,g(x0)) to a", "f(b,x0) to x0", ""},
		{"one variable, two terms", "f(f(a,b),x0) to x0", "f(x0,x0) to x0", "f(a,b) and f(a,b)"},
		{"one variable, two terms, no pair", "g(f(a,b)) to b", "f(x0,x0) to x0", ""},
		{"a variable in its own term", "f(x0,x0) to a", "f(x0,g(x0)) to b", ""},
		{"a variable in its own term, the other way round", "f(x0,g(x0)) to b", "f(x0,x0) to a", ""},
		{"a variable in its own term through another, at the root", "f(x0,f(x1,x0)) to a", "f(g(x0),f(x0,x0)) to b", "a and f(f(x6,x6),b)"},
		{"several places, in order", "f(g(g(a)),f(a,g(x0))) to b", "g(x0) to x0", "b and f(g(a),f(a,g(x0))); b and f(g(a),f(a,g(x0))); b and f(g(g(a)),f(a,x6))"},
		{"several places, told apart by the unifier", "f(f(g(x0),x1),g(x2)) to f(x2,f(x1,x0))", "g(f(x0,x1)) to f(x1,x0)", "f(x2,f(x1,f(x6,x7))) and f(f(f(x7,x6),x1),g(x2)); f(f(x6,x7),f(x1,x0)) and f(f(g(x0),x1),f(x7,x6))"},
		{"a root and a later place, not one between", "f(a,f(x0,x1)) to x1", "f(x0,f(x1,b)) to x0", "b and a; f(x7,b) and f(a,x6)"},
		{"the first variable is bound to the second", "f(x0,a) to x0", "f(x0,x1) to x1", "x6 and a"},
		{"a further variable on the right of the first", "g(a) to f(x1,x5)", "a to b", "f(x1,x5) and g(b)"},
		{"a further variable on the right of the second", "g(a) to b", "a to f(x1,x5)", "b and g(f(x7,x11))"},
		{"a high variable on the right of the first", "g(a) to f(x7,x11)", "g(x0) to x0", "f(x7,x11) and a"},
		{"a high variable on the right of the second", "g(a) to b", "a to f(x6,x11)", "b and g(f(x6,x11))"},
		{"a high variable that the unifier binds, first", "g(a) to x6", "g(x0) to b", "a and b"},
		{"a high variable that the unifier binds, second", "g(a) to b", "g(x0) to f(x0,x6)", "b and f(a,a)"},
		{"a high variable that the unifier brings in", "g(x0) to f(x0,x6)", "g(g(x0)) to a", "f(g(x6),x6) and a"},
		{"a left side that begins with x1", "g(f(x1,a)) to a", "f(x0,a) to x0", ""},
		{"a second left side that begins with x1", "g(f(a,a)) to a", "f(x1,a) to a", ""},
		{"a left side in another order", "g(f(x1,x0)) to a", "f(x0,x1) to a", ""},
		{"a second left side in another order", "g(f(x0,x1)) to a", "f(x1,x0) to a", ""},
		{"a left side with a gap", "g(f(x0,x2)) to a", "f(x0,x1) to a", ""},
		{"a second left side with a gap", "g(f(x0,x1)) to a", "f(x0,x2) to a", ""},
		{"a left side that is another variable", "g(a) to a", "x6 to b", ""},
		{"seven variables", "f(a,f(x0,f(x1,f(x2,f(x3,f(x4,f(x5,x6))))))) to a", "a to b", ""},
		{"seven variables in the second", "g(a) to a", "f(x0,f(x1,f(x2,f(x3,f(x4,f(x5,x6)))))) to a", ""},
		{"six variables in both", "f(x0,f(x1,f(x2,f(x3,f(x4,x5))))) to x5", "f(x0,f(x1,f(x2,f(x3,f(x4,x5))))) to x0", "x11 and x6; f(x10,x11) and f(x0,x6); f(x9,f(x10,x11)) and f(x0,f(x1,x6))"},
		{"a left side with six variables, one of them again", "f(f(x0,f(x1,f(x2,f(x3,f(x4,x5))))),x0) to x5", "f(x0,x1) to x1", "x5 and x7; x5 and f(f(x1,f(x2,f(x3,f(x4,x5)))),x6); x5 and f(f(x0,f(x2,f(x3,f(x4,x5)))),x0); x5 and f(f(x0,f(x1,f(x3,f(x4,x5)))),x0); x5 and f(f(x0,f(x1,f(x2,f(x4,x5)))),x0); x7 and f(f(x0,f(x1,f(x2,f(x3,x7)))),x0)"},
	}
	for _, c := range list {
		r, q := readRule(t, c.r), readRule(t, c.q)
		if got := pairsText(impl.PairsOf(r, q)); got != c.want {
			t.Errorf("%s: got %q, want %q", c.name, got, c.want)
		}
	}
}

func TestPairsOfAllKinds(t *testing.T) {
	pairs, large := 0, 0
	eachTwo(pairRules(), func(r, q impl.Rule) {
		want, tooLarge := pairsBy(r, q)
		mustPairs(t, r, q, want)
		pairs, large = pairs+len(want), large+tooLarge
	})
	if pairs < 1000 || large < 100 {
		t.Errorf("%d pairs, and %d that are too large", pairs, large)
	}
}

// All left sides stand here, also those that are not named plain.
func TestPairsOfSmallRules(t *testing.T) {
	x0, x1, x2, x3, x6 := variable(0), variable(1), variable(2), variable(3), variable(6)
	lefts := slices.Concat(termsOfSize(5, []impl.Term{x0, x1, a()})...)
	rights := []impl.Term{x0, f(x1, x6), g(f(x3, x2))}
	pairs := 0
	for i, l := range lefts {
		for k, o := range lefts {
			r, q := rule(l, rights[(i+k)%3]), rule(o, rights[i%3])
			want, _ := pairsBy(r, q)
			mustPairs(t, r, q, want)
			pairs += len(want)
		}
	}
	if pairs < 3000 {
		t.Errorf("only %d pairs", pairs)
	}
}

func TestLargestPairs(t *testing.T) {
	x0, x1 := variable(0), variable(1)
	list := []struct {
		name        string
		r, q        impl.Rule
		place       []int
		whole, s, t int
	}{
		{"left side at the limit", rule(f(x0, chain(6, x1)), a()), rule(f(chain(7, x0), x1), b()), nil, 16, 1, 1},
		{"left side above the limit", rule(f(x0, chain(6, x1)), a()), rule(f(chain(8, x0), x1), b()), nil, 17, 1, 1},
		{"left side far above", rule(f(x0, chain(13, x1)), a()), rule(f(chain(13, x0), x1), b()), nil, 29, 1, 1},
		{"S at the limit", rule(g(x0), g(f(x0, x0))), rule(chain(7, a()), b()), nil, 8, 16, 1},
		{"S above the limit", rule(g(x0), f(x0, x0)), rule(chain(8, a()), b()), nil, 9, 17, 1},
		{"S far above", rule(f(x0, x1), twice(3, x0)), rule(f(chain(13, x0), a()), b()), nil, 16, 119, 1},
		{"T at the limit", rule(f(x0, b()), a()), rule(b(), chain(13, a())), []int{1}, 3, 1, 16},
		{"T above the limit", rule(f(x0, b()), a()), rule(b(), chain(14, a())), []int{1}, 3, 1, 17},
		{"T above the limit by a value", rule(chain(8, a()), b()), rule(g(x0), f(x0, x0)), nil, 9, 1, 17},
		{"all at the limit", rule(g(chain(14, x0)), chain(15, x0)), rule(chain(14, x0), chain(14, x0)), []int{0}, 16, 16, 16},
		{"S and T above the limit", rule(g(g(x0)), f(x0, f(x0, x0))), rule(chain(6, a()), chain(15, a())), []int{0}, 8, 20, 17},
	}
	for _, c := range list {
		t.Run(c.name, func(t *testing.T) {
			o, ok := overlapBy(c.r, apartFrom(c.q), c.place)
			if !ok || countParts(o.whole) != c.whole || countParts(o.pair.S) != c.s || countParts(o.pair.T) != c.t {
				t.Fatalf("the example is not what its name says: %v", o)
			}
			has := slices.ContainsFunc(markedPlaces(c.r, c.q), func(place []int) bool { return slices.Equal(place, c.place) })
			if has != (max(c.whole, c.s, c.t) <= impl.TermMax) {
				t.Fatalf("%v", has)
			}
			want, _ := pairsBy(c.r, c.q)
			mustPairs(t, c.r, c.q, want)
		})
	}
}

func TestPairsBesideOnesThatAreTooLarge(t *testing.T) {
	x0, x1, x2 := variable(0), variable(1), variable(2)
	list := []struct {
		name  string
		r, q  impl.Rule
		large int
		want  [][]int
	}{
		{"T first", rule(f(chain(7, a()), g(x0)), x0), rule(g(x0), f(x0, x0)), 2, [][]int{{0, 0, 0}, {0, 0, 0, 0}, placeOfDepth(5), placeOfDepth(6), placeOfDepth(7), {1}}},
		{"S first", rule(f(g(x0), g(x1)), f(x0, f(x0, f(x0, x0)))), rule(chain(4, x0), b()), 1, [][]int{{1}}},
		{"S last", rule(f(g(x0), g(x1)), f(x1, f(x1, f(x1, x1)))), rule(chain(4, x0), b()), 1, [][]int{{0}}},
		{"the left side between", rule(f(g(x0), f(g(x1), f(x1, f(x1, g(x2))))), a()), rule(chain(4, x0), b()), 1, [][]int{{0}, {1, 1, 1, 1}}},
		{"six variables in both", rule(comb(6), x0), rule(comb(6), variable(5)), 2, [][]int{{}, {0}, {0, 0}}},
		{"terms too large for a proof", rule(swelling(), a()), rule(swelling(), f(x0, x1)), 4, [][]int{{}}},
	}
	for _, c := range list {
		want, large := pairsBy(c.r, c.q)
		if large != c.large {
			t.Errorf("%s: %d are too large", c.name, large)
		}
		mustPairs(t, c.r, c.q, want)
		if got := markedPlaces(c.r, c.q); !slices.EqualFunc(got, c.want, slices.Equal) {
			t.Errorf("%s: pairs at %v, want %v", c.name, got, c.want)
		}
	}
}

// There is no pair where a term of the unifier, or what is unified, is none of
// a proof; the test makes sure that its examples are such ones.
func TestPairsNeedTermsOfProofs(t *testing.T) {
	x0, x1 := variable(0), variable(1)
	largest := 0
	for _, o := range overlapsBy(rule(swelling(), a()), rule(swelling(), f(x0, x1))) {
		for _, b := range o.unifier {
			largest = max(largest, countParts(b.Term))
		}
	}
	if largest <= impl.ProofBig {
		t.Fatalf("the largest term has %d parts", largest)
	}
	same := rule(swelling(), a())
	mustPairs(t, same, same, nil)
}

func TestBadTermsHaveNoPairs(t *testing.T) {
	x0 := variable(0)
	why := self(0, 1)
	good := rule(f(x0, a()), x0, why)
	for _, bad := range badTerms() {
		t.Run(bad.name, func(t *testing.T) {
			list := []impl.Rule{rule(bad.term, x0, why), rule(f(x0, a()), bad.term, why), rule(bad.term, bad.term, why), rule(f(bad.term, a()), x0, why), rule(f(x0, a()), g(bad.term), why)}
			for _, r := range list {
				for _, q := range append(list, good, rule(x0, a()), rule(a(), b(), why)) {
					mustPairs(t, r, q, nil)
					mustPairs(t, q, r, nil)
				}
			}
		})
	}
}

func TestLeftSidesThatAreNotPlainHaveNoPairs(t *testing.T) {
	x0, x1 := variable(0), variable(1)
	good := rule(f(f(x0, a()), x1), x0)
	bad := []impl.Term{variable(1), variable(6), variable(11), g(x1), f(x1, x0), f(x1, a()), f(x0, variable(2)), f(x0, f(variable(2), x1)), f(x0, variable(6)), comb(7), f(comb(7), x0), comb(8), g(comb(8))}
	for _, l := range bad {
		for _, r := range []impl.Rule{rule(l, a()), rule(l, l)} {
			mustPairs(t, r, good, nil)
			mustPairs(t, good, r, nil)
			mustPairs(t, r, r, nil)
			mustPairs(t, r, rule(x0, a()), nil)
			mustPairs(t, rule(f(a(), b()), b()), r, nil)
		}
	}
	odd := f(variable(9), variable(2))
	if len(impl.PairsOf(good, rule(f(x0, a()), odd))) != 2 || len(impl.PairsOf(rule(good.L, odd), rule(f(x0, a()), a()))) != 2 {
		t.Error("a right side need not be plain")
	}
}

// The first rule is f(x0,g(x0)) to x0, the second g(g(x0)) to f(x0,x9), and
// the unifier at the place 1 makes g(x6) of x0.
func TestProofOfAPair(t *testing.T) {
	x0, x1, x5, x6, x7, x9 := variable(0), variable(1), variable(5), variable(6), variable(7), variable(9)
	first := []impl.Link{
		at(0, false, nil, bind(0, x0), bind(1, x1)),
		at(3, true, []int{1, 0}, bind(3, f(x0, g(x6)))),
		at(2, false, []int{0}),
	}
	second := []impl.Link{
		at(4, true, []int{0}, bind(0, x0), bind(6, g(x1))),
		at(1, false, nil, bind(2, f(x5, x6)), bind(11, f(x9, x0))),
	}
	back := []impl.Link{
		at(2, true, []int{0}),
		at(3, false, []int{1, 0}, bind(3, f(g(x6), g(x6)))),
		at(0, true, nil, bind(0, g(x6)), bind(1, x1)),
	}
	there := []impl.Link{
		at(4, true, []int{1, 0}, bind(0, x6), bind(6, g(x7))),
		at(1, false, []int{1}, bind(2, f(variable(11), x6)), bind(11, f(x9, x6))),
	}
	l, o := f(x0, g(x0)), g(g(x0))
	for i := range len(first) + 1 {
		for k := range len(second) + 1 {
			want := slices.Concat(back[len(first)-i:], there[:k])
			mustPairs(t, rule(l, x0, first[:i]...), rule(o, f(x0, x9), second[:k]...), []impl.Pair{pair(g(x6), f(g(x6), f(x6, x9)), want...)})
		}
	}
}

// Half of TermVar is added to the variables below it, and to no others, on the
// right side and in the proof; the variables of the equations stay.
func TestVariablesOfTheSecondRuleAreRenamed(t *testing.T) {
	for v := range impl.TermVar {
		want := variable(v)
		if v < impl.TermVar/2 {
			want = variable(v + impl.TermVar/2)
		}
		q := rule(a(), g(variable(v)), at(2, true, []int{3}, bind(v, f(variable(v), b()))))
		mustPairs(t, rule(g(a()), b()), q, []impl.Pair{pair(b(), g(g(want)), at(2, true, []int{0, 3}, bind(v, f(want, b()))))})
		r := rule(g(a()), g(variable(v)), at(2, true, []int{3}, bind(v, f(variable(v), b()))))
		mustPairs(t, r, rule(a(), b()), []impl.Pair{pair(g(variable(v)), g(b()), at(2, false, []int{3}, bind(v, f(variable(v), b()))))})
	}
}

func TestP72ProofOfAPairLeadsFromSToT(t *testing.T) {
	fits, large, long := 0, 0, 0
	mustLead := func(eqs []impl.Eq, r, q impl.Rule) {
		for _, p := range impl.PairsOf(r, q) {
			end, small, ok := endBy(eqs, p.S, p.Why)
			mustTerm(t, end, ok, p.T)
			got, ok := impl.ProofEnd(eqs, p.S, p.Why)
			if small {
				fits++
				mustTerm(t, got, ok, p.T)
				continue
			}
			mustFail(t, got, ok)
			if len(p.Why) > impl.ProofMax {
				long++
			} else {
				large++
			}
		}
	}
	for _, s := range goodSystems() {
		eachTwo(s.rules, func(r, q impl.Rule) { mustLead(s.eqs, r, q) })
	}
	some := []impl.Rule{swollen(28), swollen(25)}
	for i, r := range proofRules() {
		if i%6 == 0 || len(r.Why) >= 20 {
			some = append(some, r)
		}
	}
	eachTwo(some, func(r, q impl.Rule) { mustLead(proofEqs(), r, q) })
	if fits < 500 || large < 20 || long < 20 {
		t.Errorf("%d proofs, %d with too large terms, %d with too many links", fits, large, long)
	}
}

func TestProofOfAPairMayBeTooLarge(t *testing.T) {
	x0, x7 := variable(0), variable(7)
	long := slices.Repeat([]impl.Link{self(0, 2), turned(self(0, 2))}, impl.ProofMax)
	big := at(0, true, nil, bind(0, x0), bind(1, chain(60, x0)))
	for _, links := range [][]impl.Link{long, {big}, {at(0, false, nil, bind(0, chain(100, x7)))}} {
		r, q := rule(chain(8, x0), x0, links...), rule(chain(7, x0), g(x0), links...)
		want, large := pairsBy(r, q)
		if len(want) != 8 || large > 0 {
			t.Fatalf("%d pairs, %d are too large", len(want), large)
		}
		mustPairs(t, r, q, want)
	}
}

func TestP73NoPairOfARuleWithItselfAtTheRoot(t *testing.T) {
	below := 0
	for _, r := range append(pairRules(), proofRules()...) {
		for _, q := range []impl.Rule{r, rule(r.L, r.R), marked(r)} {
			got := impl.PairsOf(r, q)
			want, _ := pairsBy(r, q)
			if !samePairs(got, want) {
				t.Fatalf("%v with itself: %v", r, got)
			}
		}
		for _, place := range markedPlaces(r, r) {
			if len(place) == 0 {
				t.Fatalf("%v has a pair with itself at the root", r)
			}
			below++
		}
		other := rule(r.L, f(a(), b()))
		if hasPairs(r) && r.L.Sign != 0 && !sameSides(r, other) && (len(markedPlaces(r, other)) == 0 || len(markedPlaces(r, other)[0]) > 0) {
			t.Fatalf("%v has no pair at the root with a rule that has another right side", r)
		}
	}
	if below < 50 {
		t.Errorf("only %d pairs of a rule with itself", below)
	}
}

func TestP76AtMostOnePairForEachPlace(t *testing.T) {
	pairs := 0
	eachTwo(pairRules(), func(r, q impl.Rule) {
		next := 0
		places := impl.TermPlaces(r.L)
		for i, p := range impl.PairsOf(r, marked(q)) {
			pairs++
			place := p.Why[len(p.Why)-1].Place
			for next < len(places) && !slices.Equal(places[next], place) {
				next++
			}
			if next == len(places) || partAt(r.L, place).Sign == 0 {
				t.Fatalf("pair %d of %v and %v is at %v", i, r, q, place)
			}
			next++
			if !isTerm(p.S) || !isTerm(p.T) || !impl.TermOk(p.S) || !impl.TermOk(p.T) {
				t.Fatalf("pair %v of %v and %v", p, r, q)
			}
		}
		for _, p := range impl.PairsOf(r, q) {
			if len(p.Why) != len(r.Why)+len(q.Why) {
				t.Fatalf("%d links of %d and %d", len(p.Why), len(r.Why), len(q.Why))
			}
		}
	})
	if pairs < 1000 {
		t.Errorf("only %d pairs", pairs)
	}
}

func TestPairArgumentsStayUnchanged(t *testing.T) {
	rules := append(pairRules(), rule(g(f(variable(0), a())), a(), oddLinks()...))
	old := copyRules(rules)
	eachTwo(rules, func(r, q impl.Rule) { impl.PairsOf(r, q) })
	if !sameRules(rules, old) {
		t.Errorf("an argument was changed: %v", rules)
	}
}

func TestRoomBehindProofsStaysUnchanged(t *testing.T) {
	x0 := variable(0)
	links := []impl.Link{self(0, 1, 0), self(1, 1), self(2, 2)}
	old := copyLinks(links)
	r, q := rule(g(g(x0)), x0, links[:1]...), rule(g(x0), a(), links[1:2]...)
	if len(impl.PairsOf(r, q)) != 2 || len(impl.PairsOf(q, r)) != 1 || len(impl.PairsOf(r, r)) != 1 || !sameLinks(links, old) {
		t.Errorf("%v", links)
	}
}

func TestPairResultsShareNoMemory(t *testing.T) {
	eachTwo(append(pairRules(), proofRules()[:20]...), func(r, q impl.Rule) {
		r, q = copyRules([]impl.Rule{r})[0], copyRules([]impl.Rule{q})[0]
		memory, seen := newProofMemory(), map[*impl.Pair]bool{}
		memory.addRules(t, []impl.Rule{r, q})
		for range 2 {
			memory.addPairs(t, impl.PairsOf(r, q), seen)
		}
		memory.addPairs(t, impl.PairsOf(r, r), seen)
	})
}

// The same link, place, substitution and terms stand in both rules, in every
// link, and several times in a term.
func TestSharedPartsAreNotSharedInPairs(t *testing.T) {
	x0, x1 := variable(0), variable(1)
	part := g(f(x0, x0))
	place := []int{0, 1}
	link := at(0, false, place, bind(0, part), bind(1, f(part, part)))
	links := []impl.Link{link, link, link}
	r := rule(f(g(x0), f(g(x0), g(x1))), f(x0, f(x0, x1)), links...)
	q := rule(g(x0), f(x0, x0), links...)
	memory, seen := newProofMemory(), map[*impl.Pair]bool{}
	got := impl.PairsOf(r, q)
	if len(got) != 3 {
		t.Fatalf("%d pairs", len(got))
	}
	memory.addPairs(t, got, seen)
	memory.addPairs(t, impl.PairsOf(q, rule(g(f(x0, x0)), x0, links...)), seen)
}

func TestPairsWithOddProofs(t *testing.T) {
	x0 := variable(0)
	r, q := rule(g(g(x0)), x0, oddLinks()...), rule(g(x0), f(x0, x0), oddLinks()...)
	for _, two := range [][2]impl.Rule{{r, q}, {q, r}, {r, r}, {r, rule(g(x0), a())}, {rule(g(g(x0)), a()), q}} {
		want, _ := pairsBy(two[0], two[1])
		if len(want) == 0 {
			t.Fatal("no pair")
		}
		mustPairs(t, two[0], two[1], want)
	}
}

// The terms of Why are no terms of a rule: they may be of any size and kind.
func TestPairsWithAnyTermsInProofs(t *testing.T) {
	x0 := variable(0)
	for _, x := range slices.Concat([]impl.Term{chain(64, x0), chain(20000, x0), rightComb(3000, x0, variable(7))}, largeShapes()) {
		r, q := rule(g(g(x0)), x0, at(1, true, nil, bind(3, x))), rule(g(x0), a(), at(2, false, []int{1}, bind(4, x)))
		want, _ := pairsBy(r, q)
		if len(want) != 2 {
			t.Fatalf("%d pairs", len(want))
		}
		mustPairs(t, r, q, want)
	}
	for _, bad := range badTerms() {
		t.Run(bad.name, func(t *testing.T) {
			link := at(0, false, nil, bind(0, bad.term))
			got := impl.PairsOf(rule(g(g(x0)), x0, link), rule(g(x0), a(), link))
			if text := pairsText(got); text != "x0 and a; x6 and g(a)" {
				t.Fatal(text)
			}
			for _, p := range got {
				if len(p.Why) != 2 || len(p.Why[0].Subst) != 1 || len(p.Why[1].Subst) != 1 {
					t.Fatalf("%d links", len(p.Why))
				}
			}
		})
	}
}

func TestProofsOfPairsOfAnyLength(t *testing.T) {
	x0 := variable(0)
	for _, number := range []int{0, 1, 2, 7, impl.ProofMax, impl.ProofMax + 1, 1000} {
		links := slices.Repeat([]impl.Link{at(4, true, []int{1}, bind(2, g(x0)))}, number)
		r, q := rule(g(f(x0, a())), x0, links...), rule(f(x0, x0), a(), links[:number/2]...)
		want, _ := pairsBy(r, q)
		if len(want) != 1 || len(want[0].Why) != number+number/2 {
			t.Fatalf("%v", want)
		}
		mustPairs(t, r, q, want)
	}
}

func TestPairsKeepNothingBetweenCalls(t *testing.T) {
	x0, x1, x2 := variable(0), variable(1), variable(2)
	r, q := rule(f(f(x0, x1), x2), f(x0, f(x1, x2)), self(3, 3)), rule(f(x0, a()), x0, self(0, 1))
	want := copyPairs(impl.PairsOf(r, q))
	if len(want) != 2 {
		t.Fatalf("%d pairs", len(want))
	}
	for _, other := range pairRules() {
		impl.PairsOf(other, q)
		impl.PairsOf(r, other)
		impl.PairsMeet([]impl.Rule{other}, want)
		mustPairs(t, r, q, want)
	}
}
