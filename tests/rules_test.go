package tests

import (
	"slices"
	"testing"

	"loop.example/tipstaff/impl"
)

func rule(l, r impl.Term, why ...impl.Link) impl.Rule {
	return impl.Rule{L: l, R: r, Why: why}
}

// self is a link that binds the variables below a number to themselves.
func self(index, vars int, place ...int) impl.Link {
	l := impl.Link{Eq: index, Place: place}
	for v := range vars {
		l.Subst = append(l.Subst, bind(v, variable(v)))
	}
	return l
}

// longer has so many links more, an even number: the last link back and again.
func longer(links []impl.Link, more int) []impl.Link {
	last := links[len(links)-1]
	for range more / 2 {
		links = append(links, turned(last), last)
	}
	return links
}

// system is rules that follow from equations and go down by a ranking.
type system struct {
	eqs   []impl.Eq
	rank  []int
	rules []impl.Rule
}

// sorter moves g to the front of words and makes b to a, by proofs of so many
// links, both odd. How many steps it does from word is told there.
func sorter(swap, leaf int) system {
	x0, x1 := variable(0), variable(1)
	eqs := []impl.Eq{eq(f(x0, g(x1)), g(f(x0, x1))), eq(a(), b())}
	return system{eqs, rankOf("fgba"), []impl.Rule{
		rule(eqs[0].S, eqs[0].T, longer([]impl.Link{self(0, 2)}, swap-1)...),
		rule(b(), a(), longer([]impl.Link{turned(self(1, 0))}, leaf-1)...),
	}}
}

// word has a number of f before a number of g, and a number of b, of which
// there is room for one more than for f: the sorter does f times g and b steps.
func word(fs, gs, bs int) impl.Term {
	leaf := func(number int) impl.Term {
		if number < bs {
			return b()
		}
		return variable(9)
	}
	x := chain(gs, leaf(fs))
	for i := range fs {
		x = f(leaf(i), x)
	}
	return x
}

func goodSystems() []system {
	x0, x1, x2 := variable(0), variable(1), variable(2)
	unit := []impl.Eq{eq(f(x0, a()), x0), eq(g(g(x0)), g(x0)), eq(g(a()), b())}
	same := []impl.Eq{eq(f(x0, f(x1, x2)), f(f(x0, x1), x2)), eq(f(x0, x0), x0)}
	group := []impl.Eq{eq(f(a(), x0), x0), eq(f(g(x0), x0), a()), eq(f(f(x0, x1), x2), f(x0, f(x1, x2)))}
	ground := []impl.Eq{eq(b(), a()), eq(g(a()), a()), eq(x0, f(a(), x0))}
	six := eq(comb(6), f(variable(4), f(variable(3), variable(0))))
	cancel := []impl.Link{
		at(2, true, nil, bind(0, g(x0)), bind(1, x0), bind(2, x1)),
		at(1, false, []int{0}, bind(0, x0)),
		at(0, false, nil, bind(0, x1)),
	}
	return []system{
		{nil, rankOf("fgba"), nil},
		{unit, rankOf("fgba"), []impl.Rule{rule(f(x0, a()), x0, self(0, 1)), rule(g(g(x0)), g(x0), self(1, 1))}},
		{unit, rankOf("gbfa"), []impl.Rule{rule(g(a()), b(), self(2, 0)), rule(g(g(x0)), g(x0), self(1, 1)), rule(f(x0, a()), x0, self(0, 1))}},
		{same, rankOf("abfg"), []impl.Rule{rule(f(x0, x0), x0, self(1, 1)), rule(f(f(x0, x1), x2), f(x0, f(x1, x2)), turned(self(0, 3)))}},
		{group, rankOf("gfab"), []impl.Rule{
			rule(f(a(), x0), x0, self(0, 1)),
			rule(f(g(x0), x0), a(), self(1, 1)),
			rule(f(f(x0, x1), x2), f(x0, f(x1, x2)), self(2, 3)),
			rule(f(g(x0), f(x0, x1)), x1, cancel...),
		}},
		{ground, rankOf("fgba"), groundRules()},
		{[]impl.Eq{six}, rankOf("fgba"), []impl.Rule{rule(six.S, six.T, self(0, 6))}},
		sorter(1, 1),
		sorter(3, 1),
		sorter(1, 3),
	}
}

// groundRules are RuleMax rules, which follow from three equations.
func groundRules() []impl.Rule {
	x0, x1 := variable(0), variable(1)
	unit := turned(self(2, 1))
	return []impl.Rule{
		rule(f(x0, f(a(), x1)), f(x0, x1), at(2, true, []int{1}, bind(0, x1))),
		rule(g(b()), b(), self(0, 0, 0), self(1, 0), turned(self(0, 0))),
		rule(g(b()), a(), self(0, 0, 0), self(1, 0)),
		rule(f(g(a()), x0), x0, self(1, 0, 0), unit),
		rule(f(b(), x0), x0, self(0, 0, 0), unit),
		rule(f(a(), x0), x0, unit),
		rule(b(), a(), self(0, 0)),
		rule(g(a()), a(), self(1, 0)),
	}
}

// oddRules are lists of rules that are not valid, or whose proofs are none;
// their terms are valid, and so steps are done by them.
func oddRules() [][]impl.Rule {
	x0, x1, x5, x11 := variable(0), variable(1), variable(5), variable(11)
	one, two := at(3, true, []int{1}, bind(0, x0), bind(1, f(x1, x5))), at(9, false, nil, bind(7, chain(40, x0)))
	return [][]impl.Rule{
		{rule(a(), a())},
		{rule(a(), b(), one), rule(b(), a(), one, two)},
		{rule(x0, a(), two)},
		{rule(x11, x11)},
		{rule(x0, g(x0), one)},
		{rule(a(), f(a(), a()))},
		{rule(f(x0, x1), f(x1, x0), one)},
		{rule(g(x0), f(x0, x5), two, one, one)},
		{rule(g(x5), f(x11, f(x5, x0))), rule(f(a(), b()), x11, one)},
		{rule(f(x0, a()), x1), rule(f(x1, x0), g(x0), one)},
		{rule(f(x11, x0), x11, one), rule(b(), x0, two)},
		{rule(f(x0, x0), g(x0), one), rule(f(x0, x1), x1), rule(g(a()), b(), two)},
		{rule(g(a()), b()), rule(g(x0), a(), one), rule(a(), b(), one, one)},
		{rule(g(x0), a(), one), rule(g(a()), b()), rule(a(), b(), one, one)},
		{rule(g(g(x0)), chain(14, x0)), rule(b(), chain(15, a()), one)},
		{rule(f(x0, x1), chain(12, f(x0, x0)), one), rule(b(), a())},
		slices.Repeat([]impl.Rule{rule(b(), a(), two)}, impl.RuleMax),
	}
}

// ruleLists are those of systems and the odd ones.
func ruleLists() [][]impl.Rule {
	list := oddRules()
	for _, s := range goodSystems() {
		list = append(list, s.rules)
	}
	return list
}

// ruleTerms are terms to which the rules apply in many ways.
func ruleTerms() []impl.Term {
	x0, x1, x3, x9 := variable(0), variable(1), variable(3), variable(9)
	return append(goodTerms(),
		f(g(f(x3, a())), g(g(g(b())))),
		f(f(g(x3), f(x3, x9)), f(f(x0, x1), f(x0, x1))),
		f(f(f(a(), b()), f(b(), a())), f(g(a()), g(b()))),
		f(g(g(a())), f(f(x1, x1), f(x1, x1))),
		f(f(f(x0, x0), f(x0, x0)), f(f(x0, x0), f(x0, x0))),
		g(f(g(f(a(), a())), f(b(), f(a(), b())))),
		f(f(f(f(f(x9, a()), b()), x3), x1), g(x0)),
		f(comb(6), g(x3)),
		word(2, 2, 3), word(4, 7, 0), word(4, 7, 1), word(4, 7, 2), word(3, 9, 4), word(3, 4, 4), word(4, 3, 5))
}

// eachRewrite calls do with all lists of rules and terms.
func eachRewrite(do func(rules []impl.Rule, x impl.Term)) {
	terms := ruleTerms()
	for _, rules := range ruleLists() {
		for _, x := range terms {
			do(rules, x)
		}
	}
}

// stepBy follows the document's words one by one; the terms must be valid. It
// is false also if the result is too large, and then big is set.
func stepBy(rules []impl.Rule, x impl.Term) (next impl.Term, why []impl.Link, ok, big bool) {
	for _, place := range placesBelow(x) {
		for _, r := range rules {
			s, matches := matchBy(r.L, partAt(x, place))
			if !matches {
				continue
			}
			whole := withPart(x, place, applied(s, r.R))
			if countParts(whole) > impl.TermMax {
				return impl.Term{}, nil, false, true
			}
			return whole, underBy(r.Why, place, s), true, false
		}
	}
	return impl.Term{}, nil, false, false
}

// normBy does steps by stepBy.
func normBy(rules []impl.Rule, x impl.Term) (impl.Term, []impl.Link, bool) {
	var proof []impl.Link
	for range impl.StepsMax {
		next, why, ok, big := stepBy(rules, x)
		if big || len(proof)+len(why) > impl.ProofMax {
			return impl.Term{}, nil, false
		}
		if !ok {
			return x, proof, true
		}
		x, proof = next, slices.Concat(proof, why)
	}
	return impl.Term{}, nil, false
}

// ruleOkBy follows the document's words one by one; the terms must be valid and
// rank a ranking.
func ruleOkBy(rank []int, l, r impl.Term) bool {
	names := firstVars(f(l, r))
	for i, v := range names {
		if v != i {
			return false
		}
	}
	return len(names) <= impl.TermVar/2 && moreBy(rank, l, r)
}

// mustRewrite fails unless a result is there and is the one that is expected.
func mustRewrite(t *testing.T, got impl.Term, why []impl.Link, ok bool, want impl.Term, links []impl.Link) {
	t.Helper()
	if !ok || !sameTerm(got, want) || !sameLinks(why, links) {
		t.Fatalf("got %v by %v, %v; want %v by %v", got, why, ok, want, links)
	}
}

// mustNotRewrite fails unless a result is false, with zero values.
func mustNotRewrite(t *testing.T, got impl.Term, why []impl.Link, ok bool) {
	t.Helper()
	if ok || !isZero(got) || len(why) != 0 {
		t.Fatalf("got %v by %v, %v; want nothing", got, why, ok)
	}
}

// mustStop fails unless both RuleStep and NormOf refuse their arguments.
func mustStop(t *testing.T, rules []impl.Rule, x impl.Term) {
	t.Helper()
	got, why, ok := impl.RuleStep(rules, x)
	mustNotRewrite(t, got, why, ok)
	got, why, ok = impl.NormOf(rules, x)
	mustNotRewrite(t, got, why, ok)
}

func copyRules(rules []impl.Rule) []impl.Rule {
	var list []impl.Rule
	for _, r := range rules {
		list = append(list, rule(copyTerm(r.L), copyTerm(r.R), copyLinks(r.Why)...))
	}
	return list
}

func sameRules(rules, others []impl.Rule) bool {
	return slices.EqualFunc(rules, others, func(r, o impl.Rule) bool {
		return sameTerm(r.L, o.L) && sameTerm(r.R, o.R) && sameLinks(r.Why, o.Why)
	})
}

func (m proofMemory) addRules(t *testing.T, rules []impl.Rule) {
	t.Helper()
	for _, r := range rules {
		addMemory(t, m.terms, r.L)
		addMemory(t, m.terms, r.R)
		m.addLinks(t, r.Why)
	}
}
