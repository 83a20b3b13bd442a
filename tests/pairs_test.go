package tests

import (
	"slices"
	"strings"
	"testing"

	"loop.example/tipstaff/impl"
)

func isTerm(x impl.Term) bool {
	room := impl.TermMax
	return hasParts(x, &room)
}

// isNamedPlain says whether variables are named in the order in which they
// come, and are at most half of TermVar; the term must be valid.
func isNamedPlain(x impl.Term) bool {
	names := firstVars(x)
	for i, v := range names {
		if v != i {
			return false
		}
	}
	return len(names) <= impl.TermVar/2
}

func hasPairs(r impl.Rule) bool {
	return isTerm(r.L) && isTerm(r.R) && isNamedPlain(r.L)
}

func sameSides(r, q impl.Rule) bool {
	return sameTerm(r.L, q.L) && sameTerm(r.R, q.R)
}

// apartBinds renames the variables below half of TermVar.
func apartBinds() []impl.Bind {
	var list []impl.Bind
	for v := range impl.TermVar / 2 {
		list = append(list, bind(v, variable(v+impl.TermVar/2)))
	}
	return list
}

// apartFrom is a rule with other variables.
func apartFrom(r impl.Rule) impl.Rule {
	names := apartBinds()
	return rule(applied(names, r.L), applied(names, r.R), underBy(r.Why, nil, names)...)
}

// backBy is what ProofBack is to make.
func backBy(list []impl.Link) []impl.Link {
	links := copyLinks(list)
	slices.Reverse(links)
	for i, l := range links {
		links[i] = turned(l)
	}
	return links
}

// overlap is how two rules overlap at a place: the unifier, the left side with
// it, and the pair. The rules must have pairs.
type overlap struct {
	unifier []impl.Bind
	whole   impl.Term
	pair    impl.Pair
}

// overlapBy follows the document's words one by one, with no limit of size; the
// second rule must be renamed.
func overlapBy(r, q impl.Rule, place []int) (overlap, bool) {
	s, ok := unifyBy(partAt(r.L, place), q.L)
	if !ok {
		return overlap{}, false
	}
	whole := applied(s, r.L)
	why := slices.Concat(underBy(backBy(r.Why), nil, s), underBy(q.Why, place, s))
	return overlap{s, whole, impl.Pair{S: applied(s, r.R), T: withPart(whole, place, applied(s, q.R)), Why: why}}, true
}

func (o overlap) fits() bool {
	return isTerm(o.whole) && isTerm(o.pair.S) && isTerm(o.pair.T)
}

// pairPlaces are the places at which rules that have pairs may overlap.
func pairPlaces(r, q impl.Rule) [][]int {
	return slices.DeleteFunc(placesBelow(r.L), func(place []int) bool {
		return partAt(r.L, place).Sign == 0 || len(place) == 0 && sameSides(r, q)
	})
}

// overlapsBy are all of them, also those that are too large.
func overlapsBy(r, q impl.Rule) []overlap {
	if !hasPairs(r) || !hasPairs(q) {
		return nil
	}
	var list []overlap
	other := apartFrom(q)
	for _, place := range pairPlaces(r, q) {
		if o, ok := overlapBy(r, other, place); ok {
			list = append(list, o)
		}
	}
	return list
}

// pairsBy are those that PairsOf is to return, and how many are too large.
func pairsBy(r, q impl.Rule) (pairs []impl.Pair, large int) {
	for _, o := range overlapsBy(r, q) {
		if o.fits() {
			pairs = append(pairs, o.pair)
		} else {
			large++
		}
	}
	return pairs, large
}

// meetBy follows the document's words one by one; the rules must be valid for
// NormOf, if there is a pair.
func meetBy(rules []impl.Rule, list []impl.Pair) bool {
	for _, p := range list {
		first, _, okS := normBy(rules, p.S)
		second, _, okT := normBy(rules, p.T)
		if !okS || !okT || !sameTerm(first, second) {
			return false
		}
	}
	return true
}

func pair(s, t impl.Term, why ...impl.Link) impl.Pair {
	return impl.Pair{S: s, T: t, Why: why}
}

func samePairs(list, others []impl.Pair) bool {
	return slices.EqualFunc(list, others, func(p, o impl.Pair) bool {
		return sameTerm(p.S, o.S) && sameTerm(p.T, o.T) && sameLinks(p.Why, o.Why)
	})
}

func copyPairs(list []impl.Pair) []impl.Pair {
	var pairs []impl.Pair
	for _, p := range list {
		pairs = append(pairs, pair(copyTerm(p.S), copyTerm(p.T), copyLinks(p.Why)...))
	}
	return pairs
}

func mustPairs(t *testing.T, r, q impl.Rule, want []impl.Pair) {
	t.Helper()
	if got := impl.PairsOf(r, q); !samePairs(got, want) {
		t.Fatalf("%v and %v: got %v, want %v", r, q, got, want)
	}
}

// readRule is for tables: "f(x0,a) to x0".
func readRule(t *testing.T, text string, why ...impl.Link) impl.Rule {
	t.Helper()
	l, r, found := strings.Cut(text, " to ")
	if !found {
		t.Fatalf("%q is no text of a rule", text)
	}
	return rule(readTerm(t, l), readTerm(t, r), why...)
}

// pairsText writes pairs without proofs: "x0 and f(x0,a); a and b".
func pairsText(list []impl.Pair) string {
	var texts []string
	for _, p := range list {
		texts = append(texts, impl.TermText(p.S)+" and "+impl.TermText(p.T))
	}
	return strings.Join(texts, "; ")
}

// marked is a rule with one link at the root, so that the last link of a pair
// with it tells at which place it is.
func marked(r impl.Rule) impl.Rule {
	return rule(r.L, r.R, at(0, false, nil))
}

// markedPlaces are the places of pairs of one rule and another one.
func markedPlaces(r, q impl.Rule) [][]int {
	var places [][]int
	for _, p := range impl.PairsOf(r, marked(q)) {
		places = append(places, p.Why[len(p.Why)-1].Place)
	}
	return places
}

// pairRules are rules that overlap in many ways, with proofs of any length;
// some of them have no pairs.
func pairRules() []impl.Rule {
	var list []impl.Rule
	for _, rules := range ruleLists() {
		list = append(list, rules...)
	}
	x0, x1, x2, x5, x6, x11 := variable(0), variable(1), variable(2), variable(5), variable(6), variable(11)
	one, two := at(3, true, []int{1}, bind(0, x0), bind(1, f(x1, x5))), at(2, false, nil, bind(3, g(x6)), bind(7, f(x11, x1)))
	return append(list,
		rule(x0, x5, one),
		rule(f(x0, f(x0, x1)), f(x1, x0), one, two),
		rule(f(x0, f(x1, x0)), f(x6, x0), two, one),
		rule(f(x0, f(x1, x1)), x2, two),
		rule(f(f(x0, x1), f(x1, x0)), g(x11), one),
		rule(f(x0, g(x0)), f(x6, g(x1)), one, two, two),
		rule(g(f(x0, x0)), g(f(x6, x5)), two),
		rule(f(g(x0), f(x1, g(x0))), f(x0, x1)),
		rule(comb(6), x5, one),
		rule(comb(6), x11, two, one),
		rule(f(comb(6), x2), a(), two),
		rule(g(comb(7)), x0, one),
		rule(chain(8, x0), x0, one),
		rule(chain(8, x0), chain(7, x6), two),
		rule(chain(15, a()), b(), two, two),
		rule(f(chain(9, x0), x1), x1, one),
		rule(f(x0, chain(9, x1)), a(), one),
		rule(swelling(), a(), one),
		rule(swelling(), f(x0, x1), two, one),
		rule(f(x1, x0), x0, one),
		rule(g(x1), a(), one))
}

// swelling is unified with itself, below the root, by terms of more than
// ProofBig parts.
func swelling() impl.Term {
	x0, x1, x2 := variable(0), variable(1), variable(2)
	return f(x0, f(f(x1, f(x1, x1)), f(x1, f(f(x2, x2), x2))))
}

// proofRules are rules with proofs from proofEqs that are right, in both
// directions, and rather long.
func proofRules() []impl.Rule {
	var list []impl.Rule
	for _, w := range fullWalks() {
		for _, number := range []int{1, 2, 3, 7, 20, impl.ProofMax} {
			if number >= len(w.terms) {
				continue
			}
			for start := 0; start+number < len(w.terms); start += 3 {
				l, r := w.terms[start], w.terms[start+number]
				if vars := firstVars(l); isTerm(l) && isTerm(r) && len(vars) <= impl.TermVar/2 {
					names := plainNames(vars)
					list = append(list, rule(applied(names, l), applied(names, r), underBy(w.links[start:start+number], nil, names)...))
				}
			}
		}
	}
	return list
}

func plainNames(vars []int) []impl.Bind {
	var names []impl.Bind
	for v := range impl.TermVar {
		if i := slices.Index(vars, v); i >= 0 {
			names = append(names, bind(v, variable(i)))
		}
	}
	return names
}

// swollen is a rule whose proof, from proofEqs, is right and goes through a
// large term: it is too large under some substitutions.
func swollen(height int) impl.Rule {
	x0 := variable(0)
	large := at(5, false, []int{1}, bind(2, chain(height, x0)), bind(11, chain(height, x0)))
	return rule(f(x0, b()), f(b(), x0), large, turned(large), at(2, false, nil, bind(0, x0), bind(1, b())))
}

// eachTwo calls do with all rules, two at a time, and each with itself.
func eachTwo(rules []impl.Rule, do func(r, q impl.Rule)) {
	for _, r := range rules {
		for _, q := range rules {
			do(r, q)
		}
	}
}

// endBy is where links lead with no limits, and whether they keep to those of a
// proof; the links must bind all variables of their equations.
func endBy(eqs []impl.Eq, x impl.Term, list []impl.Link) (end impl.Term, fits, ok bool) {
	fits = isProofTerm(x) && len(list) <= impl.ProofMax
	for _, l := range list {
		from, to := sidesOf(eqs[l.Eq], l.Back)
		if !hasPlace(x, l.Place) || !sameTerm(partAt(x, l.Place), applied(l.Subst, from)) {
			return impl.Term{}, false, false
		}
		x = withPart(x, l.Place, applied(l.Subst, to))
		fits = fits && isProofSubst(l.Subst) && isProofTerm(x)
	}
	return x, fits, true
}

func (m proofMemory) addPairs(t *testing.T, list []impl.Pair, seen map[*impl.Pair]bool) {
	t.Helper()
	all := list[:cap(list)]
	for i := range all {
		if seen[&all[i]] {
			t.Fatalf("memory is shared at %v", list)
		}
		seen[&all[i]] = true
	}
	for _, p := range list {
		addMemory(t, m.terms, p.S)
		addMemory(t, m.terms, p.T)
		m.addLinks(t, p.Why)
	}
}
