package tests

import (
	"slices"
	"sync"
	"testing"

	"loop.example/tipstaff/impl"
)

func eq(s, t impl.Term) impl.Eq {
	return impl.Eq{S: s, T: t}
}

// proofEqs are as many as there may be. The last two have variables on one side
// that the other one has not.
func proofEqs() []impl.Eq {
	x0, x1, x2 := variable(0), variable(1), variable(2)
	return []impl.Eq{
		eq(f(x0, a()), x0),
		eq(g(a()), b()),
		eq(f(x0, x1), f(x1, x0)),
		eq(f(f(x0, x1), x2), f(x0, f(x1, x2))),
		eq(g(f(x0, x1)), g(x1)),
		eq(b(), f(x2, variable(11))),
	}
}

// bigTerms are terms of a proof that are too large to be valid otherwise.
func bigTerms() []impl.Term {
	return []impl.Term{
		chain(16, a()),
		chain(40, variable(5)),
		chain(63, a()),
		rightComb(31, variable(3), a()),
		g(rightComb(31, b(), variable(11))),
		f(chain(29, a()), rightComb(16, variable(0), b())),
	}
}

// hasParts counts the room down before it looks inside, because a term may
// contain itself.
func hasParts(x impl.Term, room *int) bool {
	*room--
	if *room < 0 {
		return false
	}
	if x.Sign == 0 {
		return x.Var >= 0 && x.Var < impl.TermVar && len(x.Kids) == 0
	}
	arity := map[int]int{impl.SignA: 0, impl.SignB: 0, impl.SignG: 1, impl.SignF: 2}
	if number, known := arity[x.Sign]; !known || x.Var != 0 || len(x.Kids) != number {
		return false
	}
	return !slices.ContainsFunc(x.Kids, func(kid impl.Term) bool { return !hasParts(kid, room) })
}

func isProofTerm(x impl.Term) bool {
	room := impl.ProofBig
	return hasParts(x, &room)
}

func isProofSubst(s []impl.Bind) bool {
	last := -1
	for _, b := range s {
		if b.Var <= last || b.Var >= impl.TermVar || !isProofTerm(b.Term) {
			return false
		}
		last = b.Var
	}
	return true
}

// badProofTerms leaves out the bad terms that are only too large to be valid.
func badProofTerms() []badTerm {
	list := []badTerm{
		{"one g too many for a proof", chain(64, a())},
		{"one f too many for a proof", rightComb(32, a(), b())},
		{"bad part at the limit of a proof", chain(63, variable(impl.TermVar))},
	}
	for _, bad := range badTerms() {
		if !isProofTerm(bad.term) {
			list = append(list, bad)
		}
	}
	return list
}

func badProofSubsts() []badSubst {
	var list []badSubst
	for _, bad := range badSubsts() {
		if !isProofSubst(bad.binds) {
			list = append(list, bad)
		}
	}
	for _, bad := range badProofTerms() {
		list = append(list, badSubst{"in a proof: " + bad.name, []impl.Bind{bind(0, variable(0)), bind(7, bad.term)}})
	}
	return list
}

func hasPlace(x impl.Term, place []int) bool {
	for _, index := range place {
		if index < 0 || index >= len(x.Kids) {
			return false
		}
		x = x.Kids[index]
	}
	return true
}

// sidesOf has the side first that a link takes away.
func sidesOf(e impl.Eq, back bool) (impl.Term, impl.Term) {
	if back {
		return e.T, e.S
	}
	return e.S, e.T
}

// linkBy follows the document's words one by one; only the equations must be
// valid, and the term one of a proof.
func linkBy(eqs []impl.Eq, x impl.Term, l impl.Link) (impl.Term, bool) {
	if l.Eq < 0 || l.Eq >= len(eqs) || !isProofSubst(l.Subst) || !hasPlace(x, l.Place) {
		return impl.Term{}, false
	}
	from, to := sidesOf(eqs[l.Eq], l.Back)
	if !sameTerm(partAt(x, l.Place), applied(l.Subst, from)) {
		return impl.Term{}, false
	}
	whole := withPart(x, l.Place, applied(l.Subst, to))
	if !isProofTerm(whole) {
		return impl.Term{}, false
	}
	return whole, true
}

// dice gives numbers that look thrown and are the same in every run.
type dice uint32

func (d *dice) below(most int) int {
	*d = *d*1664525 + 1013904223
	return int(uint64(*d) * uint64(most) >> 32)
}

// walk is a proof beside all the terms it leads to, the first term first.
type walk struct {
	terms []impl.Term
	links []impl.Link
}

func (w walk) start() impl.Term {
	return w.terms[0]
}

func (w walk) end() impl.Term {
	return w.terms[len(w.terms)-1]
}

// freeValues are for variables that stand only on the side that comes in, or on
// neither.
func freeValues() []impl.Term {
	return []impl.Term{a(), variable(5), g(variable(0)), f(variable(2), b()), variable(11), chain(16, variable(1))}
}

// withFree binds variables that a match leaves free: all of the equation if
// full is set, and some of the others.
func withFree(s []impl.Bind, e impl.Eq, full bool, d *dice) []impl.Bind {
	needed := varsBelow(f(e.S, e.T), nil)
	var list []impl.Bind
	for v := range impl.TermVar {
		choice := d.below(4)
		switch {
		case isBound(s, v):
			list = append(list, bind(v, valueOf(s, v)))
		case slices.Contains(needed, v) && (full || choice > 1), choice == 0 && v > 5:
			values := freeValues()
			list = append(list, bind(v, values[d.below(len(values))]))
		}
	}
	return list
}

// nextLink throws until it finds a link from x to a term that is not larger
// than most.
func nextLink(eqs []impl.Eq, x impl.Term, most int, full bool, d *dice) (impl.Link, impl.Term) {
	places := placesBelow(x)
	for {
		index, back, place := d.below(len(eqs)), d.below(2) == 1, places[d.below(len(places))]
		from, to := sidesOf(eqs[index], back)
		part := partAt(x, place)
		if from.Sign != 0 && from.Sign != part.Sign {
			continue
		}
		s, ok := matchBy(from, part)
		if !ok {
			continue
		}
		s = withFree(s, eqs[index], full, d)
		whole := withPart(x, place, applied(s, to))
		if countParts(whole) <= most {
			return impl.Link{Eq: index, Back: back, Place: slices.Clone(place), Subst: s}, whole
		}
	}
}

func walkFrom(eqs []impl.Eq, start impl.Term, number, most int, full bool, d *dice) walk {
	w := walk{terms: []impl.Term{start}}
	for range number {
		l, x := nextLink(eqs, w.end(), most, full, d)
		w.links = append(w.links, l)
		w.terms = append(w.terms, x)
	}
	return w
}

// fullWalks have links that bind all variables of their equations; those of
// looseWalks leave some of them free. Both are thrown only once, as that takes
// longer than most tests.
var (
	fullWalks  = sync.OnceValue(func() []walk { return walks(true) })
	looseWalks = sync.OnceValue(func() []walk { return walks(false) })
)

// walks are proofs of none to ProofMax links, of small and of big terms.
func walks(full bool) []walk {
	var list []walk
	d := dice(7)
	starts := append(bigTerms(), a(), b(), variable(0), g(f(a(), a())), f(variable(1), g(b())), comb(5), chain(15, f(a(), b())))
	for _, start := range starts {
		for _, number := range []int{0, 1, 2, 7, 20, impl.ProofMax} {
			list = append(list, walkFrom(proofEqs(), start, number, impl.ProofBig, full, &d))
		}
		list = append(list, walkFrom(proofEqs(), start, 5, min(countParts(start)+4, impl.ProofBig), full, &d))
	}
	return list
}

func sameLink(l, k impl.Link) bool {
	return l.Eq == k.Eq && l.Back == k.Back && slices.Equal(l.Place, k.Place) && sameBinds(l.Subst, k.Subst)
}

func sameLinks(list, other []impl.Link) bool {
	return slices.EqualFunc(list, other, sameLink)
}

func copyLinks(list []impl.Link) []impl.Link {
	var links []impl.Link
	for _, l := range list {
		l.Place, l.Subst = slices.Clone(l.Place), copyBinds(l.Subst)
		links = append(links, l)
	}
	return links
}

func copyEqs(eqs []impl.Eq) []impl.Eq {
	var list []impl.Eq
	for _, e := range eqs {
		list = append(list, eq(copyTerm(e.S), copyTerm(e.T)))
	}
	return list
}

func sameEqs(eqs, others []impl.Eq) bool {
	return slices.EqualFunc(eqs, others, func(e, o impl.Eq) bool { return sameTerm(e.S, o.S) && sameTerm(e.T, o.T) })
}

// turned is a link the other way.
func turned(l impl.Link) impl.Link {
	l.Back = !l.Back
	return l
}

// underBy is what ProofUnder is to make, however large its terms.
func underBy(list []impl.Link, place []int, s []impl.Bind) []impl.Link {
	var links []impl.Link
	for _, l := range copyLinks(list) {
		l.Place = join(place, l.Place)
		for i, b := range l.Subst {
			l.Subst[i].Term = applied(s, b.Term)
		}
		links = append(links, l)
	}
	return links
}

// proofMemory notes where in memory results lie; see addMemory.
type proofMemory struct {
	terms map[*impl.Term]bool
	binds map[*impl.Bind]bool
	links map[*impl.Link]bool
	steps map[*int]bool
}

func newProofMemory() proofMemory {
	return proofMemory{map[*impl.Term]bool{}, map[*impl.Bind]bool{}, map[*impl.Link]bool{}, map[*int]bool{}}
}

func (m proofMemory) addPlace(t *testing.T, place []int) {
	t.Helper()
	all := place[:cap(place)]
	for i := range all {
		if m.steps[&all[i]] {
			t.Fatalf("memory is shared at the place %v", place)
		}
		m.steps[&all[i]] = true
	}
}

func (m proofMemory) addLinks(t *testing.T, list []impl.Link) {
	t.Helper()
	all := list[:cap(list)]
	for i := range all {
		if m.links[&all[i]] {
			t.Fatalf("memory is shared at %v", list)
		}
		m.links[&all[i]] = true
	}
	for _, l := range list {
		m.addPlace(t, l.Place)
		addBindsMemory(t, m.terms, m.binds, l.Subst)
	}
}

func (m proofMemory) addEqs(t *testing.T, eqs []impl.Eq) {
	t.Helper()
	for _, e := range eqs {
		addMemory(t, m.terms, e.S)
		addMemory(t, m.terms, e.T)
	}
}
