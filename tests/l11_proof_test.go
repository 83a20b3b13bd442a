package tests

import (
	"slices"
	"testing"

	"loop.example/tipstaff/impl"
)

const mostInt = int(^uint(0) >> 1)

// at is a link at a place, with a substitution.
func at(index int, back bool, place []int, s ...impl.Bind) impl.Link {
	return impl.Link{Eq: index, Back: back, Place: place, Subst: s}
}

// mustRefuse fails unless both LinkDo and ProofEnd refuse a link.
func mustRefuse(t *testing.T, eqs []impl.Eq, x impl.Term, l impl.Link) {
	t.Helper()
	got, ok := impl.LinkDo(eqs, x, l)
	mustFail(t, got, ok)
	got, ok = impl.ProofEnd(eqs, x, []impl.Link{l})
	mustFail(t, got, ok)
}

func TestGoodEquationsAreOk(t *testing.T) {
	for number := range impl.EqMax + 1 {
		if !impl.EqsOk(proofEqs()[:number]) {
			t.Errorf("%d equations are valid", number)
		}
	}
	for _, x := range goodTerms() {
		if !impl.EqsOk([]impl.Eq{eq(x, a()), eq(b(), x), eq(x, x)}) {
			t.Fatalf("equations of %v are valid", x)
		}
	}
	if !impl.EqsOk(nil) || !impl.EqsOk([]impl.Eq{}) || !impl.EqsOk(make([]impl.Eq, impl.EqMax)) {
		t.Error("no equation, and EqMax of them, are valid")
	}
}

func TestTooManyEquationsAreRefused(t *testing.T) {
	for _, number := range []int{impl.EqMax + 1, impl.EqMax + 2, 100000} {
		eqs := slices.Repeat([]impl.Eq{eq(a(), b())}, number)
		if impl.EqsOk(eqs) {
			t.Errorf("%d equations", number)
		}
		mustRefuse(t, eqs, a(), at(0, false, nil))
		got, ok := impl.ProofEnd(eqs, a(), nil)
		mustFail(t, got, ok)
	}
	got, ok := impl.LinkDo(slices.Repeat([]impl.Eq{eq(a(), b())}, impl.EqMax), a(), at(impl.EqMax-1, false, nil))
	mustTerm(t, got, ok, b())
}

func TestEquationsOfABadTermAreRefused(t *testing.T) {
	for _, bad := range badTerms() {
		t.Run(bad.name, func(t *testing.T) {
			for i := range impl.EqMax {
				for _, e := range []impl.Eq{eq(bad.term, a()), eq(a(), bad.term), eq(bad.term, bad.term)} {
					eqs := slices.Repeat([]impl.Eq{eq(a(), b())}, impl.EqMax)
					eqs[i] = e
					if impl.EqsOk(eqs) || impl.EqsOk(eqs[:i+1]) {
						t.Fatalf("EqsOk at %d", i)
					}
					mustRefuse(t, eqs, a(), at((i+1)%impl.EqMax, false, nil))
					mustRefuse(t, eqs, a(), at(i, false, nil))
					got, ok := impl.ProofEnd(eqs, a(), nil)
					mustFail(t, got, ok)
				}
			}
		})
	}
}

func TestSomeLinks(t *testing.T) {
	eqs := proofEqs()
	x0, x1, x2, x11 := variable(0), variable(1), variable(2), variable(11)
	list := []struct {
		from impl.Term
		link impl.Link
		to   impl.Term
	}{
		{g(f(a(), a())), at(0, false, []int{0}, bind(0, a())), g(a())},
		{g(a()), at(0, true, []int{0}, bind(0, a())), g(f(a(), a()))},
		{g(a()), at(0, true, nil, bind(0, g(a()))), f(g(a()), a())},
		{g(a()), at(1, false, nil), b()},
		{b(), at(1, true, nil), g(a())},
		{g(a()), at(1, false, []int{}, bind(0, b()), bind(11, g(x1))), b()},
		{f(x0, x1), at(2, false, nil), f(x1, x0)},
		{f(x1, x0), at(2, false, nil, bind(0, x1), bind(1, x0)), f(x0, x1)},
		{f(b(), g(x1)), at(2, true, nil, bind(0, g(x1)), bind(1, b())), f(g(x1), b())},
		{g(f(a(), x2)), at(4, false, nil, bind(0, a()), bind(1, x2)), g(x2)},
		{g(x2), at(4, true, nil, bind(0, a()), bind(1, x2)), g(f(a(), x2))},
		{g(x2), at(4, true, nil, bind(1, x2)), g(f(x0, x2))},
		{g(x1), at(4, true, nil), g(f(x0, x1))},
		{f(a(), b()), at(5, false, []int{1}, bind(2, a()), bind(11, g(x0))), f(a(), f(a(), g(x0)))},
		{f(a(), b()), at(5, false, []int{1}, bind(11, g(x0))), f(a(), f(x2, g(x0)))},
		{f(a(), b()), at(5, false, []int{1}, bind(5, b())), f(a(), f(x2, x11))},
		{f(a(), f(x2, x11)), at(5, true, []int{1}), f(a(), b())},
		{f(a(), f(b(), a())), at(5, true, []int{1}, bind(2, b()), bind(11, a())), f(a(), b())},
	}
	for i, c := range list {
		got, ok := impl.LinkDo(eqs, c.from, c.link)
		if !ok || !sameTerm(got, c.to) {
			t.Errorf("link %d: got %v, %v", i, got, ok)
		}
	}
}

func TestLinksToOtherTermsAreRefused(t *testing.T) {
	eqs := proofEqs()
	x0, x1 := variable(0), variable(1)
	list := []struct {
		from impl.Term
		link impl.Link
	}{
		{g(b()), at(1, false, nil)},
		{g(a()), at(1, true, nil)},
		{g(a()), at(1, false, []int{0})},
		{g(g(a())), at(1, false, nil)},
		{g(x0), at(1, false, nil, bind(0, a()))},
		{f(a(), a()), at(0, false, nil)},
		{f(a(), a()), at(0, false, nil, bind(0, b()))},
		{f(a(), a()), at(0, false, nil, bind(1, a()))},
		{f(a(), b()), at(0, false, nil, bind(0, a()))},
		{f(x1, x0), at(2, false, nil)},
		{f(a(), b()), at(2, true, nil, bind(0, a()), bind(1, b()))},
		{g(f(a(), b())), at(4, false, nil, bind(1, b()))},
		{g(f(a(), b())), at(4, false, nil, bind(0, a()))},
		{f(b(), b()), at(5, true, nil, bind(2, b()))},
		{f(b(), b()), at(5, true, nil)},
	}
	for _, c := range list {
		mustRefuse(t, eqs, c.from, c.link)
	}
}

// linkSubsts bind all of an equation's variables, some of them, and others.
func linkSubsts() [][]impl.Bind {
	return [][]impl.Bind{
		nil,
		{bind(0, a())},
		{bind(1, b())},
		{bind(0, variable(1)), bind(1, variable(0))},
		{bind(0, g(variable(0))), bind(11, f(variable(11), a()))},
		{bind(0, a()), bind(1, b()), bind(2, a())},
		{bind(0, a()), bind(1, a()), bind(2, b()), bind(11, a())},
		{bind(0, variable(11)), bind(1, variable(0)), bind(11, b())},
		{bind(2, b()), bind(11, g(a()))},
		{bind(0, b()), bind(1, g(a())), bind(4, chain(63, b()))},
		{bind(0, b()), bind(1, g(a())), bind(4, chain(64, b()))},
		{bind(0, chain(16, b()))},
		{bind(2, chain(61, b()))},
		{bind(2, chain(62, b()))},
		{bind(1, b()), bind(0, a())},
		{bind(0, a()), bind(0, a())},
	}
}

// linkTerms have both sides of each equation with each substitution applied,
// at the root and below a symbol, if they are terms of a proof.
func linkTerms() []impl.Term {
	list := []impl.Term{a(), b(), variable(0), g(a()), f(variable(0), variable(1)), g(f(b(), a()))}
	for _, s := range linkSubsts() {
		for _, e := range proofEqs() {
			for _, x := range []impl.Term{applied(s, e.S), applied(s, e.T), f(applied(s, e.S), applied(s, e.T))} {
				if isProofTerm(x) {
					list = append(list, x)
				}
			}
		}
	}
	return list
}

func TestLinksOfAllKinds(t *testing.T) {
	eqs := proofEqs()
	done := 0
	for _, x := range linkTerms() {
		for _, s := range linkSubsts() {
			for index := -1; index <= len(eqs); index++ {
				for _, place := range [][]int{nil, {0}, {1}, {1, 0}, {2}} {
					for _, back := range []bool{false, true} {
						l := impl.Link{Eq: index, Back: back, Place: place, Subst: s}
						want, okWant := linkBy(eqs, x, l)
						got, ok := impl.LinkDo(eqs, x, l)
						if ok != okWant || !sameTerm(got, want) {
							t.Fatalf("%v from %v: got %v, %v; want %v, %v", l, x, got, ok, want, okWant)
						}
						if ok {
							done++
						}
					}
				}
			}
		}
	}
	if done < 1000 {
		t.Errorf("only %d links were done", done)
	}
}

func TestLinksOfNoEquationAreRefused(t *testing.T) {
	for number := range impl.EqMax + 1 {
		eqs := slices.Repeat([]impl.Eq{eq(a(), a())}, number)
		for _, index := range []int{-mostInt - 1, -number - 1, -2, -1, number, number + 1, impl.EqMax, mostInt} {
			for _, back := range []bool{false, true} {
				mustRefuse(t, eqs, a(), at(index, back, nil))
			}
		}
	}
}

func TestLinksAtMissingPlacesAreRefused(t *testing.T) {
	eqs := []impl.Eq{eq(variable(0), variable(1))}
	for _, x := range append(goodTerms(), bigTerms()...) {
		for _, place := range placesBelow(x) {
			part := partAt(x, place)
			got, ok := impl.LinkDo(eqs, x, at(0, false, place, bind(0, part), bind(1, part)))
			mustTerm(t, got, ok, x)
			for _, index := range []int{-mostInt - 1, -1, len(part.Kids), len(part.Kids) + 1, mostInt} {
				for _, more := range [][]int{nil, {0}, {-1}} {
					wrong := slices.Concat(place, []int{index}, more)
					for _, s := range [][]impl.Bind{nil, {bind(0, part), bind(1, a())}} {
						got, ok := impl.LinkDo(eqs, x, at(0, false, wrong, s...))
						mustFail(t, got, ok)
					}
				}
			}
		}
	}
	mustRefuse(t, eqs, chain(63, variable(0)), at(0, false, make([]int, 1000000)))
}

func TestLinksFromBadTermsAreRefused(t *testing.T) {
	eqs := []impl.Eq{eq(variable(0), a()), eq(a(), b())}
	for _, bad := range badProofTerms() {
		t.Run(bad.name, func(t *testing.T) {
			for _, x := range []impl.Term{bad.term, f(a(), bad.term), f(bad.term, a())} {
				for _, place := range [][]int{nil, {0}, {1}, {0, 0}} {
					mustRefuse(t, eqs, x, at(0, false, place))
					mustRefuse(t, eqs, x, at(0, false, place, bind(0, bad.term)))
					mustRefuse(t, eqs, x, at(1, false, place))
				}
				got, ok := impl.ProofEnd(eqs, x, nil)
				mustFail(t, got, ok)
			}
		})
	}
}

func TestLinksWithBadSubstitutionsAreRefused(t *testing.T) {
	eqs := []impl.Eq{eq(a(), b()), eq(variable(3), variable(3)), eq(f(variable(0), a()), a())}
	for _, bad := range badProofSubsts() {
		t.Run(bad.name, func(t *testing.T) {
			for _, x := range []impl.Term{a(), b(), variable(3), f(variable(0), a()), f(a(), a())} {
				for index := range eqs {
					mustRefuse(t, eqs, x, at(index, false, nil, bad.binds...))
					mustRefuse(t, eqs, x, at(index, true, nil, bad.binds...))
				}
			}
		})
	}
}

func TestLinksKeepToTheSizeOfAProof(t *testing.T) {
	x0, x2 := variable(0), variable(2)
	eqs := []impl.Eq{eq(a(), g(a())), eq(g(x0), f(x0, x0)), eq(b(), f(x2, variable(11))), eq(b(), x2)}
	list := []struct {
		from impl.Term
		link impl.Link
		to   impl.Term
	}{
		{chain(15, a()), at(0, false, make([]int, 15)), chain(16, a())},
		{chain(62, a()), at(0, false, make([]int, 62)), chain(63, a())},
		{chain(63, a()), at(0, false, make([]int, 63)), chain(64, a())},
		{chain(31, b()), at(1, false, nil, bind(0, chain(30, b()))), f(chain(30, b()), chain(30, b()))},
		{chain(32, b()), at(1, false, []int{0}, bind(0, chain(30, b()))), g(f(chain(30, b()), chain(30, b())))},
		{chain(32, b()), at(1, false, nil, bind(0, chain(31, b()))), f(chain(31, b()), chain(31, b()))},
		{b(), at(2, false, nil, bind(2, chain(61, x0))), f(chain(61, x0), variable(11))},
		{b(), at(2, false, nil, bind(2, chain(62, x0))), f(chain(62, x0), variable(11))},
		{b(), at(3, false, nil, bind(2, chain(63, x0))), chain(63, x0)},
		{b(), at(3, false, nil, bind(2, chain(64, x0))), chain(64, x0)},
		{g(b()), at(3, false, []int{0}, bind(2, chain(62, x0))), chain(63, x0)},
		{g(b()), at(3, false, []int{0}, bind(2, chain(63, x0))), chain(64, x0)},
		{b(), at(3, false, nil, bind(2, a()), bind(3, chain(63, x0))), a()},
	}
	for i, c := range list {
		got, ok := impl.LinkDo(eqs, c.from, c.link)
		if countParts(c.to) > impl.ProofBig {
			mustFail(t, got, ok)
			mustRefuse(t, eqs, c.to, turned(c.link))
			continue
		}
		if !ok || !sameTerm(got, c.to) {
			t.Errorf("link %d: got %v, %v", i, got, ok)
		}
		back, ok := impl.LinkDo(eqs, c.to, turned(c.link))
		mustTerm(t, back, ok, c.from)
	}
	mustRefuse(t, eqs, b(), at(3, false, nil, bind(2, a()), bind(3, chain(64, x0))))
}

// eachLink calls do with all links of proofs, and the terms before and behind.
func eachLink(do func(l impl.Link, from, to impl.Term)) {
	eachWalk(func(w walk) {
		for i, l := range w.links {
			do(l, w.terms[i], w.terms[i+1])
		}
	})
}

func eachWalk(do func(w walk)) {
	for _, w := range slices.Concat(fullWalks(), looseWalks()) {
		do(w)
	}
}

func TestP49ReversedLinkUndoesTheLink(t *testing.T) {
	eachLink(func(l impl.Link, from, to impl.Term) {
		there, ok := impl.LinkDo(proofEqs(), from, l)
		mustTerm(t, there, ok, to)
		back, ok := impl.LinkDo(proofEqs(), there, turned(l))
		mustTerm(t, back, ok, from)
	})
}

func TestP50LinkChangesNothingOutside(t *testing.T) {
	eachLink(func(l impl.Link, from, to impl.Term) {
		got, ok := impl.LinkDo(proofEqs(), from, l)
		if !ok {
			t.Fatalf("%v from %v", l, from)
		}
		for _, place := range placesBelow(from) {
			if below(place, l.Place) {
				continue
			}
			if !hasPlace(got, place) {
				t.Fatalf("%v from %v takes the place %v away", l, from, place)
			}
			old, now := partAt(from, place), partAt(got, place)
			if old.Sign != now.Sign || old.Var != now.Var || len(old.Kids) != len(now.Kids) {
				t.Fatalf("%v from %v changes the symbol at %v", l, from, place)
			}
			if disjoint(place, l.Place) {
				mustTerm(t, now, ok, old)
			}
		}
	})
}

func TestP51SidesAreAtThePlaceOfALink(t *testing.T) {
	eachLink(func(l impl.Link, from, to impl.Term) {
		got, ok := impl.LinkDo(proofEqs(), from, l)
		if !ok || !hasPlace(got, l.Place) {
			t.Fatalf("%v from %v: %v, %v", l, from, got, ok)
		}
		before, after := sidesOf(proofEqs()[l.Eq], l.Back)
		mustTerm(t, partAt(from, l.Place), ok, applied(l.Subst, before))
		mustTerm(t, partAt(got, l.Place), ok, applied(l.Subst, after))
	})
}

// changedLinks are other links than l; most of them are none from where l is.
func changedLinks(l impl.Link) []impl.Link {
	other, behind, deeper, bound := l, l, l, l
	other.Eq--
	behind.Eq++
	deeper.Place = join(l.Place, []int{0})
	bound.Subst = []impl.Bind{bind(0, variable(4)), bind(1, b())}
	return []impl.Link{l, turned(l), other, behind, deeper, bound}
}

func TestP52SingleLinkIsAProof(t *testing.T) {
	eachLink(func(l impl.Link, from, to impl.Term) {
		for _, k := range changedLinks(l) {
			want, okWant := linkBy(proofEqs(), from, k)
			one, okOne := impl.LinkDo(proofEqs(), from, k)
			proof, okProof := impl.ProofEnd(proofEqs(), from, []impl.Link{k})
			if okOne != okWant || okProof != okWant || !sameTerm(one, want) || !sameTerm(proof, want) {
				t.Fatalf("%v from %v: %v, %v and %v, %v; want %v, %v", k, from, one, okOne, proof, okProof, want, okWant)
			}
		}
	})
}

func TestP53ProofCanBeSplit(t *testing.T) {
	eachWalk(func(w walk) {
		whole, ok := impl.ProofEnd(proofEqs(), w.start(), w.links)
		mustTerm(t, whole, ok, w.end())
		for i := range len(w.links) + 1 {
			half, ok := impl.ProofEnd(proofEqs(), w.start(), w.links[:i])
			mustTerm(t, half, ok, w.terms[i])
			rest, ok := impl.ProofEnd(proofEqs(), half, w.links[i:])
			mustTerm(t, rest, ok, whole)
		}
	})
}

func TestProofThatFailsSomewhereIsRefused(t *testing.T) {
	eachWalk(func(w walk) {
		for _, i := range []int{0, len(w.links) / 2, len(w.links) - 1} {
			if i < 0 || i >= len(w.links) {
				continue
			}
			for _, l := range changedLinks(w.links[i]) {
				if _, ok := linkBy(proofEqs(), w.terms[i], l); ok {
					continue
				}
				list := copyLinks(w.links)
				list[i] = l
				got, ok := impl.ProofEnd(proofEqs(), w.start(), list)
				mustFail(t, got, ok)
				got, ok = impl.ProofEnd(proofEqs(), w.start(), list[:i])
				mustTerm(t, got, ok, w.terms[i])
			}
		}
	})
}

func TestProofThatBecomesTooLargeIsRefused(t *testing.T) {
	eqs := []impl.Eq{eq(a(), g(a()))}
	grow := func(depth int) impl.Link { return at(0, false, make([]int, depth)) }
	list := []impl.Link{grow(62), grow(63), turned(grow(63))}
	got, ok := impl.ProofEnd(eqs, chain(62, a()), list)
	mustFail(t, got, ok)
	got, ok = impl.ProofEnd(eqs, chain(62, a()), list[:1])
	mustTerm(t, got, ok, chain(63, a()))
}

func TestP54ReversedProofLeadsBack(t *testing.T) {
	eachWalk(func(w walk) {
		got, ok := impl.ProofEnd(proofEqs(), w.end(), impl.ProofBack(w.links))
		mustTerm(t, got, ok, w.start())
	})
}

func TestReversedProofHasItsLinksTurned(t *testing.T) {
	eachWalk(func(w walk) {
		var want []impl.Link
		for _, l := range w.links {
			want = append([]impl.Link{turned(l)}, want...)
		}
		if back := impl.ProofBack(w.links); !sameLinks(back, want) {
			t.Fatalf("%v became %v", w.links, back)
		}
	})
}

// oddLinks are no proof of any equations, but lists of links all the same.
func oddLinks() []impl.Link {
	list := []impl.Link{
		{},
		{Eq: -1, Back: true},
		{Eq: -mostInt - 1, Place: []int{-1, mostInt}},
		{Eq: mostInt, Place: make([]int, 1000), Subst: []impl.Bind{}},
		at(0, true, []int{5}, bind(3, a()), bind(3, b())),
		at(1, false, []int{0, 1}, bind(mostInt, a()), bind(-1, b())),
		at(2, true, nil, bind(0, chain(64, variable(0)))),
		at(2, true, nil, bind(0, impl.Term{Var: 3, Kids: []impl.Term{b()}}), bind(1, impl.Term{Sign: 9, Var: -4})),
	}
	return append(list, slices.Repeat([]impl.Link{at(1, true, []int{1}, bind(2, f(a(), b())))}, impl.ProofMax)...)
}

func TestP55ReversingTwiceRestores(t *testing.T) {
	eachWalk(func(w walk) {
		if twice := impl.ProofBack(impl.ProofBack(w.links)); !sameLinks(twice, w.links) {
			t.Fatalf("%v became %v", w.links, twice)
		}
	})
	for i := range len(oddLinks()) + 1 {
		if twice := impl.ProofBack(impl.ProofBack(oddLinks()[:i])); !sameLinks(twice, oddLinks()[:i]) {
			t.Fatalf("%v became %v", oddLinks()[:i], twice)
		}
	}
	if len(impl.ProofBack(nil)) != 0 || len(impl.ProofBack([]impl.Link{})) != 0 {
		t.Error("no link, reversed, is no link")
	}
}

// context is a term with a place below which proofs are put.
type context struct {
	whole impl.Term
	place []int
}

func contexts() []context {
	x7 := variable(7)
	return []context{
		{a(), nil},
		{a(), []int{}},
		{g(a()), []int{0}},
		{f(a(), x7), []int{0}},
		{f(b(), x7), []int{1}},
		{f(f(x7, g(a())), b()), []int{0, 1, 0}},
		{chain(20, f(x7, a())), placeOfDepth(20, 1)},
		{chain(60, b()), placeOfDepth(60)},
	}
}

func underSubsts() [][]impl.Bind {
	x0, x1, x5 := variable(0), variable(1), variable(5)
	return [][]impl.Bind{
		nil,
		{bind(0, b())},
		{bind(0, g(x1)), bind(1, x0), bind(11, f(a(), x5))},
		{bind(2, x5), bind(5, f(x5, x0)), bind(8, a())},
		{bind(5, chain(20, x5))},
		{bind(0, chain(31, a())), bind(1, a()), bind(3, g(a()))},
		{bind(4, chain(63, x0))},
		numbered(func(number int) impl.Term { return variable(11 - number) }),
		numbered(func(int) impl.Term { return f(x0, x1) }),
	}
}

// staysSmall says whether all terms of a proof are still terms of a proof below
// a place, under a substitution.
func staysSmall(w walk, c context, s []impl.Bind) bool {
	for _, x := range w.terms {
		if !isProofTerm(withPart(c.whole, c.place, applied(s, x))) {
			return false
		}
	}
	return !slices.ContainsFunc(underBy(w.links, nil, s), func(l impl.Link) bool { return !isProofSubst(l.Subst) })
}

func TestP56ProofUnderLeadsFromInstanceToInstance(t *testing.T) {
	small, large := 0, 0
	for _, w := range fullWalks() {
		for _, c := range contexts() {
			for _, s := range underSubsts() {
				from := withPart(c.whole, c.place, applied(s, w.start()))
				got, ok := impl.ProofEnd(proofEqs(), from, impl.ProofUnder(w.links, c.place, s))
				if staysSmall(w, c, s) {
					small++
					mustTerm(t, got, ok, withPart(c.whole, c.place, applied(s, w.end())))
				} else {
					large++
					mustFail(t, got, ok)
				}
			}
		}
	}
	if small < 1000 || large < 1000 {
		t.Errorf("%d proofs are not too large, and %d are", small, large)
	}
}

func TestProofUnderOfSomeLinks(t *testing.T) {
	x0, x1, x5 := variable(0), variable(1), variable(5)
	list := []impl.Link{
		at(0, false, nil, bind(0, x5)),
		at(2, true, []int{1, 0}, bind(0, x0), bind(1, f(x1, x5)), bind(7, g(x0))),
		at(9, false, []int{3}),
	}
	s := []impl.Bind{bind(0, x5), bind(5, g(x0)), bind(7, b())}
	want := []impl.Link{
		at(0, false, []int{0, 1}, bind(0, g(x0))),
		at(2, true, []int{0, 1, 1, 0}, bind(0, x5), bind(1, f(x1, g(x0))), bind(7, g(x5))),
		at(9, false, []int{0, 1, 3}),
	}
	if got := impl.ProofUnder(list, []int{0, 1}, s); !sameLinks(got, want) {
		t.Errorf("got %v, want %v", got, want)
	}
}

func TestProofUnderOfAllKinds(t *testing.T) {
	eachWalk(func(w walk) {
		for _, c := range contexts() {
			for _, s := range underSubsts() {
				got := impl.ProofUnder(w.links, c.place, s)
				if want := underBy(w.links, c.place, s); !sameLinks(got, want) {
					t.Fatalf("%v under %v, %v: got %v, want %v", w.links, c.place, s, got, want)
				}
			}
		}
	})
}

func TestProofUnderTwiceIsProofUnderBoth(t *testing.T) {
	places := [][]int{nil, {0}, {1, 0}, placeOfDepth(100, 1)}
	for _, w := range fullWalks() {
		for _, inner := range places {
			for _, outer := range places {
				s, u := underSubsts()[2], underSubsts()[3]
				twice := impl.ProofUnder(impl.ProofUnder(w.links, inner, s), outer, u)
				once := impl.ProofUnder(w.links, join(outer, inner), thenOf(s, u))
				if !sameLinks(twice, once) {
					t.Fatalf("%v under %v and %v: %v and %v", w.links, inner, outer, twice, once)
				}
			}
		}
	}
}

func TestProofUnderMakesTermsAsLargeAsTheyAre(t *testing.T) {
	wide := rightComb(31, variable(3), variable(3))
	s := []impl.Bind{bind(3, wide)}
	list := []impl.Link{at(0, false, nil, bind(0, wide), bind(1, g(wide)))}
	got := impl.ProofUnder(list, nil, s)
	if !sameLinks(got, underBy(list, nil, s)) {
		t.Error("a term of a proof under a substitution of a proof")
	}
	mustRefuse(t, []impl.Eq{eq(a(), b())}, a(), got[0])
}

func TestP57ProofUnderTheRootIsTheProof(t *testing.T) {
	eachWalk(func(w walk) {
		for _, got := range [][]impl.Link{impl.ProofUnder(w.links, nil, nil), impl.ProofUnder(w.links, []int{}, []impl.Bind{})} {
			if !sameLinks(got, w.links) {
				t.Fatalf("%v became %v", w.links, got)
			}
		}
		for _, s := range underSubsts() {
			if got := impl.ProofUnder(w.links, []int{1, 0}, s); len(got) != len(w.links) {
				t.Fatalf("%d links became %d", len(w.links), len(got))
			}
		}
	})
	if got := impl.ProofUnder(oddLinks(), nil, nil); !sameLinks(got, oddLinks()) {
		t.Errorf("%v became %v", oddLinks(), got)
	}
	if len(impl.ProofUnder(nil, []int{1}, []impl.Bind{bind(0, a())})) != 0 {
		t.Error("no link is no link anywhere")
	}
}

func TestP57ProofUnderAlwaysHasAsManyLinks(t *testing.T) {
	lists := [][]impl.Link{nil, oddLinks(), {at(0, false, []int{1}, bind(0, variable(0)), bind(7, comb(8)))}}
	for _, bad := range badProofSubsts() {
		t.Run(bad.name, func(t *testing.T) {
			for _, list := range lists {
				for _, place := range [][]int{nil, {0}, {-1, mostInt}} {
					got := impl.ProofUnder(list, place, bad.binds)
					if !slices.EqualFunc(got, list, func(l, k impl.Link) bool {
						return l.Eq == k.Eq && l.Back == k.Back && slices.Equal(l.Place, join(place, k.Place)) && slices.Equal(boundVars(l.Subst), boundVars(k.Subst))
					}) {
						t.Fatalf("%d links became %d, or others", len(list), len(got))
					}
				}
			}
		})
	}
}

func TestProofUnderPutsBadTermsInAsTheyAre(t *testing.T) {
	eqs := []impl.Eq{eq(a(), b())}
	list := []impl.Link{at(0, false, nil, bind(4, f(a(), variable(2))))}
	for _, bad := range badProofTerms() {
		t.Run(bad.name, func(t *testing.T) {
			got := impl.ProofUnder(list, nil, []impl.Bind{bind(2, bad.term)})
			if len(got) != 1 || len(got[0].Subst) != 1 {
				t.Fatal("one link with one bind is expected")
			}
			mustRefuse(t, eqs, a(), got[0])
		})
	}
}

// The document does not say what a list that is no substitution does; this is
// what the program does.
func TestProofUnderTakesTheFirstTermOfAVariable(t *testing.T) {
	list := []impl.Link{at(0, false, nil, bind(4, f(variable(2), variable(1))))}
	s := []impl.Bind{bind(2, a()), bind(1, b()), bind(2, g(a()))}
	if got := impl.ProofUnder(list, nil, s); !sameLinks(got, []impl.Link{at(0, false, nil, bind(4, f(a(), b())))}) {
		t.Errorf("got %v", got)
	}
}

func TestLinksWithBadTermsStayBad(t *testing.T) {
	eqs := []impl.Eq{eq(a(), b())}
	for _, bad := range badProofTerms() {
		t.Run(bad.name, func(t *testing.T) {
			list := []impl.Link{at(0, false, nil, bind(2, b()), bind(7, bad.term)), at(0, true, nil, bind(0, bad.term))}
			back := impl.ProofBack(list)
			if len(back) != 2 || back[0].Back || !back[1].Back {
				t.Fatal("two links are expected, the other way")
			}
			mustRefuse(t, eqs, a(), back[0])
			mustRefuse(t, eqs, b(), back[1])
			for _, s := range [][]impl.Bind{nil, {bind(0, a())}, numbered(func(int) impl.Term { return b() })} {
				under := impl.ProofUnder(list, nil, s)
				if len(under) != 2 {
					t.Fatalf("%d links", len(under))
				}
				mustRefuse(t, eqs, a(), under[0])
				mustRefuse(t, eqs, b(), under[1])
			}
		})
	}
}

func TestP58FurtherEquationChangesNothing(t *testing.T) {
	eqs := proofEqs()[:3]
	further := []impl.Eq{eq(a(), b()), eq(f(variable(0), a()), b()), eq(variable(1), variable(2))}
	d := dice(3)
	for _, start := range append(bigTerms(), f(a(), b()), g(f(g(a()), a()))) {
		for _, number := range []int{0, 1, 10, impl.ProofMax} {
			w := walkFrom(eqs, start, number, impl.ProofBig, false, &d)
			for i := range len(further) + 1 {
				got, ok := impl.ProofEnd(slices.Concat(eqs, further[:i]), start, w.links)
				mustTerm(t, got, ok, w.end())
			}
			got, ok := impl.ProofEnd(slices.Concat(eqs, further, further[:1]), start, w.links)
			mustFail(t, got, ok)
		}
	}
}

func TestP59WithoutLinksNothingChanges(t *testing.T) {
	for _, x := range append(goodTerms(), bigTerms()...) {
		for _, eqs := range [][]impl.Eq{nil, {}, proofEqs()} {
			for _, list := range [][]impl.Link{nil, {}} {
				got, ok := impl.ProofEnd(eqs, x, list)
				mustTerm(t, got, ok, x)
			}
		}
	}
}

func TestP60ProofAndItsReverseLeadToTheStart(t *testing.T) {
	eachWalk(func(w walk) {
		both := slices.Concat(w.links, impl.ProofBack(w.links))
		got, ok := impl.ProofEnd(proofEqs(), w.start(), both)
		if len(both) > impl.ProofMax {
			mustFail(t, got, ok)
		} else {
			mustTerm(t, got, ok, w.start())
		}
	})
}

func TestP61TooManyLinksAreNoProof(t *testing.T) {
	eqs := []impl.Eq{eq(a(), b()), eq(variable(0), variable(0))}
	for number := range impl.ProofMax + 3 {
		var swaps []impl.Link
		for i := range number {
			swaps = append(swaps, at(0, i%2 == 1, []int{0}))
		}
		want := g(a())
		if number%2 == 1 {
			want = g(b())
		}
		got, ok := impl.ProofEnd(eqs, g(a()), swaps)
		same, okSame := impl.ProofEnd(eqs, variable(0), slices.Repeat([]impl.Link{at(1, false, nil)}, number))
		if number > impl.ProofMax {
			mustFail(t, got, ok)
			mustFail(t, same, okSame)
		} else {
			mustTerm(t, got, ok, want)
			mustTerm(t, same, okSame, variable(0))
		}
	}
}

func TestVeryManyLinks(t *testing.T) {
	list := slices.Repeat([]impl.Link{at(0, false, []int{1}, bind(0, g(variable(0))))}, 100000)
	got, ok := impl.ProofEnd([]impl.Eq{eq(a(), a())}, a(), list)
	mustFail(t, got, ok)
	if back := impl.ProofBack(list); len(back) != len(list) || !back[0].Back {
		t.Error("ProofBack")
	}
	if under := impl.ProofUnder(list, []int{0}, []impl.Bind{bind(0, a())}); len(under) != len(list) || len(under[0].Place) != 2 {
		t.Error("ProofUnder")
	}
}

func TestProofArgumentsStayUnchanged(t *testing.T) {
	eqs := proofEqs()
	eachWalk(func(w walk) {
		start, list, place, s := w.start(), w.links, []int{1, 0}, underSubsts()[2]
		oldStart, oldList, oldS := copyTerm(start), copyLinks(list), copyBinds(s)
		impl.EqsOk(eqs)
		impl.ProofEnd(eqs, start, list)
		impl.ProofBack(list)
		impl.ProofUnder(list, place, s)
		for i, l := range list {
			impl.LinkDo(eqs, w.terms[i], l)
			impl.LinkDo(eqs, w.terms[i], turned(l))
		}
		if !sameTerm(start, oldStart) || !sameLinks(list, oldList) || !sameBinds(s, oldS) || !slices.Equal(place, []int{1, 0}) || !sameEqs(eqs, proofEqs()) {
			t.Fatalf("an argument was changed: %v, %v", oldStart, oldList)
		}
	})
}

func TestRoomBehindPlacesStaysUnchanged(t *testing.T) {
	place, inner := []int{1, 7, 8}, []int{0, 5, 6}
	list := []impl.Link{at(0, false, inner[:1], bind(0, a())), at(1, true, nil), at(2, true, nil)}
	old := copyLinks(list)
	impl.ProofUnder(list[:1], place[:1], nil)
	impl.ProofBack(list[:1])
	if !slices.Equal(place, []int{1, 7, 8}) || !slices.Equal(inner, []int{0, 5, 6}) || !sameLinks(list, old) {
		t.Errorf("%v, %v, %v", place, inner, list)
	}
}

func TestProofResultsShareNoMemory(t *testing.T) {
	eachWalk(func(w walk) {
		eqs, list, start := copyEqs(proofEqs()), copyLinks(w.links), copyTerm(w.start())
		place, s := []int{1, 0}, copyBinds(underSubsts()[2])
		memory := newProofMemory()
		memory.addEqs(t, eqs)
		memory.addLinks(t, list)
		memory.addPlace(t, place)
		addMemory(t, memory.terms, start)
		addBindsMemory(t, memory.terms, memory.binds, s)
		for range 2 {
			end, _ := impl.ProofEnd(eqs, start, list)
			addMemory(t, memory.terms, end)
			same, _ := impl.ProofEnd(eqs, start, nil)
			addMemory(t, memory.terms, same)
			memory.addLinks(t, impl.ProofBack(list))
			memory.addLinks(t, impl.ProofUnder(list, place, s))
			memory.addLinks(t, impl.ProofUnder(list, nil, nil))
			if len(list) > 0 {
				next, _ := impl.LinkDo(eqs, start, list[0])
				addMemory(t, memory.terms, next)
			}
		}
	})
}

func TestSharedPartsAreNotSharedInProofs(t *testing.T) {
	part := f(a(), variable(1))
	eqs := []impl.Eq{eq(g(variable(0)), f(variable(0), variable(0)))}
	memory := newProofMemory()
	got, ok := impl.LinkDo(eqs, f(g(part), part), at(0, false, []int{0}, bind(0, part)))
	mustTerm(t, got, ok, f(f(part, part), part))
	addMemory(t, memory.terms, got)
	place := []int{0}
	l := at(0, false, place, bind(0, f(part, part)), bind(1, f(variable(2), variable(2))))
	memory.addLinks(t, impl.ProofBack([]impl.Link{l, l}))
	memory.addLinks(t, impl.ProofUnder([]impl.Link{l, l}, place, []impl.Bind{bind(1, part), bind(2, part)}))
}
