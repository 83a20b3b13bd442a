package tests

import (
	"slices"
	"testing"

	"loop.example/tipstaff/impl"
)

// heightOf is how many g stand over the leaf of a chain, and the leaf. It does
// not call itself, because chains of these tests are very high.
func heightOf(x impl.Term) (int, impl.Term) {
	height := 0
	for x.Sign == impl.SignG && x.Var == 0 && len(x.Kids) == 1 {
		x = x.Kids[0]
		height++
	}
	return height, x
}

func mustChain(t *testing.T, x impl.Term, height int, leaf impl.Term) {
	t.Helper()
	if got, end := heightOf(x); got != height || !sameTerm(end, leaf) {
		t.Errorf("%d g over %v, want %d over %v", got, end, height, leaf)
	}
}

// soleTerm is the only term of a list of one link with one bind.
func soleTerm(t *testing.T, list []impl.Link) impl.Term {
	t.Helper()
	if len(list) != 1 || len(list[0].Subst) != 1 {
		t.Fatalf("%d links, want one link with one bind", len(list))
	}
	return list[0].Subst[0].Term
}

// backAndUnder has a term as ProofBack and ProofUnder return it.
func backAndUnder(t *testing.T, x impl.Term, s []impl.Bind) (impl.Term, impl.Term) {
	t.Helper()
	list := []impl.Link{at(1, false, []int{0}, bind(2, x))}
	back, under := impl.ProofBack(list), impl.ProofUnder(list, []int{1}, s)
	if !back[0].Back || under[0].Back || !slices.Equal(back[0].Place, []int{0}) || !slices.Equal(under[0].Place, []int{1, 0}) {
		t.Error("the links are others")
	}
	return soleTerm(t, back), soleTerm(t, under)
}

func TestHighTermsStayWhole(t *testing.T) {
	x3, x5 := variable(3), variable(5)
	s := []impl.Bind{bind(3, g(x5)), bind(5, b())}
	for _, height := range []int{63, 64, 4094, 4095, 4096, 4097, 4098, 5000, 8192, 100000, 400000} {
		back, under := backAndUnder(t, chain(height, a()), s)
		mustChain(t, back, height, a())
		mustChain(t, under, height, a())
		back, under = backAndUnder(t, chain(height, x3), s)
		mustChain(t, back, height, x3)
		mustChain(t, under, height+1, x5)
		_, into := backAndUnder(t, g(x3), []impl.Bind{bind(3, chain(height, x5)), bind(5, b())})
		mustChain(t, into, height+1, x5)
	}
}

func TestP55ReversingLargeTermsTwiceRestores(t *testing.T) {
	for _, x := range largeShapes() {
		list := []impl.Link{at(4, true, []int{1}, bind(0, x), bind(2, b())), at(0, false, nil, bind(7, x))}
		if !sameLinks(impl.ProofBack(impl.ProofBack(list)), list) {
			t.Errorf("%d parts became others", countParts(x))
		}
	}
}

func TestP57LargeTermsUnderTheRootStayTheSame(t *testing.T) {
	for _, x := range largeShapes() {
		list := []impl.Link{at(4, true, []int{1}, bind(0, x), bind(2, b())), at(0, false, nil, bind(7, x))}
		if !sameLinks(impl.ProofUnder(list, nil, nil), list) {
			t.Errorf("%d parts became others", countParts(x))
		}
	}
}

// largeShapes are too large for any proof, in different ways. Some have parts
// that share memory.
func largeShapes() []impl.Term {
	high := chain(3000, variable(3))
	wide := impl.Term{Sign: impl.SignF, Kids: slices.Repeat([]impl.Term{variable(3), f(a(), variable(1)), b()}, 3000)}
	return []impl.Term{
		rightComb(2048, variable(3), variable(1)),
		rightComb(2049, variable(3), variable(1)),
		rightComb(20000, f(variable(3), b()), g(variable(1))),
		f(chain(5000, variable(1)), chain(5000, variable(3))),
		f(high, high),
		f(f(high, g(high)), chain(2000, high)),
		f(chain(4000, wide), wide),
		wide,
		{Sign: impl.SignG, Kids: slices.Repeat([]impl.Term{high}, 5)},
		{Sign: -7, Var: 9, Kids: []impl.Term{chain(5000, impl.Term{Var: 3, Kids: []impl.Term{a()}})}},
		doubled(11),
		doubled(12),
		doubled(15),
	}
}

func TestLargeTermsUnderSubstitutions(t *testing.T) {
	substs := [][]impl.Bind{
		{bind(0, b())},
		{bind(1, variable(3)), bind(3, b())},
		{bind(1, g(variable(3))), bind(3, rightComb(20, variable(1), variable(3)))},
	}
	for _, x := range largeShapes() {
		for _, s := range substs {
			if _, under := backAndUnder(t, x, s); !sameTerm(under, applied(s, x)) {
				t.Errorf("%d parts under %v", countParts(x), s)
			}
		}
	}
}

func TestLargeTermsArePutInWhole(t *testing.T) {
	x3, x4 := variable(3), variable(4)
	for _, large := range largeShapes() {
		s := []impl.Bind{bind(3, large), bind(4, f(large, a()))}
		for _, x := range []impl.Term{x3, f(x3, x3), f(g(x3), f(x4, b())), rightComb(5, x4, x3)} {
			if _, under := backAndUnder(t, x, s); !sameTerm(under, applied(s, x)) {
				t.Errorf("%d parts put into %v", countParts(large), x)
			}
		}
	}
}

// A term may also stand in a value. Its variables are put in for only where it
// does not.
func TestLargeTermsBesideThemselvesAsValues(t *testing.T) {
	x4 := variable(4)
	for _, large := range largeShapes() {
		s := []impl.Bind{bind(1, a()), bind(3, b()), bind(4, large)}
		for _, x := range []impl.Term{f(large, x4), f(x4, large), f(x4, f(large, x4))} {
			if _, under := backAndUnder(t, x, s); !sameTerm(under, applied(s, x)) {
				t.Errorf("%d parts beside themselves", countParts(large))
			}
		}
	}
}

func TestLargeTermsShareNoMemory(t *testing.T) {
	x4 := variable(4)
	for _, large := range largeShapes() {
		x := rightComb(3, x4, copyTerm(large))
		s := []impl.Bind{bind(1, f(a(), b())), bind(4, copyTerm(large))}
		list := []impl.Link{at(0, false, []int{1}, bind(1, x)), at(0, true, nil, bind(2, f(x4, x4)))}
		memory := newProofMemory()
		memory.addLinks(t, list)
		addBindsMemory(t, memory.terms, memory.binds, s)
		for range 2 {
			memory.addLinks(t, impl.ProofBack(list))
			memory.addLinks(t, impl.ProofUnder(list, []int{1}, s))
		}
	}
}

func TestSharedPartsOfLargeTermsAreNotShared(t *testing.T) {
	for _, large := range largeShapes() {
		list := []impl.Link{at(0, false, nil, bind(1, large), bind(2, f(large, large))), at(0, true, nil, bind(2, variable(4)))}
		memory := newProofMemory()
		memory.addLinks(t, impl.ProofBack(list))
		memory.addLinks(t, impl.ProofUnder(list, nil, []impl.Bind{bind(4, large)}))
	}
}

func TestLargeTermsStayUnchanged(t *testing.T) {
	for _, large := range largeShapes() {
		s := []impl.Bind{bind(3, f(large, large))}
		list := []impl.Link{at(0, false, []int{1}, bind(1, large), bind(2, g(variable(3))))}
		old, oldS := copyLinks(list), copyBinds(s)
		impl.ProofBack(list)
		impl.ProofUnder(list, []int{0}, s)
		if !sameLinks(list, old) || !sameBinds(s, oldS) {
			t.Errorf("%d parts were changed", countParts(large))
		}
	}
}

// isDoubled says whether x is doubled(depth) with another leaf. It looks at
// parts that share memory only once, because there are far too many parts.
func isDoubled(x impl.Term, depth int, leaf impl.Term, seen map[*impl.Term]int) bool {
	if depth == 0 {
		return sameTerm(x, leaf)
	}
	if x.Sign != impl.SignF || x.Var != 0 || len(x.Kids) != 2 {
		return false
	}
	if known, found := seen[&x.Kids[0]]; found {
		return known == depth
	}
	seen[&x.Kids[0]] = depth
	return isDoubled(x.Kids[0], depth-1, leaf, seen) && isDoubled(x.Kids[1], depth-1, leaf, seen)
}

// Terms with more parts than any memory has can be handed in, because their
// parts share memory. They stay whole, too, and share none with an argument.
func TestTermsOfVeryManyPartsStayWhole(t *testing.T) {
	for _, depth := range []int{24, 40, 80} {
		x := doubled(depth)
		leaf := chain(200, variable(0))
		back, under := backAndUnder(t, x, []impl.Bind{bind(0, b())})
		_, into := backAndUnder(t, f(variable(4), variable(4)), []impl.Bind{bind(4, x)})
		_, far := backAndUnder(t, twice(depth, leaf), []impl.Bind{bind(0, b())})
		seen := map[*impl.Term]int{}
		if !isDoubled(x, depth, a(), seen) {
			t.Fatal("the test is wrong")
		}
		own := len(seen)
		if !isDoubled(back, depth, a(), seen) || !isDoubled(under, depth, a(), seen) || !isDoubled(into, depth+1, a(), seen) {
			t.Errorf("depth %d is not whole", depth)
		}
		if !isDoubled(far, depth, chain(200, b()), map[*impl.Term]int{}) {
			t.Errorf("depth %d with high leaves is not whole", depth)
		}
		if len(seen) < 4*own {
			t.Errorf("depth %d shares memory with an argument, or with another result", depth)
		}
	}
}

// twice is doubled with another leaf.
func twice(depth int, leaf impl.Term) impl.Term {
	for range depth {
		leaf = f(leaf, leaf)
	}
	return leaf
}

// endlessLater contains itself only below many parts.
func endlessLater(height int) impl.Term {
	return f(chain(height, variable(0)), chain(height, endlessTwice()))
}

// endlessAround contains itself round a number of g.
func endlessAround(height int) impl.Term {
	kids := make([]impl.Term, 1)
	kids[0] = chain(height, impl.Term{Sign: impl.SignG, Kids: kids})
	return kids[0]
}

func TestTermsThatContainThemselvesEnd(t *testing.T) {
	eqs := []impl.Eq{eq(a(), b())}
	list := []impl.Term{endless(), endlessTwice(), endlessLater(10), endlessLater(5000), endlessAround(10), endlessAround(5000), f(doubled(80), endless())}
	for i, x := range list {
		back, under := backAndUnder(t, x, []impl.Bind{bind(0, g(endless()))})
		_, into := backAndUnder(t, f(variable(3), b()), []impl.Bind{bind(3, x)})
		for _, got := range []impl.Term{back, under, into} {
			if size := countParts(got); size <= impl.ProofBig {
				t.Errorf("term %d: %d parts are left", i, size)
			}
			mustRefuse(t, eqs, a(), at(0, false, nil, bind(0, got)))
			memory := newProofMemory()
			addMemory(t, memory.terms, got)
		}
	}
}
