package tests

import (
	"slices"
	"testing"

	"loop.example/tipstaff/impl"
)

func TestRankings(t *testing.T) {
	if number := len(rankings()); number != 24 {
		t.Fatalf("%d rankings", number)
	}
	for _, rank := range rankings() {
		if !impl.OrderOk(rank) || !impl.OrderMore(rank, g(variable(0)), variable(0)) {
			t.Errorf("%v is a ranking", rank)
		}
	}
}

func TestBadRankingsAreRefused(t *testing.T) {
	for _, bad := range badRanks() {
		t.Run(bad.name, func(t *testing.T) {
			mustRefuseRank(t, bad.rank)
		})
	}
}

// mustRefuseRank takes terms of which the first is greater by every ranking, or
// the second by some.
func mustRefuseRank(t *testing.T, rank []int) {
	t.Helper()
	if impl.OrderOk(rank) {
		t.Fatalf("%v is no ranking", rank)
	}
	pairs := [][2]impl.Term{
		{g(variable(0)), variable(0)},
		{f(a(), b()), b()},
		{chain(15, a()), a()},
		{a(), b()},
		{f(variable(0), variable(1)), g(variable(0))},
		{g(g(a())), g(a())},
	}
	for _, pair := range pairs {
		if impl.OrderMore(rank, pair[0], pair[1]) || impl.OrderMore(rank, pair[1], pair[0]) {
			t.Fatalf("%v is no ranking for %v", rank, pair)
		}
	}
}

func TestListsOfNumbersAsRankings(t *testing.T) {
	for number := range 6 {
		eachList(number, -1, 5, nil, func(rank []int) {
			if !isRanking(rank) {
				mustRefuseRank(t, rank)
			} else if !impl.OrderOk(rank) {
				t.Fatalf("%v is a ranking", rank)
			}
		})
	}
}

func TestOrderOfSomeTerms(t *testing.T) {
	list := []struct {
		rank, s, t string
		more, less bool
	}{
		// Symbols without arguments.
		{"fgba", "b", "a", true, false},
		{"fgab", "b", "a", false, true},
		{"fgba", "a", "a", false, false},
		// A variable on one side, on the other, on both.
		{"abgf", "x0", "x0", false, false},
		{"abgf", "x0", "x1", false, false},
		{"abgf", "x0", "a", false, false},
		{"abgf", "x0", "g(x1)", false, false},
		{"abgf", "x0", "g(x0)", false, true},
		{"fgba", "f(a,g(f(x3,b)))", "x3", true, false},
		{"fgba", "f(a,g(f(x3,b)))", "x4", false, false},
		{"fgba", "f(x0,x1)", "f(x1,x0)", false, false},
		{"fgba", "f(x0,x1)", "g(x2)", false, false},
		{"fgba", "f(x0,g(x1))", "f(x0,x1)", true, false},
		{"fgba", "f(x0,g(x1))", "f(x0,x2)", false, false},
		{"fgba", "f(g(x0),x1)", "f(x0,x2)", false, false},
		// Equal arguments: all of them, the first alone, the second alone.
		{"fgba", "g(x0)", "g(x0)", false, false},
		{"fgba", "f(a,b)", "f(a,b)", false, false},
		{"fgba", "f(b,b)", "f(b,a)", true, false},
		{"fgba", "f(b,b)", "f(a,b)", true, false},
		{"fgab", "f(b,b)", "f(a,b)", false, true},
		{"fgba", "f(x0,b)", "f(x0,a)", true, false},
		{"fgba", "f(b,x0)", "f(a,x0)", true, false},
		{"fgba", "f(g(x0),f(x1,b))", "f(g(x0),f(x1,a))", true, false},
		// The first arguments differ the one way, the second the other way.
		{"fgba", "f(b,a)", "f(a,b)", true, false},
		{"fgba", "f(b,a)", "f(a,g(b))", true, false},
		{"bfga", "f(b,a)", "f(a,b)", true, false},
		{"fgba", "f(b,a)", "f(a,f(b,a))", false, true},
		{"fgba", "f(b,a)", "f(a,f(b,b))", false, true},
		{"fgba", "f(g(a),a)", "f(a,g(g(g(a))))", true, false},
		{"gfba", "f(g(a),a)", "f(a,g(g(a)))", false, true},
		{"fgba", "f(x0,g(x1))", "f(g(x0),x1)", false, true},
		{"fgba", "f(f(x0,x1),x2)", "f(x0,f(x1,x2))", true, false},
		{"abgf", "f(f(x0,x1),x2)", "f(x0,f(x1,x2))", true, false},
		// An argument, or one deep inside, is the other term or greater.
		{"abgf", "g(a)", "a", true, false},
		{"abgf", "g(g(g(b)))", "g(b)", true, false},
		{"abgf", "f(b,g(f(a,b)))", "f(a,b)", true, false},
		{"abgf", "g(f(a,x0))", "f(b,x0)", true, false},
		{"abgf", "f(b,f(b,g(a)))", "g(b)", true, false},
		{"abgf", "f(b,f(b,g(a)))", "g(g(b))", true, false},
		{"abgf", "f(b,f(a,b))", "f(a,b)", true, false},
		{"fgba", "f(a,f(b,b))", "f(b,a)", true, false},
		{"bagf", "g(f(x0,x0))", "f(x0,x0)", true, false},
		// The symbol comes earlier, but an argument of the other is not smaller.
		{"gfba", "g(x0)", "f(x0,x0)", true, false},
		{"gfba", "g(x0)", "f(x0,x1)", false, false},
		{"gfba", "g(x0)", "f(x1,x0)", false, false},
		{"gfba", "g(x0)", "f(x0,g(x0))", false, true},
		{"gfba", "g(a)", "f(a,g(b))", false, true},
		{"gfba", "g(b)", "f(f(g(a),b),f(b,b))", true, false},
		{"fgba", "f(x0,x1)", "g(f(x0,x1))", false, true},
		{"fgba", "f(x0,x1)", "g(g(g(x1)))", true, false},
		{"fgba", "f(x0,x1)", "g(f(x1,x0))", false, false},
		{"abgf", "a", "f(b,g(b))", true, false},
		{"abgf", "a", "f(b,g(a))", false, true},
		{"abgf", "a", "g(x0)", false, false},
		{"gfba", "g(f(x0,x1))", "f(g(x0),g(x1))", true, false},
		{"fgba", "g(f(x0,x1))", "f(g(x0),g(x1))", false, true},
		// Two terms of the same symbol, where only a part inside is greater.
		{"fgba", "g(g(x0))", "g(x0)", true, false},
		{"fgba", "g(f(x0,a))", "g(g(x0))", true, false},
		{"gfba", "g(f(x0,a))", "g(g(x0))", false, true},
	}
	for _, c := range list {
		rank, s, x := rankOf(c.rank), readTerm(t, c.s), readTerm(t, c.t)
		if more := impl.OrderMore(rank, s, x); more != c.more {
			t.Errorf("%s: %s is more than %s: %v", c.rank, c.s, c.t, more)
		}
		if less := impl.OrderMore(rank, x, s); less != c.less {
			t.Errorf("%s: %s is more than %s: %v", c.rank, c.t, c.s, less)
		}
	}
}

// mustOrderAll holds all pairs of terms against the document's words.
func mustOrderAll(t *testing.T, ranks [][]int, terms []impl.Term) {
	t.Helper()
	for _, rank := range ranks {
		for _, s := range terms {
			for _, x := range terms {
				if more := impl.OrderMore(rank, s, x); more != moreBy(rank, s, x) {
					t.Fatalf("%v: %s is more than %s: %v", rank, impl.TermText(s), impl.TermText(x), more)
				}
			}
		}
	}
}

func TestOrderOfAllPairs(t *testing.T) {
	mustOrderAll(t, rankings(), orderTerms(4))
	mustOrderAll(t, someRankings()[:2], orderTerms(5))
}

func TestOrderOfLargeTerms(t *testing.T) {
	mustOrderAll(t, someRankings(), append(orderTerms(2), largeOrderTerms()...))
}

func TestNilAndEmptyArgumentsAreTheSameInOrder(t *testing.T) {
	rank := rankOf("fgba")
	empty := impl.Term{Sign: impl.SignA, Kids: []impl.Term{}}
	x := impl.Term{Var: 3, Kids: []impl.Term{}}
	if impl.OrderMore(rank, empty, a()) || impl.OrderMore(rank, a(), empty) || impl.OrderMore(rank, x, variable(3)) {
		t.Error("a term and itself")
	}
	if !impl.OrderMore(rank, g(empty), a()) || !impl.OrderMore(rank, g(a()), empty) || !impl.OrderMore(rank, g(x), variable(3)) {
		t.Error("an argument")
	}
	if !impl.OrderMore(rank, f(empty, b()), f(a(), a())) || impl.OrderMore(rank, f(empty, x), f(a(), variable(3))) {
		t.Error("equal arguments")
	}
}

func TestBadTermsAreNotOrdered(t *testing.T) {
	goods := []impl.Term{variable(0), a(), b(), g(variable(0)), f(a(), b()), chain(15, b()), comb(8)}
	for _, bad := range badTerms() {
		t.Run(bad.name, func(t *testing.T) {
			bads := []impl.Term{bad.term, g(bad.term), f(a(), bad.term), f(bad.term, b()), f(variable(0), f(b(), g(bad.term)))}
			for _, rank := range append(rankings(), nil, rankOf("fgb")) {
				for _, s := range bads {
					for _, x := range goods {
						if impl.OrderMore(rank, s, x) || impl.OrderMore(rank, x, s) {
							t.Fatalf("%v: ordered with %v", rank, x)
						}
					}
					if impl.OrderMore(rank, s, bad.term) || impl.OrderMore(rank, bad.term, s) {
						t.Fatalf("%v: ordered with itself or a part", rank)
					}
				}
			}
		})
	}
}

func TestOrderKeepsToTheLargestSize(t *testing.T) {
	for _, rank := range rankings() {
		if !impl.OrderMore(rank, chain(15, a()), a()) || !impl.OrderMore(rank, chain(15, a()), chain(14, a())) {
			t.Errorf("%v: terms at the limit", rank)
		}
		if impl.OrderMore(rank, chain(16, a()), a()) || impl.OrderMore(rank, chain(16, a()), chain(15, a())) {
			t.Errorf("%v: the greater term is too large", rank)
		}
		if impl.OrderMore(rank, chain(17, a()), chain(16, a())) || impl.OrderMore(rank, g(comb(9)), comb(9)) {
			t.Errorf("%v: both terms are too large", rank)
		}
	}
	x := f(variable(0), variable(1))
	if !impl.OrderMore(rankOf("fgba"), x, chain(15, variable(1))) || impl.OrderMore(rankOf("fgba"), x, chain(16, variable(1))) {
		t.Error("the smaller term at the limit and too large")
	}
	if !impl.OrderMore(rankOf("gfba"), g(a()), rightComb(7, a(), a())) || impl.OrderMore(rankOf("gfba"), g(a()), rightComb(8, a(), a())) {
		t.Error("the smaller term of f at the limit and too large")
	}
}

func TestP41NoTermIsMoreThanItself(t *testing.T) {
	for _, rank := range rankings() {
		for _, x := range append(orderTerms(5), largeOrderTerms()...) {
			if impl.OrderMore(rank, x, x) || impl.OrderMore(rank, x, copyTerm(x)) {
				t.Fatalf("%v: %s is more than itself", rank, impl.TermText(x))
			}
		}
	}
}

func TestP41NotBothAreMore(t *testing.T) {
	terms := append(orderTerms(4), largeOrderTerms()...)
	eachMore(t, rankings(), terms, func(rank []int, s, x impl.Term) {
		if impl.OrderMore(rank, x, s) {
			t.Fatalf("%v: %s and %s are both more", rank, impl.TermText(s), impl.TermText(x))
		}
	})
}

// mustBeTransitive asks for each pair once and holds the answers against each
// other.
func mustBeTransitive(t *testing.T, rank []int, terms []impl.Term) {
	t.Helper()
	less := make([][]int, len(terms))
	more := make([][]bool, len(terms))
	for i, s := range terms {
		more[i] = make([]bool, len(terms))
		for j, x := range terms {
			if impl.OrderMore(rank, s, x) {
				less[i] = append(less[i], j)
				more[i][j] = true
			}
		}
	}
	for i := range terms {
		for _, j := range less[i] {
			for _, k := range less[j] {
				if !more[i][k] {
					t.Fatalf("%v: %v, %v, %v", rank, terms[i], terms[j], terms[k])
				}
			}
		}
	}
}

func TestP42OrderIsTransitive(t *testing.T) {
	for _, rank := range rankings() {
		mustBeTransitive(t, rank, append(orderTerms(4), largeOrderTerms()...))
	}
	for _, rank := range someRankings()[:2] {
		mustBeTransitive(t, rank, orderTerms(5))
	}
}

// orderedTerms are few enough to try each pair in many ways, and have pairs of
// which only one condition of the order holds.
func orderedTerms(t *testing.T) []impl.Term {
	t.Helper()
	terms := orderTerms(3)
	for _, text := range []string{"f(f(x0,x1),x2)", "f(x0,f(x1,x2))", "g(f(x0,x1))", "f(g(x0),g(x1))", "f(x0,g(x1))", "f(g(x1),x0)"} {
		terms = append(terms, readTerm(t, text))
	}
	return terms
}

func TestP43OrderIsKeptBySubstitutions(t *testing.T) {
	substs := append(goodSubsts(),
		[]impl.Bind{bind(0, variable(1)), bind(1, variable(0))},
		[]impl.Bind{bind(0, a()), bind(1, f(b(), b()))},
		[]impl.Bind{bind(0, g(variable(2))), bind(1, a()), bind(2, b())},
		[]impl.Bind{bind(0, variable(0)), bind(1, variable(0)), bind(2, variable(0))})
	tried := 0
	eachMore(t, rankings(), orderedTerms(t), func(rank []int, s, x impl.Term) {
		for _, u := range substs {
			madeS, madeX := applied(u, s), applied(u, x)
			if countParts(madeS) > impl.TermMax || countParts(madeX) > impl.TermMax {
				continue
			}
			tried++
			if !impl.OrderMore(rank, madeS, madeX) {
				t.Fatalf("%v: %s is not more than %s", rank, impl.TermText(madeS), impl.TermText(madeX))
			}
		}
	})
	if tried < 10000 {
		t.Errorf("only %d instances were tried", tried)
	}
}

func TestP44OrderIsKeptWithinTerms(t *testing.T) {
	contexts := append(orderTerms(2), f(variable(0), b()), f(a(), g(variable(1))), f(f(b(), variable(1)), f(variable(0), a())))
	eachMore(t, rankings(), orderedTerms(t), func(rank []int, s, x impl.Term) {
		for _, context := range contexts {
			for _, place := range placesBelow(context) {
				putS, putX := withPart(context, place, s), withPart(context, place, x)
				if !impl.OrderMore(rank, putS, putX) {
					t.Fatalf("%v: %s is not more than %s", rank, impl.TermText(putS), impl.TermText(putX))
				}
			}
		}
	})
}

func TestP44OrderIsKeptDeepWithinTerms(t *testing.T) {
	eachMore(t, rankings(), orderTerms(2), func(rank []int, s, x impl.Term) {
		contexts := []func(impl.Term) impl.Term{
			func(part impl.Term) impl.Term { return chain(14, part) },
			func(part impl.Term) impl.Term { return rightComb(7, variable(1), part) },
			func(part impl.Term) impl.Term { return f(chain(6, part), chain(6, b())) },
		}
		for _, context := range contexts {
			if !impl.OrderMore(rank, context(s), context(x)) {
				t.Fatalf("%v: %s is not more than %s", rank, impl.TermText(context(s)), impl.TermText(context(x)))
			}
		}
	})
}

func TestP45TermIsMoreThanItsParts(t *testing.T) {
	for _, rank := range rankings() {
		for _, x := range append(orderTerms(5), largeOrderTerms()...) {
			for _, place := range placesBelow(x)[1:] {
				part := partAt(x, place)
				if !impl.OrderMore(rank, x, part) || impl.OrderMore(rank, part, x) {
					t.Fatalf("%v: %s and its part %s", rank, impl.TermText(x), impl.TermText(part))
				}
			}
		}
	}
}

func TestP46OneOfTwoTermsWithoutVariablesIsMore(t *testing.T) {
	terms := append(groundTerms(5),
		chain(15, a()), chain(15, b()), chain(14, a()), g(rightComb(7, b(), a())), g(rightComb(7, a(), b())),
		rightComb(5, a(), chain(5, b())), f(chain(6, a()), chain(7, b())), f(chain(6, b()), chain(7, a())))
	for _, rank := range rankings() {
		for i, s := range terms {
			for _, x := range terms[:i] {
				if impl.OrderMore(rank, s, x) == impl.OrderMore(rank, x, s) {
					t.Fatalf("%v: %s and %s", rank, impl.TermText(s), impl.TermText(x))
				}
			}
		}
	}
}

func TestP47SmallerTermHasNoOtherVariables(t *testing.T) {
	terms := append(orderTerms(4), largeOrderTerms()...)
	eachMore(t, rankings(), terms, func(rank []int, s, x impl.Term) {
		vars := varsBelow(s, nil)
		for _, v := range varsBelow(x, nil) {
			if !slices.Contains(vars, v) {
				t.Fatalf("%v: %s is more than %s", rank, impl.TermText(s), impl.TermText(x))
			}
		}
	})
}

// withVars lists what a symbol can be applied to, of some terms.
func withVars(sign int, leaves []impl.Term) []impl.Term {
	var list []impl.Term
	switch sign {
	case impl.SignG:
		for _, s := range leaves {
			list = append(list, g(s))
		}
	case impl.SignF:
		for _, s := range leaves {
			for _, x := range leaves {
				list = append(list, f(s, x))
			}
		}
	default:
		list = append(list, impl.Term{Sign: sign})
	}
	return list
}

func TestP48EarlierSymbolIsMore(t *testing.T) {
	tried := 0
	for _, rank := range rankings() {
		for i, sign := range rank {
			for _, s := range withVars(sign, []impl.Term{variable(0), variable(7), variable(11)}) {
				for _, later := range rank[i+1:] {
					for _, x := range withVars(later, s.Kids) {
						tried++
						if !impl.OrderMore(rank, s, x) || impl.OrderMore(rank, x, s) {
							t.Fatalf("%v: %s and %s", rank, impl.TermText(s), impl.TermText(x))
						}
					}
				}
			}
		}
	}
	if tried < 500 {
		t.Errorf("only %d pairs were tried", tried)
	}
}

func TestOrderArgumentsStayUnchanged(t *testing.T) {
	terms := append(orderTerms(3), largeOrderTerms()...)
	for _, rank := range append(rankings(), rankOf("fgb"), rankOf("abbgf")) {
		all := append(slices.Clone(rank), 9, 8)
		old := slices.Clone(all)
		for _, s := range terms {
			for _, x := range terms {
				oldS, oldX := copyTerm(s), copyTerm(x)
				impl.OrderOk(all[:len(rank)])
				impl.OrderMore(all[:len(rank)], s, x)
				if !slices.Equal(all, old) || !sameTerm(s, oldS) || !sameTerm(x, oldX) {
					t.Fatalf("%v, %v, %v became %v, %v, %v", old, oldS, oldX, all, s, x)
				}
			}
		}
	}
}

func TestOrderKeepsNothingBetweenCalls(t *testing.T) {
	x := f(variable(0), variable(1))
	for range 3 {
		if !impl.OrderMore(rankOf("fgba"), x, g(variable(0))) || impl.OrderMore(rankOf("gfba"), x, g(variable(0))) {
			t.Fatal("another ranking counts")
		}
		if impl.OrderMore(nil, x, g(variable(0))) || impl.OrderOk(nil) {
			t.Fatal("an earlier ranking counts")
		}
	}
}
