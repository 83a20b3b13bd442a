package tests

import (
	"slices"
	"testing"

	"loop.example/tipstaff/impl"
)

// matchTerms are terms with repeated and different variables, few enough to
// take them in pairs and triples.
func matchTerms(most int) []impl.Term {
	leaves := []impl.Term{variable(0), variable(1), variable(5), a()}
	return slices.Concat(termsOfSize(most, leaves)...)
}

// eachDo calls do with substitutions, terms and what the one makes of the
// other, however large.
func eachDo(do func(s []impl.Bind, x, want impl.Term)) {
	terms := append(goodTerms(), matchTerms(4)...)
	for _, s := range goodSubsts() {
		for _, x := range terms {
			do(s, x, applied(s, x))
		}
	}
}

// eachSmallDo leaves out what is too large.
func eachSmallDo(do func(s []impl.Bind, x, want impl.Term)) {
	eachDo(func(s []impl.Bind, x, want impl.Term) {
		if countParts(want) <= impl.TermMax {
			do(s, x, want)
		}
	})
}

func TestGoodSubstitutionsAreOk(t *testing.T) {
	for _, s := range goodSubsts() {
		if !impl.SubstOk(s) {
			t.Errorf("%v is valid", s)
		}
	}
}

func TestBadSubstitutionsAreRefused(t *testing.T) {
	good := []impl.Bind{bind(0, a())}
	for _, bad := range badSubsts() {
		t.Run(bad.name, func(t *testing.T) {
			if impl.SubstOk(bad.binds) {
				t.Error("SubstOk")
			}
			for _, x := range []impl.Term{a(), variable(0), variable(9), f(variable(1), variable(11))} {
				got, ok := impl.SubstDo(bad.binds, x)
				mustFail(t, got, ok)
			}
			for _, other := range [][]impl.Bind{nil, good, bad.binds} {
				list, ok := impl.SubstThen(bad.binds, other)
				mustFailBinds(t, list, ok)
				list, ok = impl.SubstThen(other, bad.binds)
				mustFailBinds(t, list, ok)
			}
		})
	}
}

func TestBadTermsAreNotSubstitutedOrMatched(t *testing.T) {
	for _, bad := range badTerms() {
		t.Run(bad.name, func(t *testing.T) {
			for _, s := range [][]impl.Bind{nil, {bind(0, a())}, numbered(variable)} {
				got, ok := impl.SubstDo(s, bad.term)
				mustFail(t, got, ok)
			}
			for _, x := range []impl.Term{variable(0), a(), g(variable(1)), f(variable(1), a()), bad.term} {
				list, ok := impl.MatchOf(bad.term, x)
				mustFailBinds(t, list, ok)
				list, ok = impl.MatchOf(x, bad.term)
				mustFailBinds(t, list, ok)
				list, ok = impl.UnifyOf(bad.term, x)
				mustFailBinds(t, list, ok)
				list, ok = impl.UnifyOf(x, bad.term)
				mustFailBinds(t, list, ok)
			}
			plain, list := impl.TermPlain(bad.term)
			mustFail(t, plain, false)
			mustFailBinds(t, list, false)
		})
	}
}

func TestSubstitutionsKeepToTheLargestSize(t *testing.T) {
	eachDo(func(s []impl.Bind, x, want impl.Term) {
		got, ok := impl.SubstDo(s, x)
		if countParts(want) > impl.TermMax {
			mustFail(t, got, ok)
		} else {
			mustTerm(t, got, ok, want)
		}
	})
	x := f(variable(0), variable(0))
	got, ok := impl.SubstDo([]impl.Bind{bind(0, chain(6, a()))}, g(x))
	mustTerm(t, got, ok, g(f(chain(6, a()), chain(6, a()))))
	got, ok = impl.SubstDo([]impl.Bind{bind(0, chain(7, a()))}, x)
	mustFail(t, got, ok)
	got, ok = impl.SubstDo([]impl.Bind{bind(0, chain(15, a()))}, variable(0))
	mustTerm(t, got, ok, chain(15, a()))
	got, ok = impl.SubstDo(numbered(func(int) impl.Term { return comb(8) }), comb(8))
	mustFail(t, got, ok)
}

// thenOf is what SubstThen is to make, however large its terms.
func thenOf(s, u []impl.Bind) []impl.Bind {
	var list []impl.Bind
	for i := range impl.TermVar {
		if isBound(s, i) || isBound(u, i) {
			list = append(list, bind(i, applied(u, valueOf(s, i))))
		}
	}
	return list
}

func isSmall(s []impl.Bind) bool {
	return !slices.ContainsFunc(s, func(b impl.Bind) bool { return countParts(b.Term) > impl.TermMax })
}

func TestSubstThenOfAllPairs(t *testing.T) {
	for _, s := range goodSubsts() {
		for _, u := range goodSubsts() {
			got, ok := impl.SubstThen(s, u)
			if want := thenOf(s, u); isSmall(want) {
				mustBinds(t, got, ok, want)
			} else {
				mustFailBinds(t, got, ok)
			}
		}
	}
}

func TestSubstThenOfSomePairs(t *testing.T) {
	s := []impl.Bind{bind(1, f(variable(2), variable(3))), bind(3, variable(3))}
	u := []impl.Bind{bind(0, variable(1)), bind(1, b()), bind(2, g(variable(1)))}
	got, ok := impl.SubstThen(s, u)
	if !ok || bindsText(got) != "x0:x1 x1:f(g(x1),x3) x2:g(x1) x3:x3" {
		t.Errorf("got %s, %v", bindsText(got), ok)
	}
	got, ok = impl.SubstThen(u, s)
	if !ok || bindsText(got) != "x0:f(x2,x3) x1:b x2:g(f(x2,x3)) x3:x3" {
		t.Errorf("got %s, %v", bindsText(got), ok)
	}
	back := []impl.Bind{bind(0, variable(1)), bind(1, variable(0))}
	got, ok = impl.SubstThen(back, back)
	mustBinds(t, got, ok, []impl.Bind{bind(0, variable(0)), bind(1, variable(1))})
}

func TestSubstThenKeepsToTheLargestSize(t *testing.T) {
	eight, nine := chain(7, a()), chain(8, a())
	u := []impl.Bind{bind(0, eight), bind(5, comb(8))}
	got, ok := impl.SubstThen([]impl.Bind{bind(0, chain(8, variable(0)))}, u)
	mustBinds(t, got, ok, []impl.Bind{bind(0, chain(8, eight)), bind(5, comb(8))})
	got, ok = impl.SubstThen([]impl.Bind{bind(0, chain(9, variable(0)))}, u)
	mustFailBinds(t, got, ok)
	got, ok = impl.SubstThen([]impl.Bind{bind(2, f(variable(0), variable(0)))}, u)
	mustFailBinds(t, got, ok)
	got, ok = impl.SubstThen([]impl.Bind{bind(2, a()), bind(3, chain(8, variable(4)))}, []impl.Bind{bind(4, nine)})
	mustFailBinds(t, got, ok)
}

// plainTerms have their variables named in many orders.
func plainTerms() []impl.Term {
	return append(append(goodTerms(), matchTerms(5)...),
		f(f(variable(11), variable(10)), f(variable(11), f(variable(0), variable(10)))),
		f(variable(1), variable(0)),
		f(variable(1), f(variable(2), variable(0))),
		applied(numbered(func(number int) impl.Term { return variable(11 - number) }), comb(8)))
}

// firstVars lists variables in the order of their first occurrences.
func firstVars(x impl.Term) []int {
	var vars []int
	for _, place := range placesBelow(x) {
		part := partAt(x, place)
		if part.Sign == 0 && !slices.Contains(vars, part.Var) {
			vars = append(vars, part.Var)
		}
	}
	return vars
}

func TestPlainOfSomeTerms(t *testing.T) {
	list := []struct{ text, plain, binds string }{
		{"a", "a", ""},
		{"f(a,g(b))", "f(a,g(b))", ""},
		{"x0", "x0", "x0:x0"},
		{"x11", "x0", "x11:x0"},
		{"f(x0,x1)", "f(x0,x1)", "x0:x0 x1:x1"},
		{"f(x1,x0)", "f(x0,x1)", "x0:x1 x1:x0"},
		{"f(x5,x5)", "f(x0,x0)", "x5:x0"},
		{"f(g(x2),f(x1,f(x2,x0)))", "f(g(x0),f(x1,f(x0,x2)))", "x0:x2 x1:x1 x2:x0"},
		{"f(f(x9,b),f(x10,f(x9,x3)))", "f(f(x0,b),f(x1,f(x0,x2)))", "x3:x2 x9:x0 x10:x1"},
	}
	for _, c := range list {
		plain, s := impl.TermPlain(readTerm(t, c.text))
		if impl.TermText(plain) != c.plain || bindsText(s) != c.binds {
			t.Errorf("%s: got %s by %s", c.text, impl.TermText(plain), bindsText(s))
		}
	}
}

func TestP15PlainHasAsManyVariables(t *testing.T) {
	for _, x := range plainTerms() {
		plain, _ := impl.TermPlain(x)
		vars := firstVars(plain)
		if len(vars) != len(firstVars(x)) {
			t.Fatalf("%v has other variables than %v", plain, x)
		}
		for i, v := range vars {
			if i != v {
				t.Fatalf("%v has the variables %v", plain, vars)
			}
		}
	}
}

func TestP16PlainTwiceIsPlain(t *testing.T) {
	for _, x := range plainTerms() {
		once, _ := impl.TermPlain(x)
		twice, s := impl.TermPlain(once)
		if !sameTerm(once, twice) || !sameBinds(s, restricted(nil, varsBelow(once, nil))) {
			t.Fatalf("%v becomes %v by %v", once, twice, s)
		}
	}
}

func TestP17PlainIsTheTermWithItsSubstitution(t *testing.T) {
	for _, x := range plainTerms() {
		plain, s := impl.TermPlain(x)
		if !impl.SubstOk(s) || !slices.Equal(boundVars(s), varsBelow(x, nil)) {
			t.Fatalf("substitution for %v: %v", x, s)
		}
		got, ok := impl.SubstDo(s, x)
		mustTerm(t, got, ok, plain)
		mustTerm(t, plain, true, applied(s, x))
		there, ok := impl.MatchOf(x, plain)
		mustBinds(t, there, ok, s)
		back, ok := impl.MatchOf(plain, x)
		if !ok || !sameTerm(applied(back, plain), x) {
			t.Fatalf("%v does not match %v", plain, x)
		}
	}
}

func TestP18PlainHasTheSamePlaces(t *testing.T) {
	for _, x := range plainTerms() {
		plain, _ := impl.TermPlain(x)
		if impl.TermSize(plain) != impl.TermSize(x) || !slices.EqualFunc(impl.TermPlaces(plain), impl.TermPlaces(x), slices.Equal) {
			t.Fatalf("%v has other places than %v", plain, x)
		}
	}
}

func TestP19SubstitutionIsAppliedAtEveryPlace(t *testing.T) {
	eachSmallDo(func(s []impl.Bind, x, want impl.Term) {
		whole, ok := impl.SubstDo(s, x)
		mustTerm(t, whole, ok, want)
		for _, place := range placesBelow(x) {
			part, ok := impl.SubstDo(s, partAt(x, place))
			mustTerm(t, part, ok, partAt(whole, place))
		}
	})
}

func TestP20NothingToSubstituteChangesNothing(t *testing.T) {
	ground := slices.Concat(termsOfSize(6, []impl.Term{a(), b()})...)
	ground = append(ground, chain(15, b()))
	for _, x := range ground {
		for _, s := range goodSubsts() {
			got, ok := impl.SubstDo(s, x)
			mustTerm(t, got, ok, x)
		}
	}
	for _, x := range append(goodTerms(), matchTerms(5)...) {
		got, ok := impl.SubstDo(nil, x)
		mustTerm(t, got, ok, x)
		got, ok = impl.SubstDo([]impl.Bind{}, x)
		mustTerm(t, got, ok, x)
	}
}

func TestP21OneSubstitutionAfterTheOther(t *testing.T) {
	terms := append(matchTerms(3), largeTerms()...)
	for _, s := range goodSubsts() {
		for _, u := range goodSubsts() {
			both, okBoth := impl.SubstThen(s, u)
			for _, x := range terms {
				once, okOnce := impl.SubstDo(s, x)
				twice, okTwice := impl.SubstDo(u, once)
				if !okBoth || !okOnce || !okTwice {
					continue
				}
				got, ok := impl.SubstDo(both, x)
				mustTerm(t, got, ok, twice)
			}
		}
	}
}

func TestP22SubstThenIsAssociative(t *testing.T) {
	for _, s := range goodSubsts() {
		for _, u := range goodSubsts() {
			first, okFirst := impl.SubstThen(s, u)
			for _, v := range goodSubsts() {
				last, okLast := impl.SubstThen(u, v)
				if !okFirst || !okLast {
					continue
				}
				left, okLeft := impl.SubstThen(first, v)
				right, okRight := impl.SubstThen(s, last)
				if okLeft != okRight || !sameBinds(left, right) {
					t.Fatalf("%v, %v, %v: %v and %v", s, u, v, left, right)
				}
			}
		}
	}
}

func TestP23FirstVariablesOfASubstitutionAreOne(t *testing.T) {
	for _, s := range goodSubsts() {
		for end := range len(s) + 1 {
			if !impl.SubstOk(s[:end]) || !impl.SubstOk(copyBinds(s[:end])) {
				t.Fatalf("%v is valid", s[:end])
			}
		}
	}
}

func TestP24SizeAfterASubstitution(t *testing.T) {
	eachDo(func(s []impl.Bind, x, _ impl.Term) {
		size := 0
		for _, place := range placesBelow(x) {
			if part := partAt(x, place); part.Sign != 0 {
				size++
			} else {
				size += countParts(valueOf(s, part.Var))
			}
		}
		got, ok := impl.SubstDo(s, x)
		if size > impl.TermMax {
			mustFail(t, got, ok)
		} else if !ok || impl.TermSize(got) != size {
			t.Fatalf("%v applied to %v: %v, %v", s, x, got, ok)
		}
	})
}

func TestP25VariablesAfterASubstitution(t *testing.T) {
	eachSmallDo(func(s []impl.Bind, x, _ impl.Term) {
		var want []int
		for _, v := range varsBelow(x, nil) {
			want = append(want, varsBelow(valueOf(s, v), nil)...)
		}
		slices.Sort(want)
		want = slices.Compact(want)
		got, ok := impl.SubstDo(s, x)
		if vars := impl.TermVars(got); !ok || !slices.Equal(vars, want) {
			t.Fatalf("%v applied to %v has the variables %v", s, x, vars)
		}
	})
}

func TestP26SubstitutionAndPutCommute(t *testing.T) {
	parts := matchTerms(2)
	for _, s := range goodSubsts() {
		for _, x := range append(matchTerms(3), largeTerms()...) {
			outside, okOutside := impl.SubstDo(s, x)
			for _, place := range placesBelow(x) {
				for _, part := range parts {
					inside, okInside := impl.SubstDo(s, part)
					put, okPut := impl.TermPut(x, place, part)
					after, okAfter := impl.SubstDo(s, put)
					if !okOutside || !okInside || !okPut || !okAfter {
						continue
					}
					got, ok := impl.TermPut(outside, place, inside)
					mustTerm(t, got, ok, after)
				}
			}
		}
	}
}

// matchBy looks for a match without walking both terms: each variable can only
// stand for what is at its first place.
func matchBy(pattern, x impl.Term) ([]impl.Bind, bool) {
	var list []impl.Bind
	places := placesBelow(x)
	for _, v := range varsBelow(pattern, nil) {
		for _, place := range placesBelow(pattern) {
			part := partAt(pattern, place)
			if part.Sign != 0 || part.Var != v {
				continue
			}
			if !slices.ContainsFunc(places, func(p []int) bool { return slices.Equal(p, place) }) {
				return nil, false
			}
			list = append(list, bind(v, partAt(x, place)))
			break
		}
	}
	return list, sameTerm(applied(list, pattern), x)
}

func TestMatchOfSomeTerms(t *testing.T) {
	list := []struct{ pattern, text, want string }{
		{"a", "a", ""},
		{"a", "b", "no"},
		{"a", "x0", "no"},
		{"g(a)", "g(a)", ""},
		{"g(a)", "g(x0)", "no"},
		{"g(x0)", "x0", "no"},
		{"g(x0)", "f(x0,x0)", "no"},
		{"f(x0,x1)", "g(a)", "no"},
		{"x0", "x0", "x0:x0"},
		{"x0", "x1", "x0:x1"},
		{"x0", "g(x0)", "x0:g(x0)"},
		{"x7", "f(a,x7)", "x7:f(a,x7)"},
		{"f(x0,x1)", "f(x1,x0)", "x0:x1 x1:x0"},
		{"f(x1,x0)", "f(a,b)", "x0:b x1:a"},
		{"f(x0,x0)", "f(x1,x1)", "x0:x1"},
		{"f(x0,x0)", "f(x0,x1)", "no"},
		{"f(x0,x0)", "f(g(a),g(a))", "x0:g(a)"},
		{"f(x0,x0)", "f(g(a),g(b))", "no"},
		{"f(x0,f(x1,x0))", "f(x1,f(x0,x1))", "x0:x1 x1:x0"},
		{"f(x0,f(x1,x0))", "f(g(x0),f(b,g(x1)))", "no"},
		{"f(x0,f(x0,x0))", "f(b,f(b,a))", "no"},
		{"f(g(x0),x0)", "f(g(g(x0)),g(x0))", "x0:g(x0)"},
		{"f(g(x0),x0)", "f(g(x0),g(x0))", "no"},
		{"f(x11,a)", "f(b,a)", "x11:b"},
		{"f(x11,a)", "f(b,b)", "no"},
	}
	for _, c := range list {
		s, ok := impl.MatchOf(readTerm(t, c.pattern), readTerm(t, c.text))
		if c.want == "no" {
			mustFailBinds(t, s, ok)
		} else if !ok || bindsText(s) != c.want {
			t.Errorf("%s and %s: got %s, %v; want %s", c.pattern, c.text, bindsText(s), ok, c.want)
		}
	}
}

func TestP27PatternWithItsMatchIsTheTerm(t *testing.T) {
	matches := 0
	terms := append(matchTerms(4), largeTerms()...)
	for _, pattern := range terms {
		for _, x := range terms {
			want, okWant := matchBy(pattern, x)
			got, ok := impl.MatchOf(pattern, x)
			if !okWant {
				mustFailBinds(t, got, ok)
				continue
			}
			matches++
			mustBinds(t, got, ok, want)
			if !slices.Equal(boundVars(got), varsBelow(pattern, nil)) || !impl.SubstOk(got) {
				t.Fatalf("%v is matched by %v", pattern, got)
			}
			back, ok := impl.SubstDo(got, pattern)
			mustTerm(t, back, ok, x)
		}
	}
	if matches < 500 {
		t.Errorf("only %d matches were tried", matches)
	}
}

func TestP28TermMatchesItself(t *testing.T) {
	for _, x := range append(goodTerms(), matchTerms(5)...) {
		s, ok := impl.MatchOf(x, x)
		mustBinds(t, s, ok, restricted(nil, varsBelow(x, nil)))
	}
}

func TestP29PatternMatchesItsInstances(t *testing.T) {
	eachSmallDo(func(s []impl.Bind, x, want impl.Term) {
		got, ok := impl.MatchOf(x, want)
		mustBinds(t, got, ok, restricted(s, varsBelow(x, nil)))
	})
}

func TestP30MatchingIsTransitive(t *testing.T) {
	terms := append(matchTerms(3), readTerm(t, "f(g(x0),x1)"), readTerm(t, "f(g(x1),g(a))"), readTerm(t, "f(g(f(a,b)),g(a))"))
	for _, x := range terms {
		for _, y := range terms {
			first, ok := impl.MatchOf(x, y)
			if !ok {
				continue
			}
			for _, z := range terms {
				second, ok := impl.MatchOf(y, z)
				if !ok {
					continue
				}
				both, okBoth := impl.MatchOf(x, z)
				mustBinds(t, both, okBoth, restricted(thenOf(first, second), varsBelow(x, nil)))
			}
		}
	}
}

func TestP31PatternIsNotLarger(t *testing.T) {
	terms := append(matchTerms(4), largeTerms()...)
	for _, x := range terms {
		for _, y := range terms {
			if _, ok := impl.MatchOf(x, y); !ok {
				continue
			}
			sizeX, sizeY := impl.TermSize(x), impl.TermSize(y)
			_, back := impl.MatchOf(y, x)
			if sizeX > sizeY || back && sizeX != sizeY {
				t.Fatalf("%v matches %v", x, y)
			}
		}
	}
}

func TestP32PartsOfAPatternMatch(t *testing.T) {
	eachSmallDo(func(s []impl.Bind, x, want impl.Term) {
		for _, place := range placesBelow(x) {
			part := partAt(x, place)
			got, ok := impl.MatchOf(part, partAt(want, place))
			mustBinds(t, got, ok, restricted(s, varsBelow(part, nil)))
		}
	})
}

func TestMatchArgumentsStayUnchanged(t *testing.T) {
	for _, s := range goodSubsts() {
		for _, u := range goodSubsts() {
			oldS, oldU := copyBinds(s), copyBinds(u)
			impl.SubstOk(s)
			impl.SubstThen(s, u)
			if !sameBinds(s, oldS) || !sameBinds(u, oldU) {
				t.Fatalf("%v, %v became %v, %v", oldS, oldU, s, u)
			}
		}
	}
	eachDo(func(s []impl.Bind, x, y impl.Term) {
		oldS, oldX, oldY := copyBinds(s), copyTerm(x), copyTerm(y)
		impl.SubstDo(s, x)
		impl.MatchOf(x, y)
		impl.UnifyOf(x, y)
		impl.TermPlain(x)
		if !sameBinds(s, oldS) || !sameTerm(x, oldX) || !sameTerm(y, oldY) {
			t.Fatalf("%v, %v, %v became %v, %v, %v", oldS, oldX, oldY, s, x, y)
		}
	})
}

func TestRoomBehindASubstitutionStaysUnchanged(t *testing.T) {
	all := []impl.Bind{bind(0, g(variable(1))), bind(2, b()), bind(3, a())}
	old := copyBinds(all)
	impl.SubstOk(all[:1])
	impl.SubstDo(all[:1], f(variable(0), variable(2)))
	impl.SubstThen(all[:1], all[1:2])
	impl.SubstThen(all[:2], all[:1])
	if !sameBinds(all, old) {
		t.Errorf("%v became %v", old, all)
	}
}

func TestMatchResultsShareNoMemory(t *testing.T) {
	eachSmallDo(func(s []impl.Bind, x, y impl.Term) {
		s, x, y = copyBinds(s), copyTerm(x), copyTerm(y)
		terms, binds := map[*impl.Term]bool{}, map[*impl.Bind]bool{}
		addMemory(t, terms, x)
		addMemory(t, terms, y)
		addBindsMemory(t, terms, binds, s)
		for range 2 {
			made, _ := impl.SubstDo(s, x)
			addMemory(t, terms, made)
			match, _ := impl.MatchOf(x, y)
			addBindsMemory(t, terms, binds, match)
			unifier, _ := impl.UnifyOf(x, y)
			addBindsMemory(t, terms, binds, unifier)
			plain, names := impl.TermPlain(x)
			addMemory(t, terms, plain)
			addBindsMemory(t, terms, binds, names)
		}
	})
}

func TestSubstThenResultsShareNoMemory(t *testing.T) {
	for _, s := range goodSubsts() {
		for _, u := range goodSubsts() {
			s, u := copyBinds(s), copyBinds(u)
			terms, binds := map[*impl.Term]bool{}, map[*impl.Bind]bool{}
			addBindsMemory(t, terms, binds, s)
			addBindsMemory(t, terms, binds, u)
			for range 2 {
				both, _ := impl.SubstThen(s, u)
				addBindsMemory(t, terms, binds, both)
			}
		}
	}
}

func TestRepeatedValuesAreNotSharedInResults(t *testing.T) {
	part := f(a(), variable(1))
	s := []impl.Bind{bind(0, part), bind(2, part)}
	terms, binds := map[*impl.Term]bool{}, map[*impl.Bind]bool{}
	made, _ := impl.SubstDo(s, f(variable(0), f(variable(0), variable(2))))
	addMemory(t, terms, made)
	both, _ := impl.SubstThen([]impl.Bind{bind(3, variable(0)), bind(4, f(variable(0), variable(2)))}, s)
	addBindsMemory(t, terms, binds, both)
	match, _ := impl.MatchOf(f(variable(0), variable(1)), f(part, part))
	addBindsMemory(t, terms, binds, match)
	unifier, _ := impl.UnifyOf(f(variable(0), f(variable(2), variable(3))), f(part, f(variable(0), variable(2))))
	addBindsMemory(t, terms, binds, unifier)
	if len(made.Kids) != 2 || len(both) != 4 || len(match) != 2 || len(unifier) != 3 {
		t.Errorf("%v, %v, %v, %v", made, both, match, unifier)
	}
}
