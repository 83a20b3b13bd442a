package tests

import (
	"slices"
	"testing"

	"loop.example/tipstaff/impl"
)

// unifyBy follows the document's words, with a list of pairs that are still to
// be made equal; it has no limit of size.
func unifyBy(s, x impl.Term) ([]impl.Bind, bool) {
	var found []impl.Bind
	waiting := [][2]impl.Term{{s, x}}
	for len(waiting) > 0 {
		first, second := applied(found, waiting[0][0]), applied(found, waiting[0][1])
		waiting = waiting[1:]
		if sameTerm(first, second) {
			continue
		}
		if first.Sign != 0 && second.Sign == 0 {
			first, second = second, first
		}
		if first.Sign == 0 {
			if slices.Contains(varsBelow(second, nil), first.Var) {
				return nil, false
			}
			found = thenOf(found, []impl.Bind{bind(first.Var, second)})
			continue
		}
		if first.Sign != second.Sign {
			return nil, false
		}
		var kids [][2]impl.Term
		for i := range first.Kids {
			kids = append(kids, [2]impl.Term{first.Kids[i], second.Kids[i]})
		}
		waiting = slices.Concat(kids, waiting)
	}
	return found, true
}

func unifyTerms() []impl.Term {
	x0, x1, x2 := variable(0), variable(1), variable(2)
	return append(matchTerms(4),
		f(x0, f(x1, x2)),
		f(f(x0, x1), x2),
		f(f(x2, x0), f(x0, x1)),
		f(g(x1), g(x2)),
		f(g(x2), f(x1, b())),
		g(f(chain(6, a()), x1)),
		g(f(x0, x0)),
		f(x0, x0),
		f(chain(7, a()), x1),
		chain(15, x2),
		comb(8),
		g(comb(8)),
		f(comb(4), chain(7, b())))
}

// eachUnify calls do with pairs of terms and their unifier.
func eachUnify(do func(x, y impl.Term, s []impl.Bind)) {
	terms := unifyTerms()
	for _, x := range terms {
		for _, y := range terms {
			if s, ok := impl.UnifyOf(x, y); ok {
				do(x, y, s)
			}
		}
	}
}

// canUnify leaves the answer to the words of the document.
func canUnify(x, y impl.Term) bool {
	s, ok := unifyBy(x, y)
	return ok && isSmall(s) && countParts(applied(s, x)) <= impl.TermMax
}

func TestUnifyOfSomeTerms(t *testing.T) {
	list := []struct{ first, second, want string }{
		{"a", "a", ""},
		{"a", "b", "no"},
		{"a", "g(a)", "no"},
		{"g(x0)", "f(x0,x0)", "no"},
		{"x0", "x0", ""},
		{"x0", "x1", "x0:x1"},
		{"x1", "x0", "x1:x0"},
		{"x3", "a", "x3:a"},
		{"a", "x3", "x3:a"},
		{"g(x0)", "x1", "x1:g(x0)"},
		{"x1", "g(x0)", "x1:g(x0)"},
		{"x0", "g(x0)", "no"},
		{"g(x0)", "x0", "no"},
		{"x0", "f(a,f(b,g(x0)))", "no"},
		{"f(x0,x1)", "f(x0,x1)", ""},
		{"f(x0,x1)", "f(x1,x0)", "x0:x1"},
		{"f(x0,x1)", "f(x1,x2)", "x0:x2 x1:x2"},
		{"f(x1,x2)", "f(x0,x1)", "x1:x0 x2:x0"},
		{"f(x0,x0)", "f(a,b)", "no"},
		{"f(x0,x0)", "f(x1,a)", "x0:a x1:a"},
		{"f(x1,a)", "f(x0,x0)", "x0:a x1:a"},
		{"f(x0,x0)", "f(g(x1),g(a))", "x0:g(a) x1:a"},
		{"f(x0,x0)", "f(g(x1),x1)", "no"},
		{"f(x0,x1)", "f(g(x1),g(x0))", "no"},
		{"f(x0,x1)", "f(g(x1),x0)", "no"},
		{"f(x0,f(x1,x2))", "f(g(x1),f(g(x2),g(x0)))", "no"},
		{"f(x0,f(x1,x0))", "f(x1,f(x2,a))", "x0:a x1:a x2:a"},
		{"f(x0,f(x1,x2))", "f(f(x1,x1),f(g(x2),a))", "x0:f(g(a),g(a)) x1:g(a) x2:a"},
		{"f(g(x0),x1)", "f(x1,g(a))", "x0:a x1:g(a)"},
		{"f(f(x0,x1),x2)", "f(x2,f(a,b))", "x0:a x1:b x2:f(a,b)"},
		{"f(x11,g(x10))", "f(x10,x9)", "x9:g(x10) x11:x10"},
	}
	for _, c := range list {
		s, ok := impl.UnifyOf(readTerm(t, c.first), readTerm(t, c.second))
		if c.want == "no" {
			mustFailBinds(t, s, ok)
		} else if !ok || bindsText(s) != c.want {
			t.Errorf("%s and %s: got %s, %v; want %s", c.first, c.second, bindsText(s), ok, c.want)
		}
	}
}

func TestUnifyOfAllPairs(t *testing.T) {
	terms := unifyTerms()
	for _, x := range terms {
		for _, y := range terms {
			got, ok := impl.UnifyOf(x, y)
			if !canUnify(x, y) {
				mustFailBinds(t, got, ok)
				continue
			}
			want, _ := unifyBy(x, y)
			mustBinds(t, got, ok, want)
		}
	}
}

func TestUnifyKeepsToTheLargestSize(t *testing.T) {
	list := []struct {
		name string
		x, y impl.Term
		ok   bool
	}{
		{"bound term at the limit", variable(0), chain(15, a()), true},
		{"unified term at the limit", g(f(variable(0), variable(0))), g(f(chain(6, a()), variable(1))), true},
		{"only the unified term too large", f(variable(0), variable(0)), f(chain(7, a()), variable(1)), false},
		{"unified term below the limit, a variable repeated", f(f(variable(0), variable(1)), variable(0)), f(f(chain(2, a()), chain(6, a())), variable(2)), true},
		{"bound term grows too large", f(variable(0), variable(1)), f(chain(9, variable(1)), chain(3, a())), false},
		{"bound term grows to the limit of the unified term", f(variable(0), variable(1)), f(chain(8, variable(1)), chain(2, a())), true},
		{"bound terms double", f(variable(0), f(variable(1), f(variable(2), variable(3)))), f(f(variable(1), variable(1)), f(f(variable(2), variable(2)), f(f(variable(3), variable(3)), a()))), false},
		{"bound terms double past the limit", f(variable(0), f(variable(1), f(variable(2), variable(3)))), f(f(variable(1), variable(1)), f(f(variable(2), variable(2)), f(f(variable(3), variable(3)), f(a(), a())))), false},
	}
	for _, c := range list {
		t.Run(c.name, func(t *testing.T) {
			if canUnify(c.x, c.y) != c.ok {
				t.Fatal("the example is not what its name says")
			}
			got, ok := impl.UnifyOf(c.x, c.y)
			if !c.ok {
				mustFailBinds(t, got, ok)
				return
			}
			want, _ := unifyBy(c.x, c.y)
			mustBinds(t, got, ok, want)
		})
	}
}

func TestP33UnifierMakesBothTermsEqual(t *testing.T) {
	eachUnify(func(x, y impl.Term, s []impl.Bind) {
		if !impl.SubstOk(s) {
			t.Fatalf("unifier of %v and %v: %v", x, y, s)
		}
		first, okFirst := impl.SubstDo(s, x)
		second, okSecond := impl.SubstDo(s, y)
		if !okFirst {
			t.Fatalf("%v applied to %v", s, x)
		}
		mustTerm(t, second, okSecond, first)
	})
}

// eachSubst calls do with the substitutions of some variables by some terms.
func eachSubst(vars []int, values []impl.Term, s []impl.Bind, do func([]impl.Bind)) {
	if len(vars) == 0 {
		do(s)
		return
	}
	for _, value := range values {
		eachSubst(vars[1:], values, append(slices.Clone(s), bind(vars[0], value)), do)
	}
}

func TestP34EveryOtherUnifierIsAnInstance(t *testing.T) {
	x0, x1, x5 := variable(0), variable(1), variable(5)
	terms := append(matchTerms(3), readTerm(t, "f(g(x0),x1)"), readTerm(t, "f(x1,f(x0,x5))"), readTerm(t, "f(f(x5,x5),x0)"))
	values := []impl.Term{x0, x1, x5, a(), g(x1), g(a()), g(g(a())), f(a(), a()), f(x1, x5)}
	others := 0
	for _, x := range terms {
		for _, y := range terms {
			least, ok := impl.UnifyOf(x, y)
			eachSubst([]int{0, 1, 5}, values, nil, func(s []impl.Bind) {
				made := applied(s, x)
				if !sameTerm(made, applied(s, y)) || countParts(made) > impl.TermMax {
					return
				}
				others++
				if !ok {
					t.Fatalf("%v unifies %v and %v", s, x, y)
				}
				unified, _ := impl.SubstDo(least, x)
				if _, ok := impl.MatchOf(unified, made); !ok {
					t.Fatalf("%v does not match %v, made of %v and %v", unified, made, x, y)
				}
			})
		}
	}
	if others < 1000 {
		t.Errorf("only %d other unifiers were tried", others)
	}
}

func TestP35ExchangedTermsUnifyUpToRenaming(t *testing.T) {
	eachUnify(func(x, y impl.Term, s []impl.Bind) {
		back, ok := impl.UnifyOf(y, x)
		if !ok {
			t.Fatalf("%v and %v can be unified only one way round", x, y)
		}
		here, _ := impl.SubstDo(s, x)
		there, _ := impl.SubstDo(back, x)
		plainHere, _ := impl.TermPlain(here)
		plainThere, _ := impl.TermPlain(there)
		mustTerm(t, plainHere, true, plainThere)
	})
}

func TestP36TermIsUnifiedWithItselfByNothing(t *testing.T) {
	for _, x := range append(goodTerms(), unifyTerms()...) {
		s, ok := impl.UnifyOf(x, copyTerm(x))
		mustBinds(t, s, ok, nil)
	}
}

func TestP37UnifierIsIdempotent(t *testing.T) {
	eachUnify(func(x, y impl.Term, s []impl.Bind) {
		for _, b := range s {
			for _, v := range varsBelow(b.Term, nil) {
				if isBound(s, v) {
					t.Fatalf("unifier of %v and %v: %v", x, y, s)
				}
			}
		}
		twice, ok := impl.SubstThen(s, s)
		mustBinds(t, twice, ok, s)
	})
}

func TestP38TermsThatMatchCanBeUnified(t *testing.T) {
	apart := numbered(func(number int) impl.Term { return variable((number + 6) % impl.TermVar) })
	terms := append(matchTerms(4), comb(3), g(f(comb(2), chain(11, a()))))
	for _, pattern := range terms {
		for _, other := range terms {
			x := applied(apart, other)
			if _, ok := impl.MatchOf(pattern, x); !ok {
				continue
			}
			s, ok := impl.UnifyOf(pattern, x)
			if !ok || !sameTerm(applied(s, pattern), applied(s, x)) {
				t.Fatalf("%v matches %v, and they cannot be unified", pattern, x)
			}
			s, ok = impl.UnifyOf(x, pattern)
			if !ok || !sameTerm(applied(s, pattern), applied(s, x)) {
				t.Fatalf("%v matches %v, and they cannot be unified the other way round", pattern, x)
			}
		}
	}
}

func TestP39VariableIsUnifiedUnlessItOccurs(t *testing.T) {
	for _, x := range append(goodTerms(), unifyTerms()...) {
		if x.Sign == 0 {
			continue
		}
		for v := range impl.TermVar {
			inside := slices.Contains(varsBelow(x, nil), v)
			here, okHere := impl.UnifyOf(variable(v), x)
			there, okThere := impl.UnifyOf(x, variable(v))
			if inside {
				mustFailBinds(t, here, okHere)
				mustFailBinds(t, there, okThere)
			} else {
				mustBinds(t, here, okHere, []impl.Bind{bind(v, x)})
				mustBinds(t, there, okThere, []impl.Bind{bind(v, x)})
			}
		}
	}
}

func TestP40ArgumentsOfUnifiedTermsCanBeUnified(t *testing.T) {
	eachUnify(func(x, y impl.Term, _ []impl.Bind) {
		if x.Sign == 0 || y.Sign == 0 {
			return
		}
		for i := range x.Kids {
			if _, ok := impl.UnifyOf(x.Kids[i], y.Kids[i]); !ok {
				t.Fatalf("%v and %v can be unified, their arguments %d cannot", x, y, i)
			}
		}
	})
}
