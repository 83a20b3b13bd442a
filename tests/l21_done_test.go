package tests

import (
	"slices"
	"strings"
	"testing"

	"loop.example/tipstaff/impl"
)

func TestSomeCompletions(t *testing.T) {
	list := []struct {
		name, task string
		code       int
		rules      string
		stuck      string
	}{
		{"no equations", " | fgba", impl.DoneAll, "", ""},
		{"from left to right", "f(x0,a) = x0 | fgba", impl.DoneAll, "f(x0,a) to x0 by 1", ""},
		{"from right to left", "x0 = f(x0,a) | fgba", impl.DoneAll, "f(x0,a) to x0 by 1", ""},
		{"no variable", "a = b | fgba", impl.DoneAll, "b to a by 1", ""},
		{"no variable, another ranking", "a = b | fgab", impl.DoneAll, "a to b by 1", ""},
		{"equal sides", "f(x0,x1) = f(x0,x1) | fgba", impl.DoneAll, "", ""},
		{"equal variables", "x3 = x3 | fgba", impl.DoneAll, "", ""},
		{"equal sides beside others", "g(x0) = g(x0); b = a; x1 = x1 | fgba", impl.DoneAll, "b to a by 1", ""},
		{"the same equation twice", "f(x0,a) = x0; f(x0,a) = x0 | fgba", impl.DoneAll, "f(x0,a) to x0 by 1", ""},
		{"the same equation with its sides exchanged", "f(x0,a) = x0; x0 = f(x0,a) | fgba", impl.DoneAll, "f(x0,a) to x0 by 1", ""},
		{"the same equation renamed", "f(x0,a) = x0; f(x5,a) = x5 | fgba", impl.DoneAll, "f(x0,a) to x0 by 1", ""},
		{"the same equation six times", "g(a) = b; g(a) = b; b = g(a); g(a) = b; g(a) = b; b = g(a) | fgba", impl.DoneAll, "g(a) to b by 1", ""},
		{"renamed", "f(x3,x1) = x1 | fgba", impl.DoneAll, "f(x0,x1) to x1 by 1", ""},
		{"exchanged and renamed", "g(x2) = f(g(x2),f(x11,x4)) | fgba", impl.DoneAll, "f(g(x0),f(x1,x2)) to g(x0) by 1; f(g(x0),g(x1)) to g(x0) by 2", ""},
		{"equal after some steps", "b = a; g(b) = g(a) | fgba", impl.DoneAll, "b to a by 1", ""},
		{"the second side is greater after some steps", "g(g(a)) = a; g(g(g(g(a)))) = g(a) | fgba", impl.DoneAll, "g(a) to a by 3", ""},
		{"neither is greater", "f(x0,x1) = f(x1,x0) | fgba", impl.DoneStuck, "", "f(x0,x1) = f(x1,x0)"},
		{"two variables", "x0 = x1 | fgba", impl.DoneStuck, "", "x0 = x1"},
		{"a variable and a symbol", "a = x0 | fgba", impl.DoneStuck, "", "a = x0"},
		{"a further variable on each side", "f(x0,a) = g(x1) | fgba", impl.DoneStuck, "", "f(x0,a) = g(x1)"},
		{"stuck, and not renamed", "f(x5,x3) = f(x3,x5) | fgba", impl.DoneStuck, "", "f(x5,x3) = f(x3,x5)"},
		{"stuck in normal form, with rules", "f(f(x0,a),x1) = f(x1,f(g(b),x0)); f(x0,a) = x0; g(b) = a | fgba", impl.DoneStuck, "g(b) to a by 1; f(x0,a) to x0 by 1", "f(x0,x1) = f(x1,f(a,x0))"},
		{"stuck at a critical pair", "f(f(x2,x11),x4) = g(x2) | fgba", impl.DoneStuck, "f(f(x0,x1),x2) to g(x0) by 1", "g(f(x6,x7)) = f(g(x6),x2)"},
		{"a critical pair meets", "g(f(x0,x1)) = f(x1,x0); g(g(x0)) = x0 | gfba", impl.DoneAll, "g(g(x0)) to x0 by 1; g(f(x0,x1)) to f(x1,x0) by 1", ""},
		{"stuck before what waits", "x0 = a; f(x0,a) = x0; b = a | fgba", impl.DoneStuck, "", "x0 = a"},
		{"stuck behind what is smaller", "f(x0,x1) = f(x1,x0); g(a) = a; b = a | fgba", impl.DoneStuck, "b to a by 1; g(a) to a by 1", "f(x0,x1) = f(x1,x0)"},
		{"associative", "f(f(x0,x1),x2) = f(x0,f(x1,x2)) | fgba", impl.DoneAll, "f(f(x0,x1),x2) to f(x0,f(x1,x2)) by 1", ""},
		{"a unit on both sides", "f(f(x0,x1),x2) = f(x0,f(x1,x2)); f(x0,a) = x0; f(a,x0) = x0 | fgba", impl.DoneAll, "f(x0,a) to x0 by 1; f(a,x0) to x0 by 1; f(f(x0,x1),x2) to f(x0,f(x1,x2)) by 1", ""},
		{"a critical pair is a rule", "f(x0,a) = x0; f(a,x0) = g(x0) | fgba", impl.DoneAll, "f(x0,a) to x0 by 1; f(a,x0) to g(x0) by 1; g(a) to a by 2", ""},
	}
	for _, c := range list {
		x := readTask(t, c.task)
		d := impl.DoneOf(x.eqs, x.rank)
		stuck := ""
		if !isZero(d.Stuck.S) || !isZero(d.Stuck.T) {
			stuck = eqsText([]impl.Eq{d.Stuck})
		}
		if d.Code != c.code || rulesText(d.Rules) != c.rules || stuck != c.stuck {
			t.Errorf("%s: got %d, %q, %q; want %d, %q, %q", c.name, d.Code, rulesText(d.Rules), stuck, c.code, c.rules, c.stuck)
		}
		if got := courseOf(x.eqs, x.rank).done(); !sameDone(d, got) {
			t.Errorf("%s: by the document's words %v", c.name, got)
		}
	}
}

// sixSmall are equations of one size that have no critical pairs.
func sixSmall() []impl.Eq {
	return []impl.Eq{eq(f(a(), a()), a()), eq(b(), f(a(), b())), eq(f(b(), a()), a()), eq(f(b(), b()), b()), eq(a(), g(g(a()))), eq(g(g(b())), b())}
}

// eachOrder calls do with a list in all orders.
func eachOrder[T any](list, front []T, do func([]T)) {
	if len(list) == 0 {
		do(front)
	}
	for i := range list {
		eachOrder(slices.Concat(list[:i], list[i+1:]), append(slices.Clone(front), list[i]), do)
	}
}

func TestFirstOfTheSmallestIsTakenFirst(t *testing.T) {
	eachOrder(sixSmall(), nil, func(eqs []impl.Eq) {
		d := impl.DoneOf(eqs, rankOf("gfba"))
		if d.Code != impl.DoneAll || len(d.Rules) != len(eqs) {
			t.Fatalf("%s: %v", eqsText(eqs), d)
		}
		for i, r := range d.Rules {
			if !sameTerm(r.L, eqs[i].S) && !sameTerm(r.L, eqs[i].T) || r.Why[0].Eq != i {
				t.Fatalf("%s: %s", eqsText(eqs), rulesText(d.Rules))
			}
		}
	})
}

func TestSmallerEquationsAreTakenFirst(t *testing.T) {
	var eqs []impl.Eq
	for i := range impl.EqMax {
		eqs = append(eqs, eq(f(chain(i, a()), chain(i, b())), a()))
	}
	want := rulesText(impl.DoneOf(eqs, rankOf("fgba")).Rules)
	if want != "f(a,b) to a by 1; f(g(a),g(b)) to a by 1; f(g(g(a)),g(g(b))) to a by 1; f(g(g(g(a))),g(g(g(b)))) to a by 1; f(g(g(g(g(a)))),g(g(g(g(b))))) to a by 1; f(g(g(g(g(g(a))))),g(g(g(g(g(b)))))) to a by 1" {
		t.Error(want)
	}
	eachOrder(eqs, nil, func(eqs []impl.Eq) {
		if got := rulesText(impl.DoneOf(eqs, rankOf("fgba")).Rules); got != want {
			t.Fatalf("%s: %s", eqsText(eqs), got)
		}
	})
}

// The total size of both terms counts, not that of one.
func TestTotalSizeOfBothTermsCounts(t *testing.T) {
	list := []struct{ task, want string }{
		{"f(g(g(a)),a) = a; f(g(b),b) = g(g(b)) | fgba", "f(g(g(a)),a) to a by 1; f(g(b),b) to g(g(b)) by 1"},
		{"f(g(b),b) = g(g(b)); f(g(g(a)),a) = a | fgba", "f(g(g(a)),a) to a by 1; f(g(b),b) to g(g(b)) by 1"},
		{"f(g(b),b) = g(b); f(g(g(a)),a) = a | fgba", "f(g(b),b) to g(b) by 1; f(g(g(a)),a) to a by 1"},
		{"f(g(g(a)),a) = a; f(g(b),b) = g(b) | fgba", "f(g(g(a)),a) to a by 1; f(g(b),b) to g(b) by 1"},
		{"a = f(g(g(a)),a); g(g(g(b))) = f(g(b),b) | fgba", "f(g(g(a)),a) to a by 1; f(g(b),b) to g(g(g(b))) by 1"},
		{"g(g(g(b))) = f(g(b),b); a = f(g(g(a)),a) | fgba", "f(g(g(a)),a) to a by 1; f(g(b),b) to g(g(g(b))) by 1"},
	}
	for _, c := range list {
		x := readTask(t, c.task)
		if got := rulesText(impl.DoneOf(x.eqs, x.rank).Rules); got != c.want {
			t.Errorf("%s: %s", c.task, got)
		}
	}
}

// What the document's words do is told line by line, so that it can be read;
// DoneOf must do the same.
func TestSomeCourses(t *testing.T) {
	list := []struct{ name, task, end, log string }{
		{"critical pairs before a larger equation", "f(x0,a) = x0; g(g(g(g(b)))) = a; f(a,x0) = g(x0) | fgba", endAll, `
			take f(x0,a) = x0; rule f(x0,a) to x0 by 1
			take f(a,x0) = g(x0); rule f(a,x0) to g(x0) by 1
			take a = g(a); exchange; rule g(a) to a by 2
			take g(a) = a; drop
			take g(g(g(g(b)))) = a; rule g(g(g(g(b)))) to a by 1`},
		{"an older rule has a pair with the new one", "g(f(x0,x0)) = x0; f(b,b) = g(g(b)) | fgba", endAll, `
			take g(f(x0,x0)) = x0; rule g(f(x0,x0)) to x0 by 1
			take f(b,b) = g(g(b)); rule f(b,b) to g(g(b)) by 1
			take b = g(g(g(b))); exchange; rule g(g(g(b))) to b by 2`},
		{"the new rule has a pair with an older one", "f(b,b) = b; g(f(x0,x0)) = a | fgba", endAll, `
			take f(b,b) = b; rule f(b,b) to b by 1
			take g(f(x0,x0)) = a; rule g(f(x0,x0)) to a by 1
			take a = g(b); exchange; rule g(b) to a by 2`},
		{"the new rule has pairs with itself, once", "g(g(g(x0))) = x0 | fgba", endAll, `
			take g(g(g(x0))) = x0; rule g(g(g(x0))) to x0 by 1
			take g(x6) = g(x6); drop
			take g(g(x6)) = g(g(x6)); drop`},
		{"pairs with older ones, then with itself", "f(x0,a) = x0; f(a,x0) = x0; f(f(x0,x1),x2) = f(x0,f(x1,x2)) | fgba", endAll, `
			take f(x0,a) = x0; rule f(x0,a) to x0 by 1
			take f(a,x0) = x0; rule f(a,x0) to x0 by 1
			take a = a; drop
			take a = a; drop
			take f(f(x0,x1),x2) = f(x0,f(x1,x2)); rule f(f(x0,x1),x2) to f(x0,f(x1,x2)) by 1
			take f(x6,x7) = f(x6,f(x7,a)); drop
			take f(x0,f(x1,a)) = f(x0,x1); drop
			take f(x6,f(a,x2)) = f(x6,x2); drop
			take f(a,f(x6,x2)) = f(x6,x2); drop
			take f(f(x6,x7),f(x8,x2)) = f(f(x6,f(x7,x8)),x2); drop`},
		{"a left side changes", "f(x0,a) = x0; g(g(a)) = b; f(a,x0) = g(x0) | fgba", endAll, `
			take f(x0,a) = x0; rule f(x0,a) to x0 by 1
			take g(g(a)) = b; rule g(g(a)) to b by 1
			take f(a,x0) = g(x0); rule f(a,x0) to g(x0) by 1
			take a = g(a); exchange
			again g(g(a)) to b by 1 left true right false; rule g(a) to a by 2
			take g(a) = a; drop
			take g(g(a)) = b; exchange; rule b to a by 5`},
		{"a right side changes", "f(x0,a) = x0; f(b,b) = g(a); f(a,x0) = g(x0) | fgba", endAll, `
			take f(x0,a) = x0; rule f(x0,a) to x0 by 1
			take f(b,b) = g(a); rule f(b,b) to g(a) by 1
			take f(a,x0) = g(x0); rule f(a,x0) to g(x0) by 1
			take a = g(a); exchange
			again f(b,b) to g(a) by 1 left false right true; rule g(a) to a by 2
			take g(a) = a; drop
			take f(b,b) = g(a); rule f(b,b) to a by 3`},
		{"several change at once, in order", "g(b) = a; f(a,x1) = b; f(x0,a) = a | abgf", endAll, `
			take g(b) = a; exchange; rule a to g(b) by 1
			take f(a,x1) = b; rename; rule f(g(b),x0) to b by 2
			take f(x0,a) = a; rule f(x0,g(b)) to g(b) by 3
			take b = g(b); exchange
			again a to g(b) by 1 left false right true
			again f(g(b),x0) to b by 2 left true right false
			again f(x0,g(b)) to g(b) by 3 left true right true; rule g(b) to b by 5
			take g(b) = b; drop
			take a = g(b); rule a to b by 6
			take f(g(b),x0) = b; rule f(b,x0) to b by 7
			take f(x0,g(b)) = g(b); rule f(x0,b) to b by 13
			take b = b; drop
			take b = b; drop`},
		{"what changes waits behind others of its size", "g(g(g(x1))) = b; g(g(b)) = a | gfba", endAll, `
			take g(g(b)) = a; rule g(g(b)) to a by 1
			take g(g(g(x1))) = b; rename; rule g(g(g(x0))) to b by 1
			take b = g(a); exchange; rule g(a) to b by 2
			take b = g(b); exchange
			again g(g(b)) to a by 1 left true right false; rule g(b) to b by 2
			take b = g(g(a)); drop
			take b = g(g(b)); drop
			take b = g(g(b)); drop
			take g(g(b)) = a
			again g(g(g(x0))) to b by 1 left false right true
			again g(a) to b by 2 left false right true
			again g(b) to b by 2 left true right true; rule b to a by 5
			take g(a) = b; rule g(a) to a by 7
			take g(b) = b; drop
			take b = g(g(b)); drop
			take g(g(g(x0))) = b; rule g(g(g(x0))) to a by 6
			take a = g(a); drop
			take a = g(g(a)); drop
			take a = g(g(a)); drop`},
	}
	for _, c := range list {
		t.Run(c.name, func(t *testing.T) {
			x := readTask(t, c.task)
			got := strings.Join(mustCourse(t, x.eqs, x.rank, c.end).log, "; ")
			want := strings.Join(strings.FieldsFunc(c.log, func(r rune) bool { return r == '\n' || r == '\t' }), "; ")
			if got != want {
				t.Errorf("got  %s\nwant %s", got, want)
			}
		})
	}
}

func TestProofsOfSomeRulesThatAreMade(t *testing.T) {
	x0, x1 := variable(0), variable(1)
	list := []struct {
		name, task string
		number     int
		want       []impl.Link
	}{
		{"from left to right", "f(x0,a) = x0 | fgba", 0, []impl.Link{self(0, 1)}},
		{"from right to left", "x0 = f(x0,a) | fgba", 0, []impl.Link{turned(self(0, 1))}},
		{"no variable", "g(g(b)) = b; a = g(a) | fgba", 0, []impl.Link{turned(self(1, 0))}},
		{"variables of both sides, ascending", "f(x9,f(x0,x1)) = x1 | fgba", 0, []impl.Link{at(0, false, nil, bind(0, x1), bind(1, variable(2)), bind(9, x0))}},
		{"renamed from right to left", "x1 = f(x9,x1) | fgba", 0, []impl.Link{at(0, true, nil, bind(1, x1), bind(9, x0))}},
		{"all variables", "f(f(x3,x11),f(f(x10,x0),f(x5,x3))) = x11 | fgba", 0, []impl.Link{
			at(0, false, nil, bind(0, variable(3)), bind(3, x0), bind(5, variable(4)), bind(10, variable(2)), bind(11, x1)),
		}},
		{"a critical pair, exchanged", "f(x0,a) = x0; f(a,x0) = g(x0) | fgba", 2, []impl.Link{
			at(1, true, nil, bind(0, a())),
			at(0, false, nil, bind(0, a())),
		}},
		{"a critical pair below the root", "g(f(x0,x0)) = x0; f(b,b) = g(g(b)) | fgba", 2, []impl.Link{
			at(1, true, []int{0}),
			at(0, false, nil, bind(0, b())),
		}},
		{"the first side in normal form, exchanged", "g(g(a)) = a; g(g(g(g(a)))) = g(a) | fgba", 0, []impl.Link{
			at(1, true, nil),
			at(0, false, []int{0, 0}),
			at(0, false, nil),
		}},
		{"both sides in normal form", "b = a; f(b,g(b)) = g(g(b)) | fgba", 1, []impl.Link{
			at(0, true, []int{1, 0}),
			at(0, true, []int{0}),
			at(1, false, nil),
			at(0, false, []int{0, 0}),
		}},
		{"both sides in normal form, with variables, renamed", "f(x0,a) = x0; f(g(f(x9,a)),f(x1,f(a,a))) = g(f(x9,a)) | fgba", 1, []impl.Link{
			at(0, true, []int{1}, bind(0, x1)),
			at(0, true, []int{1, 1}, bind(0, a())),
			at(0, true, []int{0, 0}, bind(0, x0)),
			at(1, false, nil, bind(1, x1), bind(9, x0)),
			at(0, false, []int{0}, bind(0, x0)),
		}},
		{"a rule that changed", "f(x0,a) = x0; f(b,b) = g(a); f(a,x0) = g(x0) | fgba", 3, []impl.Link{
			at(1, false, nil),
			at(2, true, nil, bind(0, a())),
			at(0, false, nil, bind(0, a())),
		}},
		{"a variable that is in no side", "f(a,g(x9)) = a; f(x3,g(x5)) = b | fgba", 0, []impl.Link{
			at(1, true, nil, bind(3, a()), bind(5, x0)),
			at(0, false, nil, bind(9, x0)),
		}},
	}
	for _, c := range list {
		t.Run(c.name, func(t *testing.T) {
			x := readTask(t, c.task)
			d := impl.DoneOf(x.eqs, x.rank)
			if len(d.Rules) <= c.number {
				t.Fatalf("only %s", rulesText(d.Rules))
			}
			r := d.Rules[c.number]
			if !sameLinks(r.Why, c.want) {
				t.Errorf("%s: got %v, want %v", ruleText(r), r.Why, c.want)
			}
			end, ok := impl.ProofEnd(x.eqs, r.L, r.Why)
			mustTerm(t, end, ok, r.R)
		})
	}
}

func TestCompletionsOfAllKinds(t *testing.T) {
	ends := map[string]int{}
	for _, x := range thrownTasks() {
		c := courseOf(x.eqs, x.rank)
		mustDone(t, x.eqs, x.rank, c.done())
		ends[c.end]++
	}
	for _, end := range []string{endAll, endStuck, endNormT, endLinks, endProof, endRules, endLarge, endMax} {
		if ends[end] == 0 {
			t.Errorf("%s: never", end)
		}
	}
	if ends[endAll] < 500 || ends[endStuck] < 100 || ends[endLarge] < 20 {
		t.Errorf("%v", ends)
	}
}

func TestCompletionsOfSystems(t *testing.T) {
	for _, s := range goodSystems() {
		for _, rank := range rankings() {
			mustDone(t, s.eqs, rank, courseOf(s.eqs, rank).done())
		}
	}
}

func TestNilAndEmptyArgumentsAreTheSameInCompletion(t *testing.T) {
	for _, eqs := range [][]impl.Eq{nil, {}} {
		mustDone(t, eqs, rankOf("fgba"), impl.Done{Code: impl.DoneAll})
		for _, rank := range [][]int{nil, {}} {
			mustDone(t, eqs, rank, impl.Done{Code: impl.DoneBad})
		}
	}
	x := eq(impl.Term{Sign: impl.SignG, Kids: []impl.Term{{Sign: impl.SignA, Kids: []impl.Term{}}}}, impl.Term{Sign: impl.SignB, Kids: []impl.Term{}})
	mustDone(t, []impl.Eq{x}, rankOf("gbfa"), impl.Done{Rules: []impl.Rule{rule(g(a()), b(), self(0, 0))}})
}

// mustBeBad also looks for what sameDone does not see.
func mustBeBad(t *testing.T, eqs []impl.Eq, rank []int) {
	t.Helper()
	d := impl.DoneOf(eqs, rank)
	if d.Code != impl.DoneBad || len(d.Rules) > 0 || !isZero(d.Stuck.S) || !isZero(d.Stuck.T) {
		t.Fatalf("%v", d)
	}
}

func TestBadTermsAreNotCompleted(t *testing.T) {
	for _, bad := range badTerms() {
		t.Run(bad.name, func(t *testing.T) {
			for _, e := range []impl.Eq{eq(bad.term, a()), eq(a(), bad.term), eq(bad.term, bad.term), eq(g(bad.term), g(bad.term))} {
				mustBeBad(t, []impl.Eq{e}, rankOf("fgba"))
				mustBeBad(t, []impl.Eq{e}, nil)
				for i := range impl.EqMax {
					eqs := slices.Repeat([]impl.Eq{eq(variable(0), variable(1))}, impl.EqMax)
					eqs[i] = e
					mustBeBad(t, eqs, rankOf("fgba"))
					mustBeBad(t, eqs[:i+1], rankOf("fgba"))
					mustBeBad(t, eqs, rankOf("fgbb"))
				}
			}
		})
	}
}

func TestTooManyEquationsAreNotCompleted(t *testing.T) {
	good := eq(b(), a())
	for number := range impl.EqMax + 1 {
		if d := impl.DoneOf(slices.Repeat([]impl.Eq{good}, number), rankOf("fgba")); d.Code != impl.DoneAll {
			t.Errorf("%d equations: %v", number, d)
		}
	}
	for _, number := range []int{impl.EqMax + 1, impl.EqMax + 2, 100000} {
		mustBeBad(t, slices.Repeat([]impl.Eq{good}, number), rankOf("fgba"))
		mustBeBad(t, slices.Repeat([]impl.Eq{eq(a(), a())}, number), rankOf("fgba"))
		mustBeBad(t, slices.Repeat([]impl.Eq{good}, number), nil)
	}
}

func TestBadRankingsAreNotCompletedBy(t *testing.T) {
	for _, bad := range badRanks() {
		t.Run(bad.name, func(t *testing.T) {
			mustBeBad(t, nil, bad.rank)
			mustBeBad(t, []impl.Eq{eq(a(), a())}, bad.rank)
			mustBeBad(t, []impl.Eq{eq(variable(0), variable(1))}, bad.rank)
			mustBeBad(t, []impl.Eq{eq(impl.Term{Sign: impl.SignG}, a())}, bad.rank)
			for _, s := range goodSystems() {
				mustBeBad(t, s.eqs, bad.rank)
			}
		})
	}
}

func TestCompletionArgumentsStayUnchanged(t *testing.T) {
	for i, x := range thrownTasks() {
		if i%5 > 0 {
			continue
		}
		eqs, rank := copyEqs(x.eqs), slices.Clone(x.rank)
		impl.DoneOf(x.eqs, x.rank)
		if !sameEqs(x.eqs, eqs) || !slices.Equal(x.rank, rank) {
			t.Fatalf("%v by %v became %v by %v", eqs, rank, x.eqs, x.rank)
		}
	}
}

func TestRoomBehindEquationsStaysUnchanged(t *testing.T) {
	eqs := []impl.Eq{eq(g(g(b())), b()), eq(a(), g(a())), eq(f(variable(0), variable(1)), variable(0)), eq(a(), b())}
	rank := append(rankOf("fgba"), 7, 8)
	old := copyEqs(eqs)
	impl.DoneOf(eqs[:2], rank[:4])
	if !sameEqs(eqs, old) || !slices.Equal(rank, append(rankOf("fgba"), 7, 8)) {
		t.Errorf("%v, %v", eqs, rank)
	}
}

func (m proofMemory) addDone(t *testing.T, d impl.Done, seen map[*impl.Rule]bool) {
	t.Helper()
	all := d.Rules[:cap(d.Rules)]
	for i := range all {
		if seen[&all[i]] {
			t.Fatalf("memory is shared at %v", d.Rules)
		}
		seen[&all[i]] = true
	}
	m.addRules(t, all)
	addMemory(t, m.terms, d.Stuck.S)
	addMemory(t, m.terms, d.Stuck.T)
}

func TestCompletionResultsShareNoMemory(t *testing.T) {
	for i, x := range thrownTasks() {
		if i%5 > 0 {
			continue
		}
		eqs, memory, seen := copyEqs(x.eqs), newProofMemory(), map[*impl.Rule]bool{}
		memory.addEqs(t, eqs)
		for range 2 {
			memory.addDone(t, impl.DoneOf(eqs, x.rank), seen)
		}
	}
}

func TestSharedPartsAreNotSharedInCompletions(t *testing.T) {
	part := f(variable(3), f(variable(5), variable(3)))
	same := eq(g(f(part, part)), part)
	for _, eqs := range [][]impl.Eq{{same, same}, {eq(f(part, g(variable(7))), part)}, {eq(part, f(variable(5), part))}} {
		memory, seen := newProofMemory(), map[*impl.Rule]bool{}
		for range 2 {
			memory.addDone(t, impl.DoneOf(eqs, rankOf("gfab")), seen)
		}
	}
}

func TestCompletionKeepsNothingBetweenCalls(t *testing.T) {
	first := readTask(t, "g(b) = a; f(a,x1) = b; f(x0,a) = a | abgf")
	want := impl.DoneOf(first.eqs, first.rank)
	for i, x := range thrownTasks() {
		if i%20 > 0 {
			continue
		}
		impl.DoneOf(x.eqs, x.rank)
		mustDone(t, first.eqs, first.rank, want)
	}
}

// What a caller does to a result does not reach the next one.
func TestCompletionResultsMayBeChanged(t *testing.T) {
	x := readTask(t, "f(x0,a) = x0; f(a,x0) = g(x0); f(x0,x1) = f(x1,x0) | fgba")
	first := impl.DoneOf(x.eqs, x.rank)
	for i := range first.Rules {
		first.Rules[i].L.Kids[0], first.Rules[i].R, first.Rules[i].Why[0].Eq = b(), b(), 5
	}
	first.Stuck.S.Kids[0] = b()
	mustDone(t, x.eqs, x.rank, courseOf(x.eqs, x.rank).done())
}
