package tests

import (
	"slices"
	"testing"

	"loop.example/tipstaff/impl"
)

// scattered has so many g below none of its f, below one, and so on. The sorter
// moves each g in front of all f above it, which takes as many steps.
func scattered(gs ...int) impl.Term {
	slices.Reverse(gs)
	x := chain(gs[0], variable(9))
	for _, number := range gs[1:] {
		x = chain(number, f(variable(9), x))
	}
	return x
}

// sorted is what the sorter makes of word.
func sorted(fs, gs, bs int) impl.Term {
	leaf := func(number int) impl.Term {
		if number < bs {
			return a()
		}
		return variable(9)
	}
	x := leaf(fs)
	for i := range fs {
		x = f(leaf(i), x)
	}
	return chain(gs, x)
}

// sorterAnd is the sorter's equations and another one.
func sorterAnd(s, x impl.Term) task {
	sort := sorter(1, 1)
	return task{append(copyEqs(sort.eqs), eq(s, x)), sort.rank}
}

func mustRules(t *testing.T, c *course, want string) {
	t.Helper()
	if got := rulesText(c.rules); got != want {
		t.Errorf("%s: got %s, want %s", eqsText(c.eqs), got, want)
	}
}

const sorterRules = "b to a by 1; f(x0,g(x1)) to g(f(x0,x1)) by 1"

func TestCompletionKeepsToStepsMax(t *testing.T) {
	list := []struct {
		bs         int
		endS, endT string
	}{{0, endAll, endAll}, {1, endAll, endAll}, {2, endNormS, endNormT}, {3, endNormS, endNormT}}
	for _, c := range list {
		x, y := word(4, 7, c.bs), sorted(4, 7, c.bs)
		left, right := sorterAnd(x, y), sorterAnd(y, x)
		mustRules(t, mustCourse(t, left.eqs, left.rank, c.endS), sorterRules)
		mustRules(t, mustCourse(t, right.eqs, right.rank, c.endT), sorterRules)
	}
}

// Both sides have the same normal form, but the proof is checked before that.
func TestCompletionKeepsToProofMaxWhereAPairIsDropped(t *testing.T) {
	list := []struct {
		s, x impl.Term
		end  string
	}{
		{scattered(0, 0, 0, 0, 5), scattered(0, 0, 0, 1, 4), endAll},
		{scattered(0, 0, 0, 1, 4), scattered(0, 0, 0, 0, 5), endAll},
		{scattered(0, 0, 0, 0, 5), scattered(0, 0, 0, 0, 5), endLinks},
		{scattered(0, 0, 0, 1, 4), scattered(0, 0, 0, 1, 4), endAll},
		{scattered(0, 0, 0, 0, 6), scattered(0, 0, 0, 4, 2), endLinks},
		{scattered(0, 0, 0, 0, 7), scattered(4, 0, 1, 1, 1), endAll},
	}
	for _, c := range list {
		x := sorterAnd(c.s, c.x)
		mustRules(t, mustCourse(t, x.eqs, x.rank, c.end), sorterRules)
	}
}

// The sorter has a pair with the rule that is too large, but the rule is found.
func TestCompletionKeepsToProofMaxWhereARuleIsMade(t *testing.T) {
	last := "; g(g(g(g(g(g(f(x0,f(x0,f(x0,f(x0,x0)))))))))) to g(g(g(g(g(f(x0,f(x0,f(x0,f(x0,x0)))))))))"
	list := []struct {
		x          impl.Term
		end, rules string
	}{
		{scattered(1, 0, 0, 2, 3), endLarge, sorterRules + last + " by 39"},
		{scattered(1, 0, 0, 1, 4), endLarge, sorterRules + last + " by 40"},
		{scattered(1, 0, 0, 0, 5), endLinks, sorterRules},
	}
	for _, c := range list {
		for _, x := range []task{sorterAnd(c.x, scattered(0, 0, 0, 0, 5)), sorterAnd(scattered(0, 0, 0, 0, 5), c.x)} {
			mustRules(t, mustCourse(t, x.eqs, x.rank, c.end), c.rules)
		}
	}
}

func TestCompletionKeepsToHalfOfTermVar(t *testing.T) {
	six := "f(a,f(f(g(x0),x1),f(f(g(x2),x3),f(g(x4),x5))))"
	list := []struct{ name, task, end, rules string }{
		{"six variables", six + " = a | fgba", endAll, six + " to a by 1"},
		{"six variables, renamed", "a = f(a,f(f(g(x11),x1),f(f(g(x2),x0),f(g(x6),x5)))) | fgba", endAll, six + " to a by 1"},
		{"six variables, one of them again", "f(a,f(f(g(x0),x1),f(f(g(x2),x3),f(x4,x5)))) = x5 | fgba", endLarge, "f(a,f(f(g(x0),x1),f(f(g(x2),x3),f(x4,x5)))) to x5 by 1"},
		{"seven variables", "f(x6,f(f(g(x0),x1),f(f(g(x2),x3),f(x4,x5)))) = a | fgba", endVars, ""},
		{"seven variables, exchanged", "x6 = f(f(x0,x1),f(f(x2,x3),f(x4,f(x5,x6)))) | fgba", endVars, ""},
		{"eight variables", "f(f(f(x0,x1),f(x2,x3)),f(f(x4,x5),f(x6,x7))) = a | fgba", endVars, ""},
		{"seven variables, behind rules", "f(x6,f(f(g(x0),x1),f(f(g(x2),x3),f(x4,x5)))) = a; b = a; g(a) = a | fgba", endVars, "b to a by 1; g(a) to a by 1"},
		{"seven variables, six in normal form", "f(x6,f(f(x0,x1),f(f(x2,x3),f(g(x4),g(x5))))) = a; f(g(x0),g(x1)) = b | fgba", endLarge, "f(g(x0),g(x1)) to b by 1; f(x0,f(f(x1,x2),f(f(x3,x4),b))) to a by 2"},
		{"seven variables, with equal sides", "f(x6,f(f(x0,x1),f(f(x2,x3),f(x4,x5)))) = f(x6,f(f(x0,x1),f(f(x2,x3),f(x4,x5)))) | fgba", endAll, ""},
		{"seven variables, stuck", "f(x6,f(f(x0,x1),f(f(x2,x3),f(x4,x5)))) = x7 | fgba", endStuck, ""},
	}
	for _, c := range list {
		t.Run(c.name, func(t *testing.T) {
			x := readTask(t, c.task)
			mustRules(t, mustCourse(t, x.eqs, x.rank, c.end), c.rules)
		})
	}
}

func TestCompletionKeepsToProofBig(t *testing.T) {
	five, six := "f(f(x0,x0),f(x0,f(x0,x0)))", "f(f(x0,x0),f(f(x0,x0),f(x0,x0)))"
	list := []struct {
		name, part, leaf string
		height, most     int
		end              string
	}{
		{"five times nine", five, "b", 8, 49, endAll},
		{"five times twelve", five, "b", 11, 64, endAll},
		{"five times thirteen", five, "b", 12, 69, endProof},
		{"six times nine", six, "b", 8, 59, endAll},
		{"six times ten", six, "b", 9, 65, endProof},
		{"five times twelve, with a variable", five, "x3", 11, 64, endLarge},
		{"six times ten, with a variable", six, "x3", 9, 65, endProof},
	}
	for _, c := range list {
		t.Run(c.name, func(t *testing.T) {
			part, x := readTerm(t, c.part), chain(c.height, readTerm(t, c.leaf))
			if size := countParts(applied([]impl.Bind{bind(0, x)}, part)); size != c.most {
				t.Fatalf("the largest term has the size %d", size)
			}
			eqs := []impl.Eq{eq(f(variable(0), variable(0)), variable(0)), eq(f(a(), variable(0)), part), eq(f(a(), x), b())}
			got := mustCourse(t, eqs, rankOf("fgba"), c.end)
			if c.end == endProof {
				mustRules(t, got, "f(x0,x0) to x0 by 1; f(a,x0) to x0 by 5")
			} else if got.most.part != c.most {
				t.Errorf("the largest term that was passed has the size %d", got.most.part)
			}
		})
	}
}

// limitCase is a task that ends in some way, with a number that was reached.
type limitCase struct {
	name, task, end string
	want            int
	number          func(c *course) int
}

func mustEnd(t *testing.T, list []limitCase) {
	t.Helper()
	for _, c := range list {
		t.Run(c.name, func(t *testing.T) {
			x := readTask(t, c.task)
			got := mustCourse(t, x.eqs, x.rank, c.end)
			if c.number(got) != c.want {
				t.Errorf("%d, want %d", c.number(got), c.want)
			}
		})
	}
}

func TestCompletionKeepsToRuleMax(t *testing.T) {
	made := func(c *course) int { return len(c.rules) }
	most := func(c *course) int { return c.most.rules }
	mustEnd(t, []limitCase{
		{"RuleMax rules", "f(g(g(x2)),x2) = a; x0 = g(f(x0,b)) | fgba", endAll, impl.RuleMax, made},
		{"RuleMax rules, two variables", "b = g(b); a = f(f(x2,a),g(x1)); a = g(a) | afbg", endAll, impl.RuleMax, made},
		{"RuleMax rules, then fewer", "f(g(x1),g(g(x2))) = b; b = g(g(b)); b = a | fbag", endAll, impl.RuleMax, most},
		{"one more, which is found as well", "f(f(x1,g(x2)),x1) = b; a = b; a = g(g(x2)) | fgba", endRules, impl.RuleMax + 1, made},
		{"one more, two variables", "f(f(x2,x1),g(x1)) = a; a = g(g(a)); b = g(b) | fbga", endRules, impl.RuleMax + 1, made},
		{"one more, from three small equations", "a = f(g(x0),x0); a = g(b); f(a,a) = g(g(x0)) | gfab", endRules, impl.RuleMax + 1, made},
	})
}

func TestCompletionKeepsToPairsThatWait(t *testing.T) {
	now := func(c *course) int { return len(c.waits) }
	most := func(c *course) int { return c.most.waits }
	mustEnd(t, []limitCase{
		{"as many as may wait", "g(g(x2)) = f(x2,g(b)); g(b) = f(x2,b); x2 = g(f(b,f(g(x1),g(x2)))); a = g(g(f(g(x0),x1))); g(g(a)) = f(b,a) | fagb", endMax, waitsMax, most},
		{"as many as may wait, then too many rules", "f(g(f(b,a)),x0) = g(g(g(x0))); x0 = g(g(f(g(a),g(x0)))); f(g(x1),b) = f(g(a),g(g(x1))); g(g(g(a))) = g(g(a)); f(f(g(x2),b),g(x0)) = f(x0,a) | gbaf", endRules, waitsMax, most},
		{"one more", "g(g(g(x0))) = g(f(b,g(g(x0)))); g(x2) = g(g(f(x2,g(g(g(g(x0))))))); b = f(a,x0) | agbf", endWaits, waitsMax + 1, now},
		{"one more, behind as many as may wait", "g(g(g(f(b,g(x0))))) = x0; g(g(g(x1))) = g(f(x1,a)); a = f(f(g(g(g(a))),b),a) | gbfa", endWaits, waitsMax + 1, now},
	})
}

// How many wait is looked at when a rule was added, before its pairs wait.
func TestMorePairsMayWaitLater(t *testing.T) {
	later := func(c *course) int { return c.most.later }
	mustEnd(t, []limitCase{
		{"then too many rules", "f(g(g(x2)),a) = g(g(g(x2))); g(f(b,g(x2))) = f(g(x2),b) | gfba", endRules, 65, later},
		{"then stuck", "g(f(x2,g(b))) = f(g(x2),g(b)); f(x1,g(x2)) = g(g(f(g(g(x1)),x2))) | agfb", endStuck, 66, later},
	})
}

func TestCompletionKeepsToTheSizeOfPairs(t *testing.T) {
	made := func(c *course) int { return len(c.rules) }
	mustEnd(t, []limitCase{
		{"left side at the limit", "f(x0,g(g(g(g(g(g(x1))))))) = a; f(g(g(g(g(g(g(g(x0))))))),x1) = b | fgba", endAll, 3, made},
		{"left side above the limit", "f(x0,g(g(g(g(g(g(x1))))))) = a; f(g(g(g(g(g(g(g(g(x0)))))))),x1) = b | fgba", endLarge, 2, made},
		{"S at the limit", "g(f(x0,a)) = f(x0,f(x0,f(x0,g(x0)))); f(f(b,b),a) = b | gfba", endAll, 3, made},
		{"S above the limit", "g(f(x0,a)) = f(x0,f(x0,x0)); f(f(f(b,b),b),a) = b | gfba", endLarge, 2, made},
		{"T at the limit", "f(g(x0),x0) = b; g(a) = f(b,f(b,f(b,f(b,f(b,f(b,g(b))))))) | gfab", endAll, 3, made},
		{"T above the limit", "f(g(x0),x0) = b; g(a) = f(b,f(b,f(b,f(b,f(b,f(b,f(b,b))))))) | gfab", endLarge, 2, made},
		{"a rule with itself at the limit", "g(g(g(g(g(g(g(g(x0)))))))) = a | fgba", endAll, 2, made},
		{"a rule with itself above the limit", "g(g(g(g(g(g(g(g(g(x0))))))))) = a | fgba", endLarge, 1, made},
		{"a rule with itself above the limit, more variables", "f(f(f(f(f(x0,x1),x2),x3),x4),x5) = a | fgba", endLarge, 1, made},
	})
}

// The left sides of both examples come to terms that are too large for a proof.
// In the first one they then turn out to have no common instance: that is no
// pair, not one that is too large.
func TestTermsThatCannotBeUnifiedAreNotTooLarge(t *testing.T) {
	list := []struct{ second, end string }{{"b", endAll}, {"a", endLarge}}
	for _, c := range list {
		x := readTask(t, "f(f(g(f(f(f(x0,x0),x0),f(f(x0,x0),x0))),x0),a) = b; f(f(x0,g(g(g(g(g(g(g(g(g(g(g(a)))))))))))),"+c.second+") = b | fgba")
		first, second := x.eqs[0].S.Kids[0], apartFrom(rule(x.eqs[1].S.Kids[0], b())).L
		unifier, ok := unifyBy(first, second)
		if !ok || !slices.ContainsFunc(unifier, func(b impl.Bind) bool { return countParts(b.Term) > impl.ProofBig }) {
			t.Fatalf("%v", unifier)
		}
		mustRules(t, mustCourse(t, x.eqs, x.rank, c.end), rulesText([]impl.Rule{rule(x.eqs[0].S, b(), self(0, 1)), rule(x.eqs[1].S, b(), self(1, 1))}))
	}
}

func TestCompletionKeepsToDoneMax(t *testing.T) {
	taken := func(c *course) int { return c.most.taken }
	waits := func(c *course) int { return len(c.waits) }
	mustEnd(t, []limitCase{
		{"DoneMax pairs", "g(g(g(g(x2)))) = a; b = g(g(f(g(x1),a))) | gfab", endAll, impl.DoneMax, taken},
		{"DoneMax pairs, three variables", "f(f(x2,f(f(b,x0),x1)),b) = a; b = f(b,a) | fabg", endAll, impl.DoneMax, taken},
		{"one still waits", "a = g(a); g(g(g(g(g(g(g(x0))))))) = g(b) | gfab", endMax, 1, waits},
		{"one still waits, behind equal sides", "g(f(g(x1),g(x1))) = b; a = g(g(x1)); b = b | fbga", endMax, 1, waits},
		{"some still wait", "f(a,x0) = x0; f(g(x0),x0) = a; f(f(x0,x1),x2) = f(x0,f(x1,x2)) | gfab", endMax, 12, waits},
	})
}

// whyNot says what of NormOf's conditions fails first.
func whyNot(rules []impl.Rule, x impl.Term) string {
	links := 0
	for range impl.StepsMax {
		next, why, ok, big := stepBy(rules, x)
		links += len(why)
		switch {
		case big:
			return "a term is too large"
		case !ok:
			return "nothing"
		case links > impl.ProofMax:
			return "too many links"
		}
		x = next
	}
	return "too many steps"
}

func TestNormOfFailsInCompletion(t *testing.T) {
	list := []struct{ task, end, why string }{
		{"g(g(x2)) = f(g(x2),f(g(x2),b)) | gbfa", endNormS, "a term is too large"},
		{"g(f(x1,g(f(x2,x2)))) = f(x2,x2) | gafb", endNormT, "a term is too large"},
		{"g(g(f(b,g(g(x1))))) = x1 | fgab", endNormS, "too many links"},
		{"x2 = g(f(a,g(g(g(x2))))) | bagf", endNormT, "too many links"},
	}
	for _, c := range list {
		x := readTask(t, c.task)
		got := mustCourse(t, x.eqs, x.rank, c.end)
		side := got.last.S
		if c.end == endNormT {
			side = got.last.T
		}
		if why := whyNot(got.rules, side); why != c.why {
			t.Errorf("%s: %s", c.task, why)
		}
	}
}

// Where nothing waits any more, a pair that met before need not meet by the
// rules that are left: their proofs may be too long.
func TestAllPairsMustMeetInTheEnd(t *testing.T) {
	list := []struct{ task, rules string }{
		{"f(g(g(g(x0))),a) = a; g(a) = a; g(g(a)) = b | fabg", "a to b by 3; g(b) to b by 7; f(g(g(g(x0))),b) to b by 7; f(b,b) to b by 28"},
		{"a = g(g(b)); f(g(g(g(x0))),a) = g(b); b = g(b) | bafg", "b to a by 3; g(a) to a by 7; f(g(g(g(x0))),a) to a by 11; f(a,a) to a by 32"},
		{"x2 = f(a,g(g(g(x2)))); g(b) = g(g(g(g(a)))); f(g(a),g(a)) = g(g(a)) | gabf", "f(a,g(g(g(x0)))) to x0 by 1; g(a) to f(a,g(b)) by 2; g(f(a,g(b))) to f(f(a,g(b)),f(a,g(b))) by 7; f(a,g(g(b))) to f(f(a,g(b)),f(a,g(b))) by 11; g(f(f(a,g(b)),f(a,g(b)))) to b by 12; f(a,b) to a by 22"},
	}
	for _, c := range list {
		x := readTask(t, c.task)
		got := mustCourse(t, x.eqs, x.rank, endAsk)
		mustRules(t, got, c.rules)
		if len(got.waits) > 0 || impl.AskAll(got.rules) {
			t.Errorf("%s: all pairs meet", c.task)
		}
		if d := impl.DoneOf(x.eqs, x.rank); d.Code != impl.DoneLong || len(d.Rules) != len(got.rules) {
			t.Errorf("%s: %v", c.task, d)
		}
	}
}
