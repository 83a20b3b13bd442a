package tests

import (
	"runtime"
	"slices"
	"sync"
	"testing"

	"loop.example/tipstaff/impl"
)

const (
	unitTask  = "f(x0,a) = x0; f(a,x0) = g(x0) | fgba"
	stuckTask = "f(x0,x1) = f(x1,x0); g(a) = a; g(g(b)) = g(a) | fgba"
	longTask  = "g(g(g(g(g(g(g(g(g(x0))))))))) = a | fgba"
	growTask  = "g(x0) = f(x0,x0) | gfba"
	farTask   = "g(b) = a; f(a,x1) = b; f(x0,a) = a | abgf"
	manyTask  = "f(f(x1,g(x2)),x1) = b; a = b; a = g(g(x2)) | fgba"
)

func TestSomeQuestions(t *testing.T) {
	list := []struct {
		name, task     string
		question       string
		answer, number int
	}{
		{"no equations, one variable", " | fgba", "x3 = x3", impl.AskYes, 0},
		{"no equations, two variables", " | fgba", "x0 = x1", impl.AskNo, 0},
		{"no equations, a and b", " | fgba", "a = b", impl.AskNo, 0},
		{"no equations, a larger term", " | abgf", "f(g(x1),f(a,x0)) = f(g(x1),f(a,x0))", impl.AskYes, 0},
		{"equal terms in normal form", unitTask, "f(x0,x1) = f(x0,x1)", impl.AskYes, 0},
		{"equal terms, not in normal form", unitTask, "f(b,a) = f(b,a)", impl.AskYes, 2},
		{"one link", unitTask, "f(b,a) = b", impl.AskYes, 1},
		{"one link back", unitTask, "b = f(b,a)", impl.AskYes, 1},
		{"one link below", unitTask, "g(f(f(x7,a),b)) = g(f(x7,b))", impl.AskYes, 1},
		{"one link on each side", unitTask, "f(f(b,a),b) = f(b,f(b,a))", impl.AskYes, 2},
		{"a rule that was found", unitTask, "g(g(a)) = a", impl.AskYes, 4},
		{"both by a rule that was found", unitTask, "g(g(a)) = f(a,g(a))", impl.AskYes, 9},
		{"an equation with its sides exchanged", unitTask, "g(x0) = f(a,x0)", impl.AskYes, 1},
		{"another variable", unitTask, "f(x0,a) = x1", impl.AskNo, 0},
		{"differ after many steps", unitTask, "f(f(f(x0,a),a),g(a)) = f(f(f(x0,a),a),g(b))", impl.AskNo, 0},
		{"another number of g", unitTask, "g(b) = b", impl.AskNo, 0},
		{"many links", farTask, "g(g(g(g(b)))) = g(g(g(g(b))))", impl.AskYes, 40},
		{"links of different rules", farTask, "g(g(a)) = f(x3,b)", impl.AskYes, 29},
		{"variables go", farTask, "f(b,x3) = f(x11,b)", impl.AskYes, 20},
		{"stuck, equal terms", stuckTask, "f(x0,x1) = f(x0,x1)", impl.AskYes, 0},
		{"stuck, equal normal forms", stuckTask, "g(g(g(a))) = a", impl.AskYes, 3},
		{"stuck, equal normal forms on both sides", stuckTask, "f(g(a),g(b)) = f(g(g(a)),g(b))", impl.AskYes, 3},
		{"stuck, a rule that was found", stuckTask, "f(x5,g(g(b))) = f(x5,a)", impl.AskYes, 2},
		{"stuck, the equation that is stuck", stuckTask, "f(a,b) = f(b,a)", impl.AskNot, 0},
		{"stuck, both sides of it", stuckTask, "f(x0,x1) = f(x1,x0)", impl.AskNot, 0},
		{"stuck, what differs", stuckTask, "a = b", impl.AskNot, 0},
		{"two variables are stuck", "x0 = x1 | fgba", "x0 = x1", impl.AskNot, 0},
		{"too long, equal terms", longTask, "f(b,a) = f(b,a)", impl.AskYes, 0},
		{"too long, equal normal forms", longTask, "f(g(g(g(g(g(g(g(g(g(b))))))))),x1) = f(a,x1)", impl.AskYes, 1},
		{"too long, what differs", longTask, "a = b", impl.AskNot, 0},
	}
	for _, c := range list {
		t.Run(c.name, func(t *testing.T) {
			y := readTask(t, c.task)
			s, x := readQuestion(t, c.question)
			if why := mustAnswer(t, y, s, x, c.answer); len(why) != c.number {
				t.Errorf("%d links: %v", len(why), why)
			}
		})
	}
}

// The tasks of these tests end as their names tell.
func TestTasksOfQuestions(t *testing.T) {
	list := []struct{ task, end string }{
		{unitTask, endAll}, {stuckTask, endStuck}, {longTask, endLarge}, {growTask, endAll}, {farTask, endAll}, {manyTask, endRules},
	}
	for _, c := range list {
		y := readTask(t, c.task)
		mustCourse(t, y.eqs, y.rank, c.end)
	}
}

func TestProofsOfSomeAnswers(t *testing.T) {
	x3 := variable(3)
	list := []struct {
		name, task, question string
		want                 []impl.Link
	}{
		{"the first term's steps, in order", "f(x0,a) = x0; g(b) = b | fgba", "f(g(b),a) = b", []impl.Link{
			at(0, false, nil, bind(0, g(b()))),
			at(1, false, nil),
		}},
		{"the second term's steps, from the last to the first", "f(x0,a) = x0; g(b) = b | fgba", "b = f(g(b),a)", []impl.Link{
			at(1, true, nil),
			at(0, true, nil, bind(0, g(b()))),
		}},
		{"the first term's before the second term's", "f(x0,a) = x0; g(b) = b | fgba", "f(f(x3,a),b) = f(x3,g(b))", []impl.Link{
			at(0, false, []int{0}, bind(0, x3)),
			at(1, true, []int{1}),
		}},
		{"proofs of rules that were found", unitTask, "g(g(a)) = a", []impl.Link{
			at(1, true, []int{0}, bind(0, a())),
			at(0, false, []int{0}, bind(0, a())),
			at(1, true, nil, bind(0, a())),
			at(0, false, nil, bind(0, a())),
		}},
	}
	for _, c := range list {
		t.Run(c.name, func(t *testing.T) {
			y := readTask(t, c.task)
			s, x := readQuestion(t, c.question)
			if why := mustAnswer(t, y, s, x, impl.AskYes); !sameLinks(why, c.want) {
				t.Errorf("got %v, want %v", why, c.want)
			}
		})
	}
}

func TestQuestionsOfAllKinds(t *testing.T) {
	counts := map[[2]int]int{}
	for i, q := range answers() {
		if i%3 > 0 {
			continue
		}
		code, why := answerBy(q.eqs, q.done, q.s, q.x)
		if code != q.code || !sameLinks(why, q.why) {
			t.Fatalf("%v: got %s by %v, want %s by %v", q.question, answerText(q.code), q.why, answerText(code), why)
		}
		counts[[2]int{q.done.Code, code}]++
	}
	for _, done := range anyCode {
		for _, code := range []int{impl.AskYes, impl.AskNot} {
			if counts[[2]int{done, code}] == 0 {
				t.Errorf("%d is never %s", done, answerText(code))
			}
		}
	}
	if counts[[2]int{impl.DoneAll, impl.AskNo}] < 300 {
		t.Errorf("%v", counts)
	}
}

// mustNotKnow asks about two terms of which the first has no normal form, in
// both orders, and about the first and itself.
func mustNotKnow(t *testing.T, y task, s, x impl.Term) {
	t.Helper()
	mustAnswer(t, y, s, x, impl.AskNot)
	mustAnswer(t, y, x, s, impl.AskNot)
	mustAnswer(t, y, s, s, impl.AskNot)
}

func TestNothingIsKnownWithoutANormalForm(t *testing.T) {
	sort := sorter(1, 1)
	sorting := task{sort.eqs, sort.rank}
	list := []struct {
		name, why  string
		y          task
		s, x, good impl.Term
	}{
		{"a term is too large", "a term is too large", readTask(t, growTask), chain(5, a()), b(), chain(3, a())},
		{"a term of its own size is too large", "a term is too large", readTask(t, growTask), chain(15, a()), chain(2, b()), g(g(a()))},
		{"too many steps", "too many steps", sorting, word(4, 7, 2), b(), word(4, 7, 1)},
		{"too many steps, the same normal form", "too many steps", sorting, word(4, 7, 2), sorted(4, 7, 2), word(3, 4, 2)},
		{"too many links", "too many links", readTask(t, farTask), chain(9, b()), f(b(), variable(0)), chain(8, b())},
	}
	for _, c := range list {
		t.Run(c.name, func(t *testing.T) {
			d := impl.DoneOf(c.y.eqs, c.y.rank)
			if why := whyNot(d.Rules, c.s); d.Code != impl.DoneAll || why != c.why {
				t.Fatalf("%s by %s", why, rulesText(d.Rules))
			}
			for _, x := range []impl.Term{c.x, c.good} {
				if _, _, ok := impl.NormOf(d.Rules, x); !ok {
					t.Fatalf("%s has no normal form", termText(x))
				}
				mustNotKnow(t, c.y, c.s, x)
			}
			mustNotKnow(t, c.y, c.s, chain(11, c.s))
			mustNotKnow(t, c.y, g(c.s), c.x)
		})
	}
}

// DoneOf returns more rules than NormOf takes.
func TestNothingIsKnownByTooManyRules(t *testing.T) {
	y := readTask(t, manyTask)
	if d := impl.DoneOf(y.eqs, y.rank); len(d.Rules) <= impl.RuleMax {
		t.Fatalf("only %s", rulesText(d.Rules))
	}
	for _, s := range []impl.Term{variable(0), a(), g(b()), f(variable(1), a())} {
		for _, x := range []impl.Term{variable(0), a(), b(), f(variable(1), a())} {
			mustNotKnow(t, y, s, x)
		}
	}
}

// With so many links in both parts the normal form is the same.
func TestAnswersKeepToProofMax(t *testing.T) {
	y := readTask(t, farTask)
	for first := range 9 {
		for second := range 9 {
			want := impl.AskYes
			if 5*(first+second) > impl.ProofMax {
				want = impl.AskNot
			}
			if why := mustAnswer(t, y, chain(first, b()), chain(second, b()), want); want == impl.AskYes && len(why) != 5*(first+second) {
				t.Errorf("%d and %d: %d links", first, second, len(why))
			}
		}
	}
	sort := sorter(1, 1)
	sorting := task{sort.eqs, sort.rank}
	mustAnswer(t, sorting, scattered(0, 0, 0, 0, 5), scattered(0, 0, 0, 1, 4), impl.AskYes)
	mustAnswer(t, sorting, scattered(0, 0, 0, 0, 6), scattered(2, 0, 0, 0, 4), impl.AskYes)
	mustAnswer(t, sorting, scattered(0, 0, 0, 0, 6), scattered(1, 1, 0, 0, 4), impl.AskNot)
	mustAnswer(t, sorting, scattered(1, 1, 0, 0, 4), scattered(0, 0, 0, 0, 6), impl.AskNot)
}

func TestAnswersKeepToProofBig(t *testing.T) {
	x0 := variable(0)
	part := f(f(x0, x0), f(x0, f(x0, x0)))
	y := task{[]impl.Eq{eq(f(x0, x0), x0), eq(f(a(), x0), part)}, rankOf("fgba")}
	mustCourse(t, y.eqs, y.rank, endAll)
	list := []struct{ height, most, want int }{{10, 59, impl.AskYes}, {11, 64, impl.AskYes}, {12, 69, impl.AskNot}, {13, 74, impl.AskNot}}
	for _, c := range list {
		x := chain(c.height, b())
		if size := countParts(applied([]impl.Bind{bind(0, x)}, part)); size != c.most {
			t.Fatalf("the largest term has the size %d", size)
		}
		mustAnswer(t, y, f(a(), x), x, c.want)
		mustAnswer(t, y, x, f(a(), x), c.want)
		mustAnswer(t, y, x, x, impl.AskYes)
	}
}

func TestNothingIsKnownOfBadTerms(t *testing.T) {
	tasks := []task{{nil, rankOf("fgba")}, readTask(t, unitTask), readTask(t, stuckTask), {nil, nil}}
	for _, bad := range badTerms() {
		t.Run(bad.name, func(t *testing.T) {
			for _, y := range tasks {
				for _, x := range []impl.Term{variable(0), a(), bad.term} {
					mustNotKnow(t, y, bad.term, x)
					mustNotKnow(t, y, f(x, bad.term), x)
				}
			}
		})
	}
}

func TestNothingIsKnownByBadEquations(t *testing.T) {
	for _, bad := range badTerms() {
		t.Run(bad.name, func(t *testing.T) {
			for _, e := range []impl.Eq{eq(bad.term, a()), eq(a(), bad.term), eq(bad.term, bad.term)} {
				for _, eqs := range [][]impl.Eq{{e}, {eq(b(), a()), e}, {e, eq(b(), a())}} {
					mustNotKnow(t, task{eqs, rankOf("fgba")}, b(), a())
					mustNotKnow(t, task{eqs, nil}, b(), bad.term)
				}
			}
		})
	}
	for _, number := range []int{impl.EqMax + 1, 100000} {
		eqs := slices.Repeat([]impl.Eq{eq(b(), a())}, number)
		mustNotKnow(t, task{eqs, rankOf("fgba")}, b(), a())
		mustAnswer(t, task{eqs[:impl.EqMax], rankOf("fgba")}, b(), a(), impl.AskYes)
	}
}

func TestNothingIsKnownByBadRankings(t *testing.T) {
	for _, bad := range badRanks() {
		t.Run(bad.name, func(t *testing.T) {
			for _, eqs := range [][]impl.Eq{{eq(b(), a())}, {eq(variable(0), variable(1))}, proofEqs()} {
				for _, x := range []impl.Term{a(), b(), variable(1), f(b(), a())} {
					mustNotKnow(t, task{eqs, bad.rank}, x, b())
				}
			}
		})
	}
}

func TestNilAndEmptyArgumentsAreTheSameInQuestions(t *testing.T) {
	empty := impl.Term{Sign: impl.SignB, Kids: []impl.Term{}}
	for _, eqs := range [][]impl.Eq{nil, {}} {
		mustAnswer(t, task{eqs, rankOf("fgba")}, b(), empty, impl.AskYes)
		mustAnswer(t, task{eqs, rankOf("fgba")}, g(empty), g(a()), impl.AskNo)
		mustAnswer(t, task{eqs, []int{}}, empty, empty, impl.AskNot)
	}
	mustAnswer(t, task{[]impl.Eq{eq(empty, a())}, rankOf("fgba")}, g(a()), g(empty), impl.AskYes)
}

func TestQuestionArgumentsStayUnchanged(t *testing.T) {
	for i, q := range answers() {
		if i%10 > 0 {
			continue
		}
		eqs, rank, s, x := copyEqs(q.eqs), slices.Clone(q.rank), copyTerm(q.s), copyTerm(q.x)
		impl.AskSame(q.eqs, q.rank, q.s, q.x)
		if !sameEqs(q.eqs, eqs) || !slices.Equal(q.rank, rank) || !sameTerm(q.s, s) || !sameTerm(q.x, x) {
			t.Fatalf("%v by %v: %v and %v became %v by %v: %v and %v", eqs, rank, s, x, q.eqs, q.rank, q.s, q.x)
		}
	}
	eqs := []impl.Eq{eq(g(g(b())), b()), eq(a(), g(a())), eq(f(variable(0), variable(1)), variable(0)), eq(a(), b())}
	rank, old := append(rankOf("fgba"), 7, 8), copyEqs(eqs)
	impl.AskSame(eqs[:2], rank[:4], g(g(a())), a())
	if !sameEqs(eqs, old) || !slices.Equal(rank, append(rankOf("fgba"), 7, 8)) {
		t.Errorf("%v, %v", eqs, rank)
	}
}

func TestAnswersShareNoMemory(t *testing.T) {
	for i, q := range answers() {
		if i%10 > 0 || q.code != impl.AskYes {
			continue
		}
		eqs, s, x, memory := copyEqs(q.eqs), copyTerm(q.s), copyTerm(q.x), newProofMemory()
		memory.addEqs(t, eqs)
		addMemory(t, memory.terms, s)
		addMemory(t, memory.terms, x)
		for range 2 {
			_, why := impl.AskSame(eqs, q.rank, s, x)
			memory.addLinks(t, why)
		}
	}
}

// Both terms are the same memory, and so are parts of the equations.
func TestSharedPartsAreNotSharedInAnswers(t *testing.T) {
	part := f(variable(3), f(variable(5), variable(3)))
	same := eq(g(f(part, part)), part)
	list := []struct {
		eqs []impl.Eq
		s   impl.Term
	}{{[]impl.Eq{same, same}, same.S}, {[]impl.Eq{eq(f(part, g(variable(7))), part)}, f(part, g(part))}}
	for _, c := range list {
		memory := newProofMemory()
		for range 2 {
			why := mustAnswer(t, task{c.eqs, rankOf("gfab")}, c.s, c.s, impl.AskYes)
			if len(why) == 0 {
				t.Fatalf("%s: no link", termText(c.s))
			}
			memory.addLinks(t, why)
		}
	}
}

// What a caller does to a result does not reach the next one, and other calls
// in between do not either.
func TestQuestionsKeepNothingBetweenCalls(t *testing.T) {
	y := readTask(t, unitTask)
	s, x := readQuestion(t, "g(g(a)) = f(a,g(a))")
	first := mustAnswer(t, y, s, x, impl.AskYes)
	want := copyLinks(first)
	for i := range first {
		first[i].Eq, first[i].Place, first[i].Subst = 5, nil, nil
	}
	for i, q := range answers() {
		if i%100 == 0 {
			impl.AskSame(q.eqs, q.rank, q.s, q.x)
			if why := mustAnswer(t, y, s, x, impl.AskYes); !sameLinks(why, want) {
				t.Fatalf("got %v, want %v", why, want)
			}
		}
	}
}

// mustAskAgain fails unless the answer to a question is the same again.
func mustAskAgain(t *testing.T, q asked) {
	t.Helper()
	if code, why := impl.AskSame(q.eqs, q.rank, q.s, q.x); code != q.code || !sameLinks(why, q.why) {
		t.Errorf("%v: %s by %v, then %s by %v", q.question, answerText(q.code), q.why, answerText(code), why)
	}
}

func TestAnswersDoNotDependOnHowGoroutinesRun(t *testing.T) {
	all := answers()
	defer runtime.GOMAXPROCS(runtime.GOMAXPROCS(0))
	for _, number := range []int{1, 2, 8} {
		runtime.GOMAXPROCS(number)
		for i := number; i < len(all); i += 60 {
			for range 5 {
				mustAskAgain(t, all[i])
			}
		}
	}
}

func TestQuestionsMayBeAskedAtTheSameTime(t *testing.T) {
	all := answers()
	var group sync.WaitGroup
	for range 8 {
		group.Go(func() {
			for i := 0; i < len(all); i += 80 {
				mustAskAgain(t, all[i])
			}
		})
	}
	group.Wait()
}

// A goroutine that is still there a while after a call will never end.
func TestGoroutinesEndWithTheCall(t *testing.T) {
	before := runtime.NumGoroutine()
	for i, q := range answers() {
		if i%50 == 0 {
			impl.AskSame(q.eqs, q.rank, q.s, q.x)
			impl.AskSame(q.eqs, q.rank, endless(), q.x)
		}
	}
	for range 1000 {
		if runtime.NumGoroutine() <= before {
			return
		}
		runtime.Gosched()
	}
	t.Errorf("%d goroutines before, %d after", before, runtime.NumGoroutine())
}
