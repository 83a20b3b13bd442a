package tests

import (
	"slices"
	"strconv"
	"strings"
	"sync"
	"testing"

	"loop.example/tipstaff/impl"
)

// What may end a completion, each by its own name.
const (
	endAll   = "all"
	endStuck = "stuck"
	endNormS = "S has no normal form"
	endNormT = "T has no normal form"
	endLinks = "too many links"
	endVars  = "too many variables"
	endProof = "the proof does not lead there"
	endRules = "too many rules"
	endWaits = "too many pairs wait"
	endLarge = "a pair is too large"
	endMax   = "something still waits"
	endAsk   = "not all pairs meet"
)

// waitsMax is how many pairs may wait when a rule was added.
const waitsMax = 60

// course is a completion by the words of the document one by one. The pairs wait
// in a list, and the first of the smallest is looked for each time.
type course struct {
	eqs   []impl.Eq
	rank  []int
	rules []impl.Rule
	waits []impl.Pair
	last  impl.Pair
	stuck impl.Eq
	end   string
	log   []string
	most  tally
}

// tally is the greatest numbers that a course came upon, and passed: pairs that
// were taken, links and variables and the largest term in the proof of a rule,
// rules, pairs that waited when a rule was added, and when its pairs were as well.
type tally struct {
	taken, links, vars, part, rules, waits, later int
}

func (c *course) tell(words ...string) {
	c.log = append(c.log, strings.Join(words, " "))
}

// selvesOf binds each variable of an equation to itself.
func selvesOf(e impl.Eq) []impl.Bind {
	var list []impl.Bind
	for _, v := range varsBelow(f(e.S, e.T), nil) {
		list = append(list, bind(v, variable(v)))
	}
	return list
}

// courseOf is for valid equations and rankings.
func courseOf(eqs []impl.Eq, rank []int) *course {
	c := &course{eqs: eqs, rank: rank}
	for i, e := range eqs {
		c.waits = append(c.waits, pair(e.S, e.T, at(i, false, nil, selvesOf(e)...)))
	}
	for c.end == "" && len(c.waits) > 0 && c.most.taken < impl.DoneMax {
		c.most.taken++
		c.last = c.smallest()
		c.take(c.last)
	}
	switch {
	case c.end != "":
	case len(c.waits) > 0:
		c.end = endMax
	case !meetBy(c.rules, pairsOfAll(c.rules)):
		c.end = endAsk
	default:
		c.end = endAll
	}
	return c
}

func pairSize(p impl.Pair) int {
	return countParts(p.S) + countParts(p.T)
}

// smallest takes out the first of the smallest pairs.
func (c *course) smallest() impl.Pair {
	first := 0
	for i, p := range c.waits {
		if pairSize(p) < pairSize(c.waits[first]) {
			first = i
		}
	}
	p := c.waits[first]
	c.waits = slices.Delete(slices.Clone(c.waits), first, first+1)
	return p
}

func (c *course) take(p impl.Pair) {
	c.tell("take", termText(p.S), "=", termText(p.T))
	s, back, okS := normBy(c.rules, p.S)
	x, there, okT := normBy(c.rules, p.T)
	why := slices.Concat(backBy(back), p.Why, there)
	switch {
	case !okS:
		c.end = endNormS
	case !okT:
		c.end = endNormT
	case len(why) > impl.ProofMax:
		c.end = endLinks
	case sameTerm(s, x):
		c.tell("drop")
	default:
		c.most.links = max(c.most.links, len(why))
		c.orient(pair(s, x, why...))
	}
}

func (c *course) orient(p impl.Pair) {
	if moreBy(c.rank, p.T, p.S) {
		c.tell("exchange")
		p = pair(p.T, p.S, backBy(p.Why)...)
	}
	if !moreBy(c.rank, p.S, p.T) {
		c.stuck, c.end = eq(p.S, p.T), endStuck
		return
	}
	vars := firstVars(p.S)
	if len(vars) > impl.TermVar/2 {
		c.end = endVars
		return
	}
	names := plainNames(vars)
	r := rule(applied(names, p.S), applied(names, p.T), underBy(p.Why, nil, names)...)
	part, ok := c.largest(r)
	if !ok {
		c.end = endProof
		return
	}
	if !sameTerm(p.S, r.L) {
		c.tell("rename")
	}
	c.most.vars, c.most.part = max(c.most.vars, len(vars)), max(c.most.part, part)
	c.add(r)
}

// largest is the size of the largest term in the proof of a rule, and whether
// the proof leads from the left to the right side.
func (c *course) largest(r impl.Rule) (int, bool) {
	most, x := countParts(r.L), r.L
	for _, l := range r.Why {
		next, ok := linkBy(c.eqs, x, l)
		if !ok {
			return 0, false
		}
		for _, b := range l.Subst {
			most = max(most, countParts(b.Term))
		}
		most, x = max(most, countParts(next)), next
	}
	return most, sameTerm(x, r.R)
}

// matchesWithin says whether a left side matches something in a term.
func matchesWithin(l, x impl.Term) bool {
	return slices.ContainsFunc(placesBelow(x), func(place []int) bool {
		_, ok := matchBy(l, partAt(x, place))
		return ok
	})
}

func (c *course) add(r impl.Rule) {
	var kept []impl.Rule
	for _, old := range c.rules {
		left, right := matchesWithin(r.L, old.L), matchesWithin(r.L, old.R)
		if !left && !right {
			kept = append(kept, old)
			continue
		}
		c.tell("again", ruleText(old), "left", strconv.FormatBool(left), "right", strconv.FormatBool(right))
		c.waits = append(c.waits, pair(old.L, old.R, old.Why...))
	}
	c.tell("rule", ruleText(r))
	c.rules = append(kept, r)
	switch {
	case len(c.rules) > impl.RuleMax:
		c.end = endRules
	case len(c.waits) > waitsMax:
		c.end = endWaits
	default:
		c.most.rules, c.most.waits = max(c.most.rules, len(c.rules)), max(c.most.waits, len(c.waits))
		c.overlap(r)
	}
}

func (c *course) overlap(last impl.Rule) {
	tooLarge := 0
	for i, r := range c.rules {
		list, large := pairsBy(r, last)
		c.waits, tooLarge = append(c.waits, list...), tooLarge+large
		if i < len(c.rules)-1 {
			list, large = pairsBy(last, r)
			c.waits, tooLarge = append(c.waits, list...), tooLarge+large
		}
	}
	c.most.later = max(c.most.later, len(c.waits))
	if tooLarge > 0 {
		c.end = endLarge
	}
}

// done is what DoneOf is to return.
func (c *course) done() impl.Done {
	codes := map[string]int{endAll: impl.DoneAll, endStuck: impl.DoneStuck}
	code, known := codes[c.end]
	if !known {
		code = impl.DoneLong
	}
	return impl.Done{Code: code, Rules: c.rules, Stuck: c.stuck}
}

// pairsOfAll are those of all rules, two at a time, by the document's words.
func pairsOfAll(rules []impl.Rule) []impl.Pair {
	var list []impl.Pair
	eachTwo(rules, func(r, q impl.Rule) {
		pairs, _ := pairsBy(r, q)
		list = append(list, pairs...)
	})
	return list
}

// termText writes also terms that are not valid.
func termText(x impl.Term) string {
	if x.Sign == 0 {
		return "x" + strconv.Itoa(x.Var)
	}
	text := "?abgf"[x.Sign : x.Sign+1]
	if len(x.Kids) == 0 {
		return text
	}
	var kids []string
	for _, kid := range x.Kids {
		kids = append(kids, termText(kid))
	}
	return text + "(" + strings.Join(kids, ",") + ")"
}

func ruleText(r impl.Rule) string {
	return termText(r.L) + " to " + termText(r.R) + " by " + strconv.Itoa(len(r.Why))
}

// rulesText writes rules with the lengths of their proofs.
func rulesText(rules []impl.Rule) string {
	var texts []string
	for _, r := range rules {
		texts = append(texts, ruleText(r))
	}
	return strings.Join(texts, "; ")
}

// readEqs is for tables: "f(x0,a) = x0; g(a) = b".
func readEqs(t *testing.T, text string) []impl.Eq {
	t.Helper()
	var eqs []impl.Eq
	for part := range strings.SplitSeq(text, "; ") {
		if part == "" {
			continue
		}
		s, x, found := strings.Cut(part, " = ")
		if !found {
			t.Fatalf("%q is no text of an equation", part)
		}
		eqs = append(eqs, eq(readTerm(t, s), readTerm(t, x)))
	}
	return eqs
}

func sameDone(d, o impl.Done) bool {
	return d.Code == o.Code && sameRules(d.Rules, o.Rules) && sameTerm(d.Stuck.S, o.Stuck.S) && sameTerm(d.Stuck.T, o.Stuck.T)
}

func mustDone(t *testing.T, eqs []impl.Eq, rank []int, want impl.Done) {
	t.Helper()
	if got := impl.DoneOf(eqs, rank); !sameDone(got, want) {
		t.Fatalf("%s by %v: got %v, want %v", eqsText(eqs), rank, got, want)
	}
}

// mustCourse fails unless a completion has the end that is told, and DoneOf does
// the same.
func mustCourse(t *testing.T, eqs []impl.Eq, rank []int, end string) *course {
	t.Helper()
	c := courseOf(eqs, rank)
	if c.end != end {
		t.Fatalf("%s by %v: %s, want %s", eqsText(eqs), rank, c.end, end)
	}
	mustDone(t, eqs, rank, c.done())
	return c
}

// eqsText is what readEqs reads.
func eqsText(eqs []impl.Eq) string {
	var texts []string
	for _, e := range eqs {
		texts = append(texts, termText(e.S)+" = "+termText(e.T))
	}
	return strings.Join(texts, "; ")
}

// task is equations and a ranking.
type task struct {
	eqs  []impl.Eq
	rank []int
}

// readTask is for tables: "f(x0,a) = x0; g(a) = b | fgba".
func readTask(t *testing.T, text string) task {
	t.Helper()
	eqs, rank, found := strings.Cut(text, " | ")
	if !found || !isRanking(rankOf(rank)) {
		t.Fatalf("%q is no text of a task", text)
	}
	return task{readEqs(t, eqs), rankOf(rank)}
}

// thrownTerm is not larger than most.
func thrownTerm(d *dice, most int) impl.Term {
	switch kind := d.below(3); {
	case most > 2 && kind == 0:
		left := 1 + d.below(most-2)
		return f(thrownTerm(d, left), thrownTerm(d, most-1-left))
	case most > 1 && kind == 1:
		return g(thrownTerm(d, most-1))
	}
	return []impl.Term{a(), b(), variable(0), variable(0), variable(1), variable(7)}[d.below(6)]
}

// thrownEq can be oriented in most cases.
func thrownEq(d *dice, rank []int, most int) impl.Eq {
	for {
		e := eq(thrownTerm(d, most), thrownTerm(d, most))
		if d.below(50) == 0 || moreBy(rank, e.S, e.T) || moreBy(rank, e.T, e.S) {
			return e
		}
	}
}

// thrownTasks end in many ways.
var thrownTasks = sync.OnceValue(func() []task {
	var list []task
	d := dice(3)
	ranks := rankings()
	for range 1500 {
		x := task{rank: ranks[d.below(len(ranks))]}
		most := 3 + d.below(6)
		for range 1 + d.below(4) {
			x.eqs = append(x.eqs, thrownEq(&d, x.rank, most))
		}
		list = append(list, x)
	}
	return list
})

// result is a task and what DoneOf makes of it.
type result struct {
	task
	done impl.Done
}

// results are those of thrown tasks and of some others.
var results = sync.OnceValue(func() []result {
	var list []result
	add := func(eqs []impl.Eq, rank []int) {
		list = append(list, result{task{eqs, rank}, impl.DoneOf(eqs, rank)})
	}
	for _, s := range goodSystems() {
		for _, rank := range append(someRankings(), s.rank) {
			add(s.eqs, rank)
		}
	}
	for _, x := range thrownTasks() {
		add(x.eqs, x.rank)
	}
	return list
})

// eachResult calls do with those results that have one of some codes, and fails
// if there are hardly any with rules.
func eachResult(t *testing.T, do func(r result), codes ...int) {
	t.Helper()
	count := 0
	for _, r := range results() {
		if !slices.Contains(codes, r.done.Code) {
			continue
		}
		if len(r.done.Rules) > 0 {
			count++
		}
		do(r)
	}
	if count < 50 {
		t.Errorf("only %d results have rules", count)
	}
}

// everyResult is eachResult for all codes.
func everyResult(t *testing.T, do func(r result)) {
	t.Helper()
	for _, code := range []int{impl.DoneAll, impl.DoneStuck, impl.DoneLong} {
		eachResult(t, do, code)
	}
}
