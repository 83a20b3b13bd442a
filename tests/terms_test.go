package tests

import (
	"slices"
	"testing"

	"loop.example/tipstaff/impl"
)

// The terms of the tests are built by hand, not by TermRead, so that a mistake
// in the program cannot hide itself.

func variable(number int) impl.Term {
	return impl.Term{Var: number}
}

func a() impl.Term {
	return impl.Term{Sign: impl.SignA}
}

func b() impl.Term {
	return impl.Term{Sign: impl.SignB}
}

func g(t impl.Term) impl.Term {
	return impl.Term{Sign: impl.SignG, Kids: []impl.Term{t}}
}

func f(s, t impl.Term) impl.Term {
	return impl.Term{Sign: impl.SignF, Kids: []impl.Term{s, t}}
}

// chain is t below a number of g.
func chain(number int, t impl.Term) impl.Term {
	for range number {
		t = g(t)
	}
	return t
}

// comb is a term of f with a number of variables, numbered from 0; its size is
// twice that number less one.
func comb(number int) impl.Term {
	t := variable(0)
	for i := 1; i < number; i++ {
		t = f(t, variable(i))
	}
	return t
}

// termsOfSize lists, by size, all terms of the leaves that are given.
func termsOfSize(most int, leaves []impl.Term) [][]impl.Term {
	bySize := make([][]impl.Term, most+1)
	bySize[1] = leaves
	for size := 2; size <= most; size++ {
		for _, t := range bySize[size-1] {
			bySize[size] = append(bySize[size], g(t))
		}
		for left := 1; left < size-1; left++ {
			for _, s := range bySize[left] {
				for _, t := range bySize[size-1-left] {
					bySize[size] = append(bySize[size], f(s, t))
				}
			}
		}
	}
	return bySize
}

func smallTerms(most int) []impl.Term {
	leaves := []impl.Term{variable(0), variable(11), a(), b()}
	return slices.Concat(termsOfSize(most, leaves)...)
}

// largeTerms are terms of a size at or just below the limit.
func largeTerms() []impl.Term {
	return []impl.Term{
		chain(15, a()),
		chain(14, variable(10)),
		g(comb(8)),
		comb(8),
		f(comb(4), chain(7, b())),
		f(variable(11), chain(3, f(comb(5), variable(1)))),
		f(f(f(variable(9), variable(3)), f(variable(7), variable(3))), f(f(variable(5), a()), g(variable(2)))),
	}
}

func goodTerms() []impl.Term {
	return append(smallTerms(4), largeTerms()...)
}

// doubled has 2 to the power of depth leaves, in little memory.
func doubled(depth int) impl.Term {
	t := a()
	for range depth {
		t = f(t, t)
	}
	return t
}

// endless contains itself.
func endless() impl.Term {
	kids := make([]impl.Term, 1)
	kids[0] = impl.Term{Sign: impl.SignG, Kids: kids}
	return kids[0]
}

// endlessTwice contains itself in both arguments.
func endlessTwice() impl.Term {
	kids := make([]impl.Term, 2)
	kids[0] = impl.Term{Sign: impl.SignF, Kids: kids}
	kids[1] = kids[0]
	return kids[0]
}

type badTerm struct {
	name string
	term impl.Term
}

// badTerms are invalid by themselves; within limits they are also no part of a
// valid term.
func badTerms() []badTerm {
	const least = -int(^uint(0)>>1) - 1
	return []badTerm{
		{"variable below 0", variable(-1)},
		{"variable far below 0", variable(least)},
		{"variable TermVar", variable(impl.TermVar)},
		{"variable far above", variable(-(least + 1))},
		{"variable with an argument", impl.Term{Var: 1, Kids: []impl.Term{a()}}},
		{"sign below 0", impl.Term{Sign: -1}},
		{"sign far below 0", impl.Term{Sign: least}},
		{"sign above the last", impl.Term{Sign: impl.SignF + 1}},
		{"unknown sign with arguments", impl.Term{Sign: impl.SignF + 1, Kids: []impl.Term{a(), b()}}},
		{"a with an argument", impl.Term{Sign: impl.SignA, Kids: []impl.Term{b()}}},
		{"b with two arguments", impl.Term{Sign: impl.SignB, Kids: []impl.Term{b(), a()}}},
		{"g without arguments", impl.Term{Sign: impl.SignG}},
		{"g with two arguments", impl.Term{Sign: impl.SignG, Kids: []impl.Term{a(), b()}}},
		{"f without arguments", impl.Term{Sign: impl.SignF}},
		{"f with one argument", impl.Term{Sign: impl.SignF, Kids: []impl.Term{a()}}},
		{"f with three arguments", impl.Term{Sign: impl.SignF, Kids: []impl.Term{a(), b(), a()}}},
		{"f with very many arguments", impl.Term{Sign: impl.SignF, Kids: make([]impl.Term, 100000)}},
		{"a with Var", impl.Term{Sign: impl.SignA, Var: 1}},
		{"b with Var", impl.Term{Sign: impl.SignB, Var: -1}},
		{"g with Var", impl.Term{Sign: impl.SignG, Var: 2, Kids: []impl.Term{a()}}},
		{"f with Var", impl.Term{Sign: impl.SignF, Var: impl.TermVar, Kids: []impl.Term{a(), b()}}},
		{"bad first argument", f(variable(impl.TermVar), a())},
		{"bad last argument", f(a(), variable(-1))},
		{"bad part far below", chain(10, impl.Term{Sign: impl.SignG})},
		{"bad part at the limit", chain(15, variable(impl.TermVar))},
		{"one g too many", chain(16, a())},
		{"one variable too many", comb(9)},
		{"two more than the limit", g(comb(9))},
		{"far too deep", chain(100000, variable(0))},
		{"far too many leaves", doubled(80)},
		{"endless", endless()},
		{"endless twice", endlessTwice()},
	}
}

func sameTerm(s, t impl.Term) bool {
	if s.Sign != t.Sign || s.Var != t.Var || len(s.Kids) != len(t.Kids) {
		return false
	}
	for i := range s.Kids {
		if !sameTerm(s.Kids[i], t.Kids[i]) {
			return false
		}
	}
	return true
}

func copyTerm(t impl.Term) impl.Term {
	kids := make([]impl.Term, 0, len(t.Kids))
	for _, kid := range t.Kids {
		kids = append(kids, copyTerm(kid))
	}
	t.Kids = kids
	return t
}

func isZero(t impl.Term) bool {
	return t.Sign == 0 && t.Var == 0 && len(t.Kids) == 0
}

func countParts(t impl.Term) int {
	sum := 1
	for _, kid := range t.Kids {
		sum += countParts(kid)
	}
	return sum
}

// addPlaces lists the places below a place, by walking the arguments.
func addPlaces(list [][]int, place []int, t impl.Term) [][]int {
	list = append(list, slices.Clone(place))
	for i, kid := range t.Kids {
		list = addPlaces(list, join(place, []int{i}), kid)
	}
	return list
}

func placesBelow(t impl.Term) [][]int {
	return addPlaces(nil, nil, t)
}

func partAt(t impl.Term, place []int) impl.Term {
	for _, index := range place {
		t = t.Kids[index]
	}
	return t
}

// withPart is t with another part at a place.
func withPart(t impl.Term, place []int, s impl.Term) impl.Term {
	if len(place) == 0 {
		return copyTerm(s)
	}
	t = copyTerm(t)
	t.Kids[place[0]] = withPart(t.Kids[place[0]], place[1:], s)
	return t
}

// varsBelow has the variables of a term, except those below a place.
func varsBelow(t impl.Term, except []int) []int {
	var vars []int
	for _, place := range placesBelow(t) {
		part := partAt(t, place)
		if part.Sign == 0 && (except == nil || !below(place, except)) {
			vars = append(vars, part.Var)
		}
	}
	slices.Sort(vars)
	return slices.Compact(vars)
}

// below says whether a place is another one or below it.
func below(place, top []int) bool {
	return len(place) >= len(top) && slices.Equal(place[:len(top)], top)
}

func disjoint(p, q []int) bool {
	return !below(p, q) && !below(q, p)
}

func join(p, q []int) []int {
	return slices.Concat(p, q)
}

// addMemory notes where the arguments of a term lie, up to the capacity of
// their slices, and fails if one place in memory is noted twice.
func addMemory(t *testing.T, seen map[*impl.Term]bool, x impl.Term) {
	t.Helper()
	all := x.Kids[:cap(x.Kids)]
	for i := range all {
		if seen[&all[i]] {
			t.Fatalf("memory is shared at %v", x)
		}
		seen[&all[i]] = true
	}
	for _, kid := range x.Kids {
		addMemory(t, seen, kid)
	}
}

// mustTerm fails unless a result is there and is the term that is expected.
func mustTerm(t *testing.T, got impl.Term, ok bool, want impl.Term) {
	t.Helper()
	if !ok || !sameTerm(got, want) {
		t.Fatalf("got %v, %v; want %v", got, ok, want)
	}
}

// mustFail fails unless a result is the zero value and false.
func mustFail(t *testing.T, got impl.Term, ok bool) {
	t.Helper()
	if ok || !isZero(got) {
		t.Fatalf("got %v, %v; want no term", got, ok)
	}
}
