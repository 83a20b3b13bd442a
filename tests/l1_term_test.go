package tests

import (
	"slices"
	"strconv"
	"strings"
	"testing"

	"loop.example/tipstaff/impl"
)

type writtenTerm struct {
	text string
	term impl.Term
}

// writtenTerms are texts beside the terms they stand for.
func writtenTerms() []writtenTerm {
	list := []writtenTerm{
		{"a", a()},
		{"b", b()},
		{"g(a)", g(a())},
		{"g(x0)", g(variable(0))},
		{"g(g(b))", g(g(b()))},
		{"f(a,b)", f(a(), b())},
		{"f(b,a)", f(b(), a())},
		{"f(x11,x10)", f(variable(11), variable(10))},
		{"f(g(x1),f(a,x0))", f(g(variable(1)), f(a(), variable(0)))},
		{"f(f(x0,x0),g(x0))", f(f(variable(0), variable(0)), g(variable(0)))},
		{"g(f(f(f(f(f(f(f(x0,x1),x2),x3),x4),x5),x6),x7))", g(comb(8))},
		{strings.Repeat("g(", 15) + "a" + strings.Repeat(")", 15), chain(15, a())},
		{strings.Repeat("g(", 15) + "x11" + strings.Repeat(")", 15), chain(15, variable(11))},
	}
	for i := range impl.TermVar {
		list = append(list, writtenTerm{"x" + strconv.Itoa(i), variable(i)})
	}
	return list
}

func TestTermsAndTheirTexts(t *testing.T) {
	for _, w := range writtenTerms() {
		if got := impl.TermText(w.term); got != w.text {
			t.Errorf("text of %v: got %q, want %q", w.term, got, w.text)
		}
		got, ok := impl.TermRead(w.text)
		mustTerm(t, got, ok, w.term)
	}
}

func TestGoodTermsAreOk(t *testing.T) {
	for _, x := range append(goodTerms(), variable(0), variable(impl.TermVar-1)) {
		if !impl.TermOk(x) {
			t.Errorf("%v is valid", x)
		}
	}
}

func TestNilAndEmptyArgumentsAreTheSame(t *testing.T) {
	empty := []impl.Term{}
	list := []writtenTerm{
		{"a", impl.Term{Sign: impl.SignA, Kids: empty}},
		{"x3", impl.Term{Var: 3, Kids: empty}},
		{"g(b)", g(impl.Term{Sign: impl.SignB, Kids: empty})},
		{"a", impl.Term{Sign: impl.SignA, Kids: make([]impl.Term, 0, 4)}},
	}
	for _, w := range list {
		if !impl.TermOk(w.term) || impl.TermText(w.term) != w.text {
			t.Errorf("%v is %s", w.term, w.text)
		}
	}
	got, ok := impl.TermAt(a(), []int{})
	mustTerm(t, got, ok, a())
	got, ok = impl.TermPut(a(), nil, b())
	mustTerm(t, got, ok, b())
}

func TestBadTermsAreRefused(t *testing.T) {
	for _, bad := range badTerms() {
		t.Run(bad.name, func(t *testing.T) {
			if impl.TermOk(bad.term) {
				t.Error("TermOk")
			}
			if size := impl.TermSize(bad.term); size != -1 {
				t.Errorf("TermSize: %d", size)
			}
			if vars := impl.TermVars(bad.term); len(vars) != 0 {
				t.Errorf("TermVars: %v", vars)
			}
			if places := impl.TermPlaces(bad.term); len(places) != 0 {
				t.Errorf("TermPlaces: %v", places)
			}
			if text := impl.TermText(bad.term); text != "" {
				t.Errorf("TermText: %q", text)
			}
			for _, place := range [][]int{nil, {0}, {0, 0}, {1}, {-1}} {
				got, ok := impl.TermAt(bad.term, place)
				mustFail(t, got, ok)
				got, ok = impl.TermPut(bad.term, place, a())
				mustFail(t, got, ok)
			}
			for _, place := range placesBelow(f(a(), g(b()))) {
				got, ok := impl.TermPut(f(a(), g(b())), place, bad.term)
				mustFail(t, got, ok)
			}
		})
	}
}

func TestPutDoesNotCutABadPartAway(t *testing.T) {
	got, ok := impl.TermPut(f(a(), variable(impl.TermVar)), []int{1}, b())
	mustFail(t, got, ok)
	got, ok = impl.TermPut(chain(16, a()), []int{0}, a())
	mustFail(t, got, ok)
}

func TestMissingPlacesAreRefused(t *testing.T) {
	const most = int(^uint(0) >> 1)
	for _, x := range goodTerms() {
		for _, place := range placesBelow(x) {
			kids := len(partAt(x, place).Kids)
			for _, index := range []int{-most - 1, -1, kids, kids + 1, most} {
				for _, more := range [][]int{nil, {0}, {-1}, {0, 0, 0}} {
					wrong := slices.Concat(place, []int{index}, more)
					got, ok := impl.TermAt(x, wrong)
					mustFail(t, got, ok)
					got, ok = impl.TermPut(x, wrong, a())
					mustFail(t, got, ok)
				}
			}
		}
	}
}

func TestPlacesDeeperThanTheTermAreRefused(t *testing.T) {
	x := chain(15, a())
	for _, depth := range []int{16, 17, 1000, 1000000} {
		place := make([]int, depth)
		got, ok := impl.TermAt(x, place)
		mustFail(t, got, ok)
		got, ok = impl.TermPut(x, place, b())
		mustFail(t, got, ok)
	}
}

func TestPutKeepsToTheLargestSize(t *testing.T) {
	x := chain(10, f(a(), variable(2)))
	got, ok := impl.TermPut(x, placeOfDepth(10, 1), chain(3, b()))
	mustTerm(t, got, ok, chain(10, f(a(), chain(3, b()))))
	got, ok = impl.TermPut(x, placeOfDepth(10, 1), chain(4, b()))
	mustFail(t, got, ok)
	got, ok = impl.TermPut(chain(15, a()), placeOfDepth(15), chain(15, a()))
	mustFail(t, got, ok)
	got, ok = impl.TermPut(chain(15, a()), placeOfDepth(15), g(a()))
	mustFail(t, got, ok)
	got, ok = impl.TermPut(chain(15, a()), nil, comb(8))
	mustTerm(t, got, ok, comb(8))
}

// placeOfDepth is the first argument a number of times, followed by others.
func placeOfDepth(depth int, more ...int) []int {
	return append(make([]int, depth), more...)
}

func wrongTexts() []string {
	return []string{
		"", " ", "x", "y0", "c", "A", "0", "-", ",", "(", ")", "()",
		"x12", "x13", "x20", "x99", "x100", "x00", "x01", "x011", "x-1", "x-0", "x+1", "x 1", "xa", "x1a", "x0x", "x1.0", "x1_1", "x0x1",
		"x" + strings.Repeat("0", 1000), "x" + strings.Repeat("0", 1000) + "1", "x" + strings.Repeat("1", 100000), "x18446744073709551617", "x4294967297",
		"x\u0661", "\uff580", "a\x00", "\x00a", "\xff", "a\n", "\na", "a\r\n",
		" a", "a ", "a b", "aa", "ab", "a()", "a(b)", "b()", "b(a)", "x1()", "x1(a)", "(a)",
		"g", "g(", "g()", "g(a", "g(a,b)", "g(a))", "g(a)b", "g a", "g[a]", "g(a) ", "g( a)", "g(a )", "g (a)", "ga", "gx0", "gg(a)", "g((a))", "g(a,)", "g(,a)",
		"f", "f(", "f()", "f(a", "f(a)", "f(a,", "f(a,b", "f(a,b))", "f(a,b,a)", "f(,)", "f(a,)", "f(,b)", "f(a b)", "f(a, b)", "f(a ,b)", "f(a;b)", "f(a,,b)", "f(ab)", "f(a,b)a", "f(a,b),", "f(x0,x12)", "f(x01,x1)",
		"f(a,b)f(a,b)", "F(a,b)", "G(a)", "h(a)",
		strings.Repeat("g(", 16) + "a" + strings.Repeat(")", 16),
		strings.Repeat("g(", 15) + "a" + strings.Repeat(")", 14),
		strings.Repeat("g(", 15) + "a" + strings.Repeat(")", 16),
		strings.Repeat("g(", 14) + "f(a,b)" + strings.Repeat(")", 14),
		strings.Repeat("f(", 8) + "a" + strings.Repeat(",a)", 8),
		strings.Repeat("g(", 1000000), strings.Repeat("f(a,", 1000000), strings.Repeat("f(", 1000000),
		strings.Repeat("a", 1000000), strings.Repeat(")", 1000000),
	}
}

func TestWrongTextsAreRefused(t *testing.T) {
	for _, text := range wrongTexts() {
		got, ok := impl.TermRead(text)
		if ok || !isZero(got) {
			t.Errorf("%.40q (%d bytes) is no text of a term", text, len(text))
		}
	}
}

func TestTextsCutOffAreRefused(t *testing.T) {
	for _, w := range writtenTerms() {
		for end := range len(w.text) {
			part := w.text[:end]
			if part == "x1" {
				continue
			}
			got, ok := impl.TermRead(part)
			mustFail(t, got, ok)
		}
	}
}

func TestP1TermIsReadBack(t *testing.T) {
	for _, x := range append(smallTerms(5), largeTerms()...) {
		got, ok := impl.TermRead(impl.TermText(x))
		mustTerm(t, got, ok, x)
	}
}

// eachText calls do with each text of the letters that has at most a number of
// bytes.
func eachText(letters string, most int, text string, do func(string)) {
	do(text)
	if len(text) == most {
		return
	}
	for i := range len(letters) {
		eachText(letters, most, text+letters[i:i+1], do)
	}
}

func TestP2TermHasOneText(t *testing.T) {
	leaves := []impl.Term{variable(1), variable(11), a(), b()}
	known := map[string]bool{}
	for _, x := range slices.Concat(termsOfSize(4, leaves)...) {
		if text := impl.TermText(x); len(text) <= 6 {
			known[text] = true
		}
	}
	found := 0
	eachText("abgfx1,()", 6, "", func(text string) {
		x, ok := impl.TermRead(text)
		if ok != known[text] || ok && impl.TermText(x) != text {
			t.Fatalf("%q is read as %v, %v", text, x, ok)
		}
		if ok {
			found++
		}
	})
	if found != len(known) {
		t.Errorf("%d texts are read, %d are known", found, len(known))
	}
}

func TestP2ChangedTextIsAnotherTermOrNone(t *testing.T) {
	for _, w := range writtenTerms() {
		for at := range len(w.text) + 1 {
			for _, letter := range []string{"", "a", "b", "g", "f", "x", "0", "1", "9", "(", ")", ",", " ", "-", "\n", "\x00", "\xff"} {
				texts := []string{w.text[:at] + letter + w.text[at:]}
				if at < len(w.text) {
					texts = append(texts, w.text[:at]+letter+w.text[at+1:])
				}
				for _, text := range texts {
					x, ok := impl.TermRead(text)
					if ok && (impl.TermText(x) != text || !impl.TermOk(x) || sameTerm(x, w.term) != (text == w.text)) {
						t.Fatalf("%q is read as %v", text, x)
					}
				}
			}
		}
	}
}

func TestP3SizeIsOneMoreThanThatOfTheArguments(t *testing.T) {
	for _, x := range append(smallTerms(5), largeTerms()...) {
		sum := 1
		for _, kid := range x.Kids {
			sum += impl.TermSize(kid)
		}
		if size := impl.TermSize(x); size != sum || size != countParts(x) {
			t.Fatalf("size of %v: %d", x, size)
		}
	}
	if impl.TermSize(variable(11)) != 1 || impl.TermSize(a()) != 1 || impl.TermSize(chain(15, b())) != impl.TermMax {
		t.Error("sizes at the limits")
	}
}

func TestP4PlacesAreAsManyAsTheSize(t *testing.T) {
	for _, x := range append(smallTerms(5), largeTerms()...) {
		places := impl.TermPlaces(x)
		if len(places) != impl.TermSize(x) {
			t.Fatalf("%v has %d places", x, len(places))
		}
		for i, place := range places {
			for _, other := range places[:i] {
				if slices.Equal(place, other) {
					t.Fatalf("%v has the place %v twice", x, place)
				}
			}
			got, ok := impl.TermAt(x, place)
			mustTerm(t, got, ok, partAt(x, place))
		}
	}
}

func TestP5PartOfAPartIsAPart(t *testing.T) {
	for _, x := range goodTerms() {
		for _, p := range impl.TermPlaces(x) {
			part, _ := impl.TermAt(x, p)
			for _, q := range impl.TermPlaces(part) {
				want, okWant := impl.TermAt(part, q)
				got, ok := impl.TermAt(x, join(p, q))
				if !okWant {
					t.Fatalf("no part of %v at %v", part, q)
				}
				mustTerm(t, got, ok, want)
			}
		}
	}
}

// eachPut calls do with terms, places and what is put there; only those of
// which the result is not too large.
func eachPut(do func(x impl.Term, place []int, s impl.Term)) {
	parts := append(smallTerms(3), comb(4), chain(14, b()), chain(15, variable(5)))
	for _, x := range goodTerms() {
		for _, place := range placesBelow(x) {
			for _, s := range parts {
				if countParts(x)-countParts(partAt(x, place))+countParts(s) <= impl.TermMax {
					do(x, place, s)
				}
			}
		}
	}
}

func TestP6WhatIsPutIsThere(t *testing.T) {
	eachPut(func(x impl.Term, place []int, s impl.Term) {
		whole, ok := impl.TermPut(x, place, s)
		mustTerm(t, whole, ok, withPart(x, place, s))
		got, ok := impl.TermAt(whole, place)
		mustTerm(t, got, ok, s)
		for _, other := range impl.TermPlaces(x) {
			if disjoint(place, other) {
				got, ok = impl.TermAt(whole, other)
				mustTerm(t, got, ok, partAt(x, other))
			}
		}
	})
}

func TestP7LastTermPutCounts(t *testing.T) {
	eachPut(func(x impl.Term, place []int, s impl.Term) {
		whole, ok := impl.TermPut(x, place, s)
		if !ok {
			t.Fatalf("%v put to %v of %v", s, place, x)
		}
		twice, ok := impl.TermPut(whole, place, b())
		once, okOnce := impl.TermPut(x, place, b())
		if !okOnce {
			t.Fatalf("b put to %v of %v", place, x)
		}
		mustTerm(t, twice, ok, once)
		back, ok := impl.TermPut(whole, place, partAt(x, place))
		mustTerm(t, back, ok, x)
	})
}

func TestP8PuttingThePresentPartChangesNothing(t *testing.T) {
	for _, x := range append(smallTerms(5), largeTerms()...) {
		for _, place := range placesBelow(x) {
			part, okAt := impl.TermAt(x, place)
			if !okAt {
				t.Fatalf("no part of %v at %v", x, place)
			}
			got, ok := impl.TermPut(x, place, part)
			mustTerm(t, got, ok, x)
		}
	}
}

func TestP9VarsAreThoseAtPlaces(t *testing.T) {
	for _, x := range append(smallTerms(5), largeTerms()...) {
		if vars := impl.TermVars(x); !slices.Equal(vars, varsBelow(x, nil)) {
			t.Fatalf("variables of %v: %v", x, vars)
		}
	}
	x := f(f(variable(11), variable(0)), f(variable(10), f(variable(0), variable(2))))
	if vars := impl.TermVars(x); !slices.Equal(vars, []int{0, 2, 10, 11}) {
		t.Errorf("variables of %v: %v", x, vars)
	}
	if vars := impl.TermVars(f(a(), g(b()))); len(vars) != 0 {
		t.Errorf("variables without any: %v", vars)
	}
}

func TestP10EqualTermsHaveEqualTexts(t *testing.T) {
	terms := append(smallTerms(5), largeTerms()...)
	texts := make([]string, len(terms))
	for i, x := range terms {
		texts[i] = impl.TermText(x)
	}
	for i, x := range terms {
		for j, y := range terms {
			if sameTerm(x, y) != (texts[i] == texts[j]) {
				t.Fatalf("%v and %v have the texts %q and %q", x, y, texts[i], texts[j])
			}
		}
		if impl.TermText(copyTerm(x)) != texts[i] || texts[i] == "" {
			t.Fatalf("text of %v: %q", x, texts[i])
		}
	}
}

func TestP11ArgumentsOfAValidTermAreValid(t *testing.T) {
	for _, x := range append(smallTerms(5), largeTerms()...) {
		if !impl.TermOk(x) {
			t.Fatalf("%v is valid", x)
		}
		for _, kid := range x.Kids {
			if !impl.TermOk(kid) {
				t.Fatalf("%v is valid", kid)
			}
		}
	}
	for _, bad := range badTerms() {
		if impl.TermOk(g(bad.term)) || impl.TermOk(f(bad.term, a())) || impl.TermOk(f(a(), bad.term)) {
			t.Errorf("%s as an argument", bad.name)
		}
	}
}

func TestP12PlacesAreTheRootAndThoseOfTheArguments(t *testing.T) {
	for _, x := range append(smallTerms(5), largeTerms()...) {
		want := [][]int{{}}
		for i, kid := range x.Kids {
			for _, place := range impl.TermPlaces(kid) {
				want = append(want, join([]int{i}, place))
			}
		}
		got := impl.TermPlaces(x)
		if !slices.EqualFunc(got, want, slices.Equal) || !slices.EqualFunc(got, placesBelow(x), slices.Equal) {
			t.Fatalf("places of %v: %v", x, got)
		}
	}
}

func TestP13SizeAfterPut(t *testing.T) {
	parts := append(smallTerms(3), largeTerms()...)
	for _, x := range goodTerms() {
		for _, place := range placesBelow(x) {
			for _, s := range parts {
				size := impl.TermSize(x) - impl.TermSize(partAt(x, place)) + impl.TermSize(s)
				whole, ok := impl.TermPut(x, place, s)
				if size > impl.TermMax {
					mustFail(t, whole, ok)
				} else if !ok || impl.TermSize(whole) != size {
					t.Fatalf("%v put to %v of %v: %v, %v", s, place, x, whole, ok)
				}
			}
		}
	}
}

func TestP14PutAddsTheVariablesOfThePart(t *testing.T) {
	eachPut(func(x impl.Term, place []int, s impl.Term) {
		whole, ok := impl.TermPut(x, place, s)
		if !ok {
			t.Fatalf("%v put to %v of %v", s, place, x)
		}
		want := slices.Concat(varsBelow(x, append([]int{}, place...)), impl.TermVars(s))
		slices.Sort(want)
		want = slices.Compact(want)
		if vars := impl.TermVars(whole); !slices.Equal(vars, want) {
			t.Fatalf("variables of %v: %v", whole, vars)
		}
	})
}

func TestTermArgumentsStayUnchanged(t *testing.T) {
	eachPut(func(x impl.Term, place []int, s impl.Term) {
		oldX, oldPlace, oldS := copyTerm(x), slices.Clone(place), copyTerm(s)
		impl.TermOk(x)
		impl.TermSize(x)
		impl.TermVars(x)
		impl.TermPlaces(x)
		impl.TermText(x)
		impl.TermAt(x, place)
		impl.TermPut(x, place, s)
		if !sameTerm(x, oldX) || !slices.Equal(place, oldPlace) || !sameTerm(s, oldS) {
			t.Fatalf("%v, %v, %v became %v, %v, %v", oldX, oldPlace, oldS, x, place, s)
		}
	})
}

func TestTermResultsShareNoMemory(t *testing.T) {
	eachPut(func(x impl.Term, place []int, s impl.Term) {
		x, s = copyTerm(x), copyTerm(s)
		seen := map[*impl.Term]bool{}
		addMemory(t, seen, x)
		addMemory(t, seen, s)
		part, _ := impl.TermAt(x, place)
		addMemory(t, seen, part)
		whole, _ := impl.TermPut(x, place, s)
		addMemory(t, seen, whole)
	})
}

func TestTermReadResultsShareNoMemory(t *testing.T) {
	for _, w := range writtenTerms() {
		seen := map[*impl.Term]bool{}
		for range 3 {
			x, _ := impl.TermRead(w.text)
			addMemory(t, seen, x)
		}
	}
}

func TestSharedArgumentsAreNotSharedInResults(t *testing.T) {
	part := f(a(), variable(1))
	x := f(part, part)
	whole, _ := impl.TermAt(x, nil)
	addMemory(t, map[*impl.Term]bool{}, whole)
	whole, _ = impl.TermPut(x, []int{0, 0}, part)
	addMemory(t, map[*impl.Term]bool{}, whole)
	whole, _ = impl.TermPut(f(part, g(part)), []int{1}, part)
	addMemory(t, map[*impl.Term]bool{}, whole)
}

func TestPlacesShareNoMemory(t *testing.T) {
	for _, x := range goodTerms() {
		seen := map[*int]bool{}
		for range 2 {
			for _, place := range impl.TermPlaces(x) {
				all := place[:cap(place)]
				for i := range all {
					if seen[&all[i]] {
						t.Fatalf("memory is shared by places of %v", x)
					}
					seen[&all[i]] = true
				}
			}
			vars := impl.TermVars(x)
			all := vars[:cap(vars)]
			for i := range all {
				if seen[&all[i]] {
					t.Fatalf("memory is shared by variables of %v", x)
				}
				seen[&all[i]] = true
			}
		}
	}
}

func TestTermResultsStayTheSame(t *testing.T) {
	for _, x := range goodTerms() {
		first, text := impl.TermPlaces(x), impl.TermText(x)
		impl.TermRead("f(x3,g(b))")
		impl.TermPut(x, nil, b())
		if !slices.EqualFunc(first, impl.TermPlaces(x), slices.Equal) || impl.TermText(x) != text {
			t.Fatalf("another call changes the places or the text of %v", x)
		}
	}
}
