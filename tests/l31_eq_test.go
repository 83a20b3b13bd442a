package tests

import (
	"strings"
	"testing"

	"loop.example/tipstaff/impl"
)

// mustFailEq fails unless a text is no equation, and the result the zero value.
func mustFailEq(t *testing.T, text string) {
	t.Helper()
	if e, ok := impl.EqRead(text); ok || !isZero(e.S) || !isZero(e.T) {
		t.Errorf("%.60q (%d bytes) is read as %v, %v", text, len(text), e, ok)
	}
}

func mustEq(t *testing.T, text string, want impl.Eq) {
	t.Helper()
	if e, ok := impl.EqRead(text); !ok || !sameTerm(e.S, want.S) || !sameTerm(e.T, want.T) {
		t.Errorf("%q is read as %v, %v", text, e, ok)
	}
}

type writtenEq struct {
	text string
	eq   impl.Eq
}

func writtenEqs() []writtenEq {
	x0, x1, x10, x11 := variable(0), variable(1), variable(10), variable(11)
	return []writtenEq{
		{"a = b", eq(a(), b())},
		{"b = a", eq(b(), a())},
		{"a = a", eq(a(), a())},
		{"x0 = x0", eq(x0, x0)},
		{"x0 = x11", eq(x0, x11)},
		{"x1 = x10", eq(x1, x10)},
		{"f(x0,a) = x0", eq(f(x0, a()), x0)},
		{"x11 = g(x10)", eq(x11, g(x10))},
		{"f(a,x0) = g(x0)", eq(f(a(), x0), g(x0))},
		{"f(f(x0,x1),x11) = f(x0,f(x1,x11))", eq(f(f(x0, x1), x11), f(x0, f(x1, x11)))},
		{"g(g(g(g(g(g(g(g(g(g(g(g(g(g(g(a))))))))))))))) = b", eq(chain(15, a()), b())},
		{"x0 = g(f(f(f(f(f(f(f(x0,x1),x2),x3),x4),x5),x6),x7))", eq(x0, g(comb(8)))},
	}
}

func TestEquationsAndTheirTexts(t *testing.T) {
	for _, w := range writtenEqs() {
		mustEq(t, w.text, w.eq)
		if text := impl.EqWrite(w.eq); text != w.text {
			t.Errorf("%q is written as %q", w.text, text)
		}
	}
}

func TestMalformedEquationsAreRefused(t *testing.T) {
	for _, text := range malformedEqs() {
		mustFailEq(t, text)
	}
	for _, wrong := range wrongTexts() {
		mustFailEq(t, wrong)
		mustFailEq(t, wrong+" = a")
		mustFailEq(t, "a = "+wrong)
		mustFailEq(t, wrong+" = "+wrong)
	}
	mustFailEq(t, strings.Repeat(" = ", 1000000))
	mustFailEq(t, strings.Repeat("a = ", 1000000)+"a")
	mustFailEq(t, strings.Repeat("a", 1000000)+" = "+strings.Repeat("b", 1000000))
}

func TestEquationsCutOffAreRefused(t *testing.T) {
	for _, w := range writtenEqs() {
		for end := range len(w.text) {
			if w.text[:end] == "x0 = x1" || w.text[:end] == "x1 = x1" {
				continue
			}
			mustFailEq(t, w.text[:end])
		}
	}
}

func TestEquationsKeepToTermMax(t *testing.T) {
	for _, leaf := range []impl.Term{a(), variable(11), f(variable(3), b())} {
		for height := 11; height < 18; height++ {
			x := chain(height, leaf)
			for _, e := range []impl.Eq{eq(x, a()), eq(a(), x), eq(x, x)} {
				if !isTerm(x) {
					mustFailEq(t, eqText(e))
					mustNotWrite(t, e)
					continue
				}
				mustEq(t, eqText(e), e)
				if impl.EqWrite(e) != eqText(e) {
					t.Errorf("%s is written as %q", eqText(e), impl.EqWrite(e))
				}
			}
		}
	}
}

func mustNotWrite(t *testing.T, e impl.Eq) {
	t.Helper()
	if text := impl.EqWrite(e); text != "" {
		t.Errorf("got %q", text)
	}
}

func TestBadEquationsAreNotWritten(t *testing.T) {
	for _, bad := range badTerms() {
		t.Run(bad.name, func(t *testing.T) {
			for _, x := range []impl.Term{a(), variable(0), g(b()), bad.term} {
				mustNotWrite(t, eq(bad.term, x))
				mustNotWrite(t, eq(x, bad.term))
				mustNotWrite(t, eq(f(x, bad.term), x))
			}
		})
	}
}

func TestNilAndEmptyArgumentsAreTheSameInEquations(t *testing.T) {
	empty := impl.Term{Sign: impl.SignB, Kids: []impl.Term{}}
	none := impl.Term{Var: 3, Kids: []impl.Term{}}
	if text := impl.EqWrite(eq(g(empty), none)); text != "g(b) = x3" {
		t.Errorf("%q", text)
	}
}

func TestP109EquationIsReadBack(t *testing.T) {
	terms := goodTerms()
	d := dice(31)
	for _, s := range terms {
		for range 40 {
			e := eq(s, pick(terms, &d))
			mustEq(t, impl.EqWrite(e), e)
			mustEq(t, impl.EqWrite(eq(e.T, e.S)), eq(e.T, e.S))
		}
	}
	small := smallTerms(2)
	for _, s := range small {
		for _, x := range small {
			mustEq(t, impl.EqWrite(eq(s, x)), eq(s, x))
		}
	}
	for _, s := range largeTerms() {
		for _, x := range largeTerms() {
			mustEq(t, impl.EqWrite(eq(s, x)), eq(s, x))
		}
	}
}

// mustReadAsBy fails unless a text is read as the document's words say, and
// written as the same text again.
func mustReadAsBy(t *testing.T, text string) bool {
	t.Helper()
	want, good := eqBy(text)
	if !good {
		mustFailEq(t, text)
		return false
	}
	mustEq(t, text, want)
	if e, _ := impl.EqRead(text); impl.EqWrite(e) != text {
		t.Errorf("%q is written as %q", text, impl.EqWrite(e))
	}
	return true
}

func TestP110EquationHasOneText(t *testing.T) {
	found, known := 0, 0
	for _, s := range []impl.Term{a(), b(), variable(1), variable(11)} {
		for _, x := range []impl.Term{a(), b(), variable(1), variable(11)} {
			if len(eqText(eq(s, x))) <= 7 {
				known++
			}
		}
	}
	eachText("abx1 =", 7, "", func(text string) {
		if mustReadAsBy(t, text) {
			found++
		}
	})
	eachText("ag(),b", 5, "", func(text string) {
		for _, whole := range []string{text + " = a", "x11 = " + text} {
			if mustReadAsBy(t, whole) {
				found++
			}
		}
	})
	known += 2 * len([]string{"a", "b", "g(a)", "g(b)"})
	if found != known {
		t.Errorf("%d texts are read, %d are known", found, known)
	}
}

func TestP110ChangedTextIsAnotherEquationOrNone(t *testing.T) {
	letters := []string{"", "a", "b", "g", "f", "x", "0", "1", "(", ")", ",", " ", "=", " = ", "-", "\n", "\r", "\t", "\x00", "\xff"}
	for _, w := range writtenEqs() {
		for at := range len(w.text) + 1 {
			for _, letter := range letters {
				texts := []string{w.text[:at] + letter + w.text[at:]}
				if at < len(w.text) {
					texts = append(texts, w.text[:at]+letter+w.text[at+1:])
				}
				for _, text := range texts {
					e, ok := impl.EqRead(text)
					if mustReadAsBy(t, text) != ok || ok && (eqText(e) == w.text) != (text == w.text) {
						t.Fatalf("%q is read as %v", text, e)
					}
				}
			}
		}
	}
}

func TestWrittenEquationsStayUnchanged(t *testing.T) {
	for _, w := range writtenEqs() {
		old := copyEqs([]impl.Eq{w.eq})
		impl.EqWrite(w.eq)
		if !sameEqs([]impl.Eq{w.eq}, old) {
			t.Errorf("%s became %v", w.text, w.eq)
		}
	}
}

func TestReadEquationsShareNoMemory(t *testing.T) {
	memory := newProofMemory()
	for range 2 {
		for _, w := range append(writtenEqs(), writtenEq{text: "g(f(a,g(b))) = g(f(a,g(b)))"}) {
			e, ok := impl.EqRead(w.text)
			if !ok {
				t.Fatalf("%q is not read", w.text)
			}
			memory.addEqs(t, []impl.Eq{e})
		}
	}
}

// What a caller does to a result does not reach the next one.
func TestReadingKeepsNothingBetweenCalls(t *testing.T) {
	for _, w := range writtenEqs() {
		for range 2 {
			mustEq(t, w.text, w.eq)
			e, _ := impl.EqRead(w.text)
			for _, x := range []impl.Term{e.S, e.T} {
				for i := range x.Kids {
					x.Kids[i] = impl.Term{Sign: 7}
				}
			}
			mustFailEq(t, w.text+" ")
		}
	}
}
