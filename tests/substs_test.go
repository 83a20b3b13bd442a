package tests

import (
	"slices"
	"testing"

	"loop.example/tipstaff/impl"
)

func bind(number int, t impl.Term) impl.Bind {
	return impl.Bind{Var: number, Term: t}
}

// readTerm is for tables, in which terms built by hand would be hard to read.
func readTerm(t *testing.T, text string) impl.Term {
	t.Helper()
	x, ok := impl.TermRead(text)
	if !ok {
		t.Fatalf("%q is no text of a term", text)
	}
	return x
}

// bindsText writes a substitution as "x0:a x1:g(x2)".
func bindsText(s []impl.Bind) string {
	text := ""
	for i, b := range s {
		if i > 0 {
			text += " "
		}
		text += impl.TermText(variable(b.Var)) + ":" + impl.TermText(b.Term)
	}
	return text
}

func sameBinds(s, u []impl.Bind) bool {
	return slices.EqualFunc(s, u, func(b, c impl.Bind) bool {
		return b.Var == c.Var && sameTerm(b.Term, c.Term)
	})
}

func copyBinds(s []impl.Bind) []impl.Bind {
	list := make([]impl.Bind, 0, len(s))
	for _, b := range s {
		list = append(list, bind(b.Var, copyTerm(b.Term)))
	}
	return list
}

// valueOf is what a variable stands for.
func valueOf(s []impl.Bind, number int) impl.Term {
	for _, b := range s {
		if b.Var == number {
			return copyTerm(b.Term)
		}
	}
	return variable(number)
}

func isBound(s []impl.Bind, number int) bool {
	return slices.ContainsFunc(s, func(b impl.Bind) bool { return b.Var == number })
}

func boundVars(s []impl.Bind) []int {
	var vars []int
	for _, b := range s {
		vars = append(vars, b.Var)
	}
	return vars
}

// applied is a term with a substitution applied, however large. What has
// arguments is no variable, whatever its sign.
func applied(s []impl.Bind, t impl.Term) impl.Term {
	if t.Sign == 0 && len(t.Kids) == 0 {
		return valueOf(s, t.Var)
	}
	t.Kids = slices.Clone(t.Kids)
	for i, kid := range t.Kids {
		t.Kids[i] = applied(s, kid)
	}
	return t
}

// restricted has what a substitution makes of each of some variables, also of
// those that it leaves unchanged.
func restricted(s []impl.Bind, vars []int) []impl.Bind {
	var list []impl.Bind
	for _, v := range vars {
		list = append(list, bind(v, valueOf(s, v)))
	}
	return list
}

// numbered binds each variable to a term that do makes of its number.
func numbered(do func(number int) impl.Term) []impl.Bind {
	var list []impl.Bind
	for i := range impl.TermVar {
		list = append(list, bind(i, do(i)))
	}
	return list
}

func goodSubsts() [][]impl.Bind {
	x0, x1, x2, x11 := variable(0), variable(1), variable(2), variable(11)
	return [][]impl.Bind{
		nil,
		{},
		{bind(0, x0)},
		{bind(0, a())},
		{bind(11, b())},
		{bind(0, g(x0))},
		{bind(11, f(x11, x0))},
		{bind(0, x11), bind(11, x0)},
		{bind(0, x1), bind(1, x2), bind(2, x0)},
		{bind(0, g(x11)), bind(11, f(x0, x0))},
		{bind(1, f(x0, a())), bind(2, x2), bind(11, g(b()))},
		{bind(0, chain(15, x1))},
		{bind(0, comb(8)), bind(11, g(comb(8)))},
		{bind(3, chain(7, x0)), bind(11, chain(7, a()))},
		numbered(variable),
		numbered(func(number int) impl.Term { return variable(11 - number) }),
		numbered(func(number int) impl.Term { return chain(number, b()) }),
		numbered(func(int) impl.Term { return comb(8) }),
	}
}

type badSubst struct {
	name  string
	binds []impl.Bind
}

func badSubsts() []badSubst {
	const least = -int(^uint(0)>>1) - 1
	list := []badSubst{
		{"variable below 0", []impl.Bind{bind(-1, a())}},
		{"variable far below 0", []impl.Bind{bind(least, a())}},
		{"variable TermVar", []impl.Bind{bind(impl.TermVar, a())}},
		{"variable far above", []impl.Bind{bind(-(least + 1), a())}},
		{"last variable TermVar", append(numbered(variable), bind(impl.TermVar, a()))},
		{"first variable below 0", append([]impl.Bind{bind(-1, a())}, numbered(variable)...)},
		{"one variable, two terms", []impl.Bind{bind(3, a()), bind(3, b())}},
		{"one variable, one term twice", []impl.Bind{bind(3, a()), bind(3, a())}},
		{"variable 0 twice", []impl.Bind{bind(0, variable(0)), bind(0, variable(0))}},
		{"descending", []impl.Bind{bind(2, a()), bind(1, b())}},
		{"not ascending at the end", []impl.Bind{bind(0, a()), bind(5, b()), bind(4, b())}},
		{"not ascending at the start", []impl.Bind{bind(1, a()), bind(0, b()), bind(4, b())}},
		{"very many binds", make([]impl.Bind, 100000)},
	}
	for _, bad := range badTerms() {
		list = append(list,
			badSubst{"alone: " + bad.name, []impl.Bind{bind(0, bad.term)}},
			badSubst{"first: " + bad.name, []impl.Bind{bind(0, bad.term), bind(1, a())}},
			badSubst{"last: " + bad.name, []impl.Bind{bind(3, a()), bind(11, bad.term)}})
	}
	return list
}

// addBindsMemory does for a substitution what addMemory does for a term.
func addBindsMemory(t *testing.T, terms map[*impl.Term]bool, binds map[*impl.Bind]bool, s []impl.Bind) {
	t.Helper()
	all := s[:cap(s)]
	for i := range all {
		if binds[&all[i]] {
			t.Fatalf("memory is shared at %v", s)
		}
		binds[&all[i]] = true
	}
	for _, b := range s {
		addMemory(t, terms, b.Term)
	}
}

// mustBinds fails unless a result is there and is the substitution that is
// expected.
func mustBinds(t *testing.T, got []impl.Bind, ok bool, want []impl.Bind) {
	t.Helper()
	if !ok || !sameBinds(got, want) {
		t.Fatalf("got %v, %v; want %v", got, ok, want)
	}
}

// mustFailBinds fails unless a result is empty and false.
func mustFailBinds(t *testing.T, got []impl.Bind, ok bool) {
	t.Helper()
	if ok || len(got) != 0 {
		t.Fatalf("got %v, %v; want no substitution", got, ok)
	}
}
