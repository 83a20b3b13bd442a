// Package impl: rules made of equations, each with its proof.
package impl

import (
	"slices"
	"strconv"
	"strings"
)

// Signs of terms: a sign of 0 is a variable.
const (
	SignA = 1
	SignB = 2
	SignG = 3
	SignF = 4
)

// Limits of terms.
const (
	TermMax = 16
	TermVar = 12
)

// signLetters has the letter of each sign, in the order of the signs.
const signLetters = "abgf"

// Term is a variable, or a sign with as many terms as it asks for.
type Term struct {
	Sign int
	Var  int
	Kids []Term
}

// node is a term that was found well formed: it is made only by nodeOf and by
// the reader of texts, so that what works on nodes need not check again.
type node interface {
	size() int
	text() string
	term() Term
}

type variable int

type symbol struct {
	sign int
	kids []node
}

func (v variable) size() int {
	return 1
}

func (s symbol) size() int {
	sum := 1
	for _, kid := range s.kids {
		sum += kid.size()
	}
	return sum
}

func (v variable) text() string {
	return "x" + strconv.Itoa(int(v))
}

func (s symbol) text() string {
	letter := signLetters[s.sign-1 : s.sign]
	if len(s.kids) == 0 {
		return letter
	}
	texts := make([]string, len(s.kids))
	for i, kid := range s.kids {
		texts[i] = kid.text()
	}
	return letter + "(" + strings.Join(texts, ",") + ")"
}

func (v variable) term() Term {
	return Term{Var: int(v)}
}

func (s symbol) term() Term {
	t := Term{Sign: s.sign}
	if len(s.kids) > 0 {
		t.Kids = make([]Term, len(s.kids))
	}
	for i, kid := range s.kids {
		t.Kids[i] = kid.term()
	}
	return t
}

// arityOf is how many arguments a sign asks for, or -1 if it is no sign.
func arityOf(sign int) int {
	switch sign {
	case SignA, SignB:
		return 0
	case SignG:
		return 1
	case SignF:
		return 2
	}
	return -1
}

// signOfLetter is 0 for a letter that is no sign.
func signOfLetter(letter byte) int {
	return 1 + strings.IndexByte(signLetters, letter)
}

// nodeOf makes a node of a term that is well formed and not larger than limit.
func nodeOf(t Term, limit int) (node, bool) {
	room := limit
	return nodeWithin(t, &room)
}

// nodeWithin counts down the room that is left at each part before it looks
// inside, because a term that is handed in may be far too large, or even
// contain itself.
func nodeWithin(t Term, room *int) (node, bool) {
	if *room < 1 {
		return nil, false
	}
	*room--
	if t.Sign == 0 {
		return variable(t.Var), t.Var >= 0 && t.Var < TermVar && len(t.Kids) == 0
	}
	if t.Var != 0 || len(t.Kids) != arityOf(t.Sign) {
		return nil, false
	}
	kids := make([]node, len(t.Kids))
	for i, kid := range t.Kids {
		n, ok := nodeWithin(kid, room)
		if !ok {
			return nil, false
		}
		kids[i] = n
	}
	return symbol{t.Sign, kids}, true
}

// signOf is 0 for a variable.
func signOf(n node) int {
	switch n := n.(type) {
	case symbol:
		return n.sign
	default:
		return 0
	}
}

func kidsOf(n node) []node {
	switch n := n.(type) {
	case symbol:
		return n.kids
	default:
		return nil
	}
}

// addVars appends the variables of a node as they come, also repeated ones.
func addVars(list []int, n node) []int {
	switch n := n.(type) {
	case variable:
		list = append(list, int(n))
	case symbol:
		for _, kid := range n.kids {
			list = addVars(list, kid)
		}
	}
	return list
}

// placesOf makes each place anew, so that no two of them share memory.
func placesOf(n node) [][]int {
	places := [][]int{{}}
	for i, kid := range kidsOf(n) {
		for _, place := range placesOf(kid) {
			places = append(places, append([]int{i}, place...))
		}
	}
	return places
}

func nodeAt(n node, place []int) (node, bool) {
	for _, index := range place {
		kids := kidsOf(n)
		if index < 0 || index >= len(kids) {
			return nil, false
		}
		n = kids[index]
	}
	return n, true
}

// nodePut leaves n as it is: the symbols on the way to the place are made anew.
func nodePut(n node, place []int, s node) (node, bool) {
	if len(place) == 0 {
		return s, true
	}
	switch n := n.(type) {
	case symbol:
		index := place[0]
		if index < 0 || index >= len(n.kids) {
			return nil, false
		}
		kid, ok := nodePut(n.kids[index], place[1:], s)
		if !ok {
			return nil, false
		}
		kids := slices.Clone(n.kids)
		kids[index] = kid
		return symbol{n.sign, kids}, true
	default:
		return nil, false
	}
}

// termReader reads a term from the front of a text. It stops when it has no
// room for another part, so a long text cannot nest it deeply.
type termReader struct {
	rest string
	room int
}

func (r *termReader) skip(mark string) bool {
	rest, found := strings.CutPrefix(r.rest, mark)
	r.rest = rest
	return found
}

func (r *termReader) node() (node, bool) {
	if r.room < 1 || r.rest == "" {
		return nil, false
	}
	r.room--
	if r.skip("x") {
		return r.variable()
	}
	sign := signOfLetter(r.rest[0])
	if sign == 0 {
		return nil, false
	}
	r.rest = r.rest[1:]
	return r.symbol(sign)
}

// variable compares the digits with the number written again, because a number
// has only one text.
func (r *termReader) variable() (node, bool) {
	rest := strings.TrimLeft(r.rest, "0123456789")
	digits := r.rest[:len(r.rest)-len(rest)]
	r.rest = rest
	number, err := strconv.Atoi(digits)
	if err != nil || number >= TermVar || strconv.Itoa(number) != digits {
		return nil, false
	}
	return variable(number), true
}

func (r *termReader) symbol(sign int) (node, bool) {
	kids := make([]node, arityOf(sign))
	mark := "("
	for i := range kids {
		if !r.skip(mark) {
			return nil, false
		}
		kid, ok := r.node()
		if !ok {
			return nil, false
		}
		kids[i] = kid
		mark = ","
	}
	if len(kids) > 0 && !r.skip(")") {
		return nil, false
	}
	return symbol{sign, kids}, true
}

// TermOk says whether a term is ok.
func TermOk(t Term) bool {
	_, ok := nodeOf(t, TermMax)
	return ok
}

// TermSize is how many signs and variables a term has.
func TermSize(t Term) int {
	n, ok := nodeOf(t, TermMax)
	if !ok {
		return -1
	}
	return n.size()
}

// TermVars is all variables of a term.
func TermVars(t Term) []int {
	n, ok := nodeOf(t, TermMax)
	if !ok {
		return nil
	}
	vars := addVars(nil, n)
	slices.Sort(vars)
	return slices.Compact(vars)
}

// TermPlaces is all places of a term.
func TermPlaces(t Term) [][]int {
	n, ok := nodeOf(t, TermMax)
	if !ok {
		return nil
	}
	return placesOf(n)
}

// TermAt is what stands at a place.
func TermAt(t Term, place []int) (Term, bool) {
	n, ok := nodeOf(t, TermMax)
	if !ok {
		return Term{}, false
	}
	part, ok := nodeAt(n, place)
	if !ok {
		return Term{}, false
	}
	return part.term(), true
}

// TermPut puts another term to a place.
func TermPut(t Term, place []int, s Term) (Term, bool) {
	n, okT := nodeOf(t, TermMax)
	part, okS := nodeOf(s, TermMax)
	if !okT || !okS {
		return Term{}, false
	}
	whole, ok := nodePut(n, place, part)
	if !ok || whole.size() > TermMax {
		return Term{}, false
	}
	return whole.term(), true
}

// TermText writes a term.
func TermText(t Term) string {
	n, ok := nodeOf(t, TermMax)
	if !ok {
		return ""
	}
	return n.text()
}

// TermRead reads a term.
func TermRead(text string) (Term, bool) {
	r := termReader{rest: text, room: TermMax}
	n, ok := r.node()
	if !ok || r.rest != "" {
		return Term{}, false
	}
	return n.term(), true
}
