package tests

import (
	"slices"
	"strings"
	"testing"

	"loop.example/tipstaff/impl"
)

// rankOf makes a list of signs of their letters, the greatest first.
func rankOf(letters string) []int {
	var rank []int
	for i := range len(letters) {
		rank = append(rank, 1+strings.IndexByte("abgf", letters[i]))
	}
	return rank
}

// rankings are all 24 of them.
func rankings() [][]int {
	var list [][]int
	eachList(4, 1, 4, nil, func(rank []int) {
		if isRanking(rank) {
			list = append(list, rank)
		}
	})
	return list
}

// eachList calls do with each list of a number of entries from least to most.
func eachList(number, least, most int, list []int, do func([]int)) {
	if number == 0 {
		do(slices.Clone(list))
		return
	}
	for entry := least; entry <= most; entry++ {
		eachList(number-1, least, most, append(slices.Clone(list), entry), do)
	}
}

func isRanking(rank []int) bool {
	return slices.Equal(slices.Sorted(slices.Values(rank)), []int{1, 2, 3, 4})
}

type badRank struct {
	name string
	rank []int
}

func badRanks() []badRank {
	const most = int(^uint(0) >> 1)
	full := rankOf("fgba")
	return []badRank{
		{"nil", nil},
		{"empty", []int{}},
		{"one symbol", rankOf("f")},
		{"three symbols", rankOf("fgb")},
		{"three symbols, a fourth behind them", full[:3]},
		{"no symbol, four behind", full[:0]},
		{"five symbols, the first again", rankOf("fgbaf")},
		{"five symbols, the last again", rankOf("fgbaa")},
		{"five numbers, the last above SignF", []int{4, 3, 2, 1, 5}},
		{"five numbers, the first 0", []int{0, 4, 3, 2, 1}},
		{"eight symbols", rankOf("fgbafgba")},
		{"a twice, no b", rankOf("fgaa")},
		{"f twice, no a", rankOf("fgbf")},
		{"g twice, no f", rankOf("ggba")},
		{"only f", rankOf("ffff")},
		{"only 0", []int{0, 0, 0, 0}},
		{"0 first", []int{0, 3, 2, 1}},
		{"0 last", []int{4, 3, 2, 0}},
		{"0 to 3", []int{3, 2, 1, 0}},
		{"below 0", []int{4, 3, 2, -1}},
		{"all below 0", []int{-4, -3, -2, -1}},
		{"far below 0", []int{4, 3, -most - 1, 1}},
		{"above SignF", []int{5, 3, 2, 1}},
		{"2 to 5", []int{5, 4, 3, 2}},
		{"far above", []int{4, most, 2, 1}},
		{"very many", make([]int, 100000)},
		{"a ranking very many times", slices.Repeat(full, 25000)},
	}
}

// moreBy follows the document's words one by one, and tries all of them.
func moreBy(rank []int, s, t impl.Term) bool {
	if s.Sign == 0 {
		return false
	}
	for _, kid := range s.Kids {
		if sameTerm(kid, t) || moreBy(rank, kid, t) {
			return true
		}
	}
	if t.Sign == 0 {
		return false
	}
	earlier := slices.Index(rank, s.Sign) < slices.Index(rank, t.Sign)
	if !earlier && (s.Sign != t.Sign || !firstIsMore(rank, s.Kids, t.Kids)) {
		return false
	}
	return !slices.ContainsFunc(t.Kids, func(kid impl.Term) bool { return !moreBy(rank, s, kid) })
}

// firstIsMore is about the first arguments that differ.
func firstIsMore(rank []int, kids, others []impl.Term) bool {
	for i, kid := range kids {
		if !sameTerm(kid, others[i]) {
			return moreBy(rank, kid, others[i])
		}
	}
	return false
}

// orderTerms are terms with two variables and both symbols without arguments.
func orderTerms(most int) []impl.Term {
	return slices.Concat(termsOfSize(most, []impl.Term{variable(0), variable(1), a(), b()})...)
}

func groundTerms(most int) []impl.Term {
	return slices.Concat(termsOfSize(most, []impl.Term{a(), b()})...)
}

// rightComb is f of a leaf and f of a leaf and so on, with the last leaf at
// the end.
func rightComb(number int, leaf, last impl.Term) impl.Term {
	t := last
	for range number {
		t = f(leaf, t)
	}
	return t
}

// largeOrderTerms are at or just below the limit of size, some of them equal
// but for a part far inside.
func largeOrderTerms() []impl.Term {
	return append(largeTerms(),
		chain(15, b()),
		chain(15, variable(0)),
		chain(14, a()),
		rightComb(7, variable(1), a()),
		rightComb(7, variable(1), b()),
		rightComb(7, a(), variable(0)),
		g(rightComb(7, b(), a())),
		rightComb(5, a(), chain(5, b())),
		f(chain(6, a()), chain(7, b())),
		f(chain(6, b()), chain(7, a())))
}

// someRankings have each symbol first once, and each last once.
func someRankings() [][]int {
	return [][]int{rankOf("fgba"), rankOf("gfab"), rankOf("abfg"), rankOf("bagf")}
}

// eachMore calls do with rankings and pairs of terms, the first of which is
// greater.
func eachMore(t *testing.T, ranks [][]int, terms []impl.Term, do func(rank []int, s, x impl.Term)) {
	t.Helper()
	pairs := 0
	for _, rank := range ranks {
		for _, s := range terms {
			for _, x := range terms {
				if impl.OrderMore(rank, s, x) {
					pairs++
					do(rank, s, x)
				}
			}
		}
	}
	if pairs < 10*len(terms) {
		t.Errorf("only %d pairs were tried", pairs)
	}
}
