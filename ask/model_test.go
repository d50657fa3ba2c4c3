package ask

import (
	"math/rand"
	"slices"
	"strings"
	"testing"

	"trine/api"
	"trine/box"
)

// said is sentences or patterns of short names: "a p ?x" is of the iris <a:a> and <a:p> and the variable ?x; a name that begins with _, " or ? is as it is.
func said(sentences ...string) []api.Triple {
	var list []api.Triple
	for _, s := range sentences {
		f := strings.Fields(s)
		list = append(list, api.Triple{S: named(f[0]), P: named(f[1]), O: named(f[2])})
	}
	return list
}

func named(name string) string {
	if strings.ContainsRune(`_"?`, rune(name[0])) {
		return name
	}
	return "<a:" + name + ">"
}

func opened(t *testing.T, list []api.Triple) *box.Box {
	t.Helper()
	data, e, _ := box.Build(list)
	b, f, _ := box.Open(data)
	if b == nil || e != api.OK || f != api.OK {
		t.Fatalf("no box of %v: %d, %d", list, e, f)
	}
	return b
}

// variablesOf is the variables of the patterns, each once.
func variablesOf(patterns []api.Triple) []string {
	var out []string
	for _, p := range patterns {
		for _, text := range []string{p.S, p.P, p.O} {
			if text[0] == '?' && !slices.Contains(out, text) {
				out = append(out, text)
			}
		}
	}
	return out
}

// answer is what variables are given.
type answer map[string]string

func (a answer) in(text string) string {
	if term, ok := a[text]; ok {
		return term
	}
	return text
}

// holds tells whether each pattern, with these terms in the place of its variables, is a sentence of the set.
func (a answer) holds(set map[api.Triple]bool, patterns []api.Triple) bool {
	for _, p := range patterns {
		if !set[api.Triple{S: a.in(p.S), P: a.in(p.P), O: a.in(p.O)}] {
			return false
		}
	}
	return true
}

// plainAnswers tries all terms of the list for all variables of the patterns, as the chapter says it.
func plainAnswers(list, patterns []api.Triple) []answer {
	set := map[api.Triple]bool{}
	var terms []string
	for _, t := range list {
		set[t] = true
		terms = append(terms, t.S, t.P, t.O)
	}
	slices.Sort(terms)
	terms = slices.Compact(terms)
	tries := []answer{{}}
	for _, v := range variablesOf(patterns) {
		var longer []answer
		for _, a := range tries {
			for _, term := range terms {
				b := answer{v: term}
				for w, other := range a {
					b[w] = other
				}
				longer = append(longer, b)
			}
		}
		tries = longer
	}
	return slices.DeleteFunc(tries, func(a answer) bool { return !a.holds(set, patterns) })
}

func plainRows(answers []answer, pick []string) [][]string {
	var rows [][]string
	for _, a := range answers {
		row := []string{}
		for _, v := range pick {
			row = append(row, a[v])
		}
		rows = append(rows, row)
	}
	slices.SortFunc(rows, slices.Compare)
	return slices.CompactFunc(rows, slices.Equal)
}

func sameRows(a, b [][]string) bool { return slices.EqualFunc(a, b, slices.Equal) }

// orders is the list in all orders.
func orders[T any](list []T) [][]T {
	if len(list) == 0 {
		return [][]T{nil}
	}
	var out [][]T
	for _, rest := range orders(list[1:]) {
		for i := range len(list) {
			out = append(out, slices.Insert(slices.Clone(rest), i, list[0]))
		}
	}
	return out
}

var someNames = []string{"a", "b", "_:b", "p", `"x"`}

// someSentences is sentences of few terms, so that many of them share some.
func someSentences(r *rand.Rand, count int) []api.Triple {
	var list []api.Triple
	for range count {
		list = append(list, api.Triple{S: named(someNames[r.Intn(4)]), P: named(someNames[[]int{0, 1, 3}[r.Intn(3)]]), O: named(someNames[r.Intn(5)])})
	}
	return list
}

// somePatterns is patterns of at most four variables, with terms that may not stand where they do among them, and one that is in no box.
func somePatterns(r *rand.Rand, count int) []api.Triple {
	variables := []string{"?a", "?b", "?ab", "?abcdefgh"}[:1+r.Intn(4)]
	text := func() string {
		if r.Intn(10) < 6 {
			return variables[r.Intn(len(variables))]
		}
		return named(append(someNames, "none")[r.Intn(6)])
	}
	var list []api.Triple
	for range count {
		list = append(list, api.Triple{S: text(), P: text(), O: text()})
	}
	return list
}

// somePick is some of the variables of the patterns, in any order.
func somePick(r *rand.Rand, patterns []api.Triple) []string {
	variables := variablesOf(patterns)
	r.Shuffle(len(variables), func(i, j int) { variables[i], variables[j] = variables[j], variables[i] })
	return variables[:r.Intn(len(variables)+1)]
}
