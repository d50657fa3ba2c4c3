package ask

import (
	"iter"
	"slices"

	"trine/api"
	"trine/box"
	"trine/limits"
)

// clause is a pattern and the sentences that it may be.
type clause struct {
	pattern terms
	list    []terms
	settled bool // it is the only sentence of its list, and the other clauses have left what does not agree with it
}

// question is clauses that are to hold together.
type question []clause

// questionOf is the patterns with what the box has for each.
func questionOf(b *box.Box, patterns []api.Triple) question {
	var q question
	for _, p := range patterns {
		pattern := termsOf(p)
		q = append(q, clause{pattern: pattern, list: sentencesFor(b, pattern)})
	}
	return q
}

// beside is the clause's sentences that agree with one of other's.
func (c clause) beside(other clause) []terms {
	shared := links(c.pattern, other.pattern)
	if len(shared) == 0 {
		return c.list
	}
	var kept []terms
	for _, s := range c.list {
		if slices.ContainsFunc(other.list, func(o terms) bool { return agree(shared, s, o) }) {
			kept = append(kept, s)
		}
	}
	return kept
}

// narrow leaves out what agrees with nothing of another clause, as often as it takes until each clause has told on through all others. Then patterns that never hold together are found out at the start, unless variables link them in a ring: rings are left to the search.
func (q question) narrow() {
	for range len(q) - 1 {
		for i := range q {
			q.tell(i)
		}
	}
}

// tell leaves to all other clauses only what agrees with some sentence of clause i.
func (q question) tell(i int) {
	for j := range q {
		if j != i {
			q[j].list = q[j].beside(q[i])
		}
	}
}

// next is the clause to settle next; -1, if all are settled.
func (q question) next() int {
	best := -1
	for i, c := range q {
		if !c.settled && (best < 0 || q.rank(i) < q.rank(best)) {
			best = i
		}
	}
	return best
}

// rank tells how late to settle clause i: few sentences come first, so that few are tried in vain. What can't fail any more waits for what can, or the same failure would be met beside each of its sentences.
func (q question) rank(i int) int {
	count := len(q[i].list)
	if count > 0 && !q.isLinked(i) {
		return count + limits.MaxSet
	}
	return count
}

// isLinked tells whether clause i shares a variable with another one that is not settled.
func (q question) isLinked(i int) bool {
	for j, c := range q {
		if j != i && !c.settled && len(links(q[i].pattern, c.pattern)) > 0 {
			return true
		}
	}
	return false
}

// with is the question with clause i settled to be the sentence.
func (q question) with(i int, sentence terms) question {
	out := slices.Clone(q)
	out[i].list, out[i].settled = []terms{sentence}, true
	out.tell(i)
	return out
}

// answers hands out each answer as a question of which all clauses are settled. None comes twice: an answer tells the sentence of each clause.
func (q question) answers() iter.Seq[question] {
	return func(yield func(question) bool) {
		i := q.next()
		if i < 0 {
			yield(q)
			return
		}
		for _, s := range q[i].list {
			for answer := range q.with(i, s).answers() {
				if !yield(answer) {
					return
				}
			}
		}
	}
}

// row is what a question of which all clauses are settled gives the variables of pick.
func (q question) row(pick []string) []string {
	row := make([]string, 0, len(pick))
	for _, variable := range pick {
		row = append(row, q.given(variable))
	}
	return row
}

func (q question) given(variable string) string {
	for _, c := range q {
		if i := slices.Index(c.pattern[:], variable); i >= 0 {
			return c.list[0][i]
		}
	}
	return ""
}

// shares is at most that many questions which have the answers of q between them: each takes a part of one clause's sentences.
func (q question) shares(most int) []question {
	i := q.next()
	if i < 0 {
		return []question{q}
	}
	var out []question
	for part := range slices.Chunk(q[i].list, max(1, (len(q[i].list)+most-1)/most)) {
		share := slices.Clone(q)
		share[i].list = part
		out = append(out, share)
	}
	return out
}
