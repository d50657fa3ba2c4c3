package ask

import (
	"fmt"
	"math/rand"
	"slices"
	"testing"

	"trine/api"
)

// Whoever shares the work, all answers are found, each once.
func TestSharesHaveTheAnswersBetweenThem(t *testing.T) {
	r := rand.New(rand.NewSource(7))
	for range 200 {
		list := someSentences(r, r.Intn(30))
		patterns := somePatterns(r, r.Intn(4))
		q := questionOf(opened(t, list), patterns)
		q.narrow()
		want := len(plainAnswers(list, patterns))
		for most := 1; most < 9; most++ {
			shares, count := q.shares(most), 0
			for _, share := range shares {
				for range share.answers() {
					count++
				}
			}
			if count != want || len(shares) > most {
				t.Fatalf("%v: %d shares have %d answers, want at most %d with %d", patterns, len(shares), count, most, want)
			}
		}
	}
}

// used is the sentences that stand for each pattern in some answer.
func used(q question) []map[terms]bool {
	out := make([]map[terms]bool, len(q))
	for i := range out {
		out[i] = map[terms]bool{}
	}
	for answer := range q.answers() {
		for i, c := range answer {
			out[i][c.list[0]] = true
		}
	}
	return out
}

// Where variables make no ring, narrow leaves nothing in vain: then the search meets no failure.
func TestNarrowLeavesWhatIsInSomeAnswer(t *testing.T) {
	r := rand.New(rand.NewSource(8))
	for _, patterns := range [][]api.Triple{
		said("?a p0 ?b", "?b p1 ?c", "?c p2 ?d", "?d p3 ?e"),
		said("?a p0 ?b", "?a p1 ?c", "?a p2 ?d", "?d p3 ?e"),
		said("?a p0 ?b", "?a p1 ?b", "?b p2 ?c", "?c p3 ?c"),
		said("?a p0 ?b", "?b p1 ?c", "?d p2 ?e", "?e p3 ?f"),
	} {
		for _, patterns := range slices.Repeat(orders(patterns), 20) {
			var list []api.Triple
			for range 40 {
				list = append(list, said(fmt.Sprintf("n%d p%d n%d", r.Intn(8), r.Intn(4), r.Intn(8)))...)
			}
			q := questionOf(opened(t, list), patterns)
			answered := used(q)
			if slices.ContainsFunc(answered, func(m map[terms]bool) bool { return len(m) == 0 }) {
				continue
			}
			q.narrow()
			for i, c := range q {
				if len(c.list) != len(answered[i]) {
					t.Fatalf("%v: narrow leaves %d sentences to pattern %d, of which %d are in answers", patterns, len(c.list), i, len(answered[i]))
				}
			}
		}
	}
}

func TestNarrowFindsOutWhatNeverHolds(t *testing.T) {
	b := opened(t, hub())
	for _, patterns := range orders(said("?a p ?x", "?b p ?x", "?x q ?c", "?c r ?d")) {
		q := questionOf(b, patterns)
		q.narrow()
		for i, c := range q {
			if len(c.list) > 0 {
				t.Errorf("%v: narrow leaves %d sentences to pattern %d", patterns, len(c.list), i)
			}
		}
	}
}
