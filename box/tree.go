package box

import (
	"iter"
	"slices"

	"trine/bits"
)

// numbers is a sentence by the numbers of its terms, or a pattern of such ones.
type numbers struct{ s, p, o int }

// whatever stands in a pattern for each term: it is no term's number, nor what a dict answers for a text that it does not have.
const whatever = -2

// tree is the sentences, branched by what they begin with: under each subject its verbs, under each of these its objects.
type tree struct {
	subjects column
	verbs    level
	objects  level
}

// level is the numbers below those of another level, one behind the other; a bit tells for each whether it is the last one below the same.
type level struct {
	column
	*bits.Row
}

// column is numbers of terms.
type column []int

// below is the bounds of what stands below the number at that place of the level above.
func (l level) below(place int) (int, int) {
	// The k-th 1, from 1 on, ends what is below place k - 1. Ahead of place 0 nothing has ended: Find answers -1.
	return l.Find(place) + 1, l.Find(place+1) + 1
}

// places hands out where the number stands within the bounds, between which the numbers rise.
func (c column) places(from, to, number int) iter.Seq[int] {
	if number != whatever {
		from, to = c.narrowed(from, to, number)
	}
	return func(yield func(int) bool) {
		for i := from; i < to; i++ {
			if !yield(i) {
				return
			}
		}
	}
}

// narrowed is the bounds of the number itself within the bounds.
func (c column) narrowed(from, to, number int) (int, int) {
	i, there := slices.BinarySearch(c[from:to], number)
	if !there {
		return 0, 0
	}
	return from + i, from + i + 1
}

// walk hands out the sentences that have the numbers wanted, rising.
func (t tree) walk(want numbers) iter.Seq[numbers] {
	return func(yield func(numbers) bool) {
		for s := range t.subjects.places(0, len(t.subjects), want.s) {
			from, to := t.verbs.below(s)
			for p := range t.verbs.places(from, to, want.p) {
				from, to := t.objects.below(p)
				for o := range t.objects.places(from, to, want.o) {
					if !yield(numbers{t.subjects[s], t.verbs.column[p], t.objects.column[o]}) {
						return
					}
				}
			}
		}
	}
}
