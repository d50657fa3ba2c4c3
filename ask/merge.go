package ask

import (
	"container/heap"
	"iter"
	"slices"
)

// pile is a heap of runs, none empty: on top lies the one that begins with the least row.
type pile []run

func (p pile) Len() int           { return len(p) }
func (p pile) Less(i, j int) bool { return slices.Compare(p[i][0], p[j][0]) < 0 }
func (p pile) Swap(i, j int)      { p[i], p[j] = p[j], p[i] }

// Push is for package heap, which calls it with a run.
func (p *pile) Push(r any) { *p = append(*p, r.(run)) }

// Pop is for package heap.
func (p *pile) Pop() any {
	last := len(*p) - 1
	r := (*p)[last]
	*p = (*p)[:last]
	return r
}

// take takes the least row off.
func (p *pile) take() []string {
	top := (*p)[0]
	if len(top) == 1 {
		heap.Pop(p)
	} else {
		(*p)[0] = top[1:]
		heap.Fix(p, 0)
	}
	return top[0]
}

// rising takes all rows off in order; one that the runs have several times comes as often.
func (p *pile) rising() iter.Seq[[]string] {
	return func(yield func([]string) bool) {
		for p.Len() > 0 {
			if !yield(p.take()) {
				return
			}
		}
	}
}

// merge is the rows of all runs, rising, each once.
func merge(runs []run) [][]string {
	var p pile
	for _, r := range runs {
		if len(r) > 0 {
			heap.Push(&p, r)
		}
	}
	var rows [][]string
	for row := range p.rising() {
		if len(rows) == 0 || !slices.Equal(rows[len(rows)-1], row) {
			rows = append(rows, row)
		}
	}
	return rows
}
