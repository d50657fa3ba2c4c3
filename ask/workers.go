package ask

import (
	"slices"
	"sync"

	"trine/api"
	"trine/box"
	"trine/fault"
	"trine/limits"
)

// workers is how many look for answers at the same time.
const workers = 4

// findings is what the workers find together.
type findings struct {
	lock  sync.Mutex
	count int   // answers; above MaxAnswers it says no more than that
	runs  []run // a run from each worker, in any order
}

// run is rows in order; it may have one several times.
type run [][]string

// find is all that there is to be found for the patterns.
func find(b *box.Box, patterns []api.Triple, pick []string) (*findings, error) {
	if err := check(b, patterns, pick); err != nil {
		return nil, err
	}
	q := questionOf(b, patterns)
	q.narrow()
	var found findings
	var all sync.WaitGroup
	for _, share := range q.shares(workers) {
		all.Go(func() { found.take(found.look(share, pick)) })
	}
	all.Wait()
	if found.count > limits.MaxAnswers {
		return nil, fault.New(api.ErrMany)
	}
	return &found, nil
}

// look is the rows of the question's answers, as far as there are not too many.
func (f *findings) look(q question, pick []string) run {
	var rows run
	for answer := range q.answers() {
		if !f.add() {
			break
		}
		rows = append(rows, answer.row(pick))
	}
	slices.SortFunc(rows, slices.Compare)
	return rows
}

// add counts an answer, and tells whether there are not too many yet.
func (f *findings) add() bool {
	f.lock.Lock()
	defer f.lock.Unlock()
	f.count++
	return f.count <= limits.MaxAnswers
}

// take keeps a run.
func (f *findings) take(r run) {
	f.lock.Lock()
	defer f.lock.Unlock()
	f.runs = append(f.runs, r)
}
