package lines

import (
	"trine/api"
	"trine/limits"
	"trine/scan"
)

// reader reads a text of lines, and keeps the sentences found.
type reader struct {
	scan.Reader
	found []api.Triple
}

func (r *reader) lines() {
	r.line()
	for r.Take('\n') {
		r.line()
	}
	r.WantEnd()
}

func (r *reader) line() {
	r.blanks()
	if !r.lineEnded() && !r.Sees('#') {
		r.sentence()
		r.blanks()
	}
	r.comment()
}

func (r *reader) sentence() {
	s := r.term(scan.IRI, scan.Blank)
	r.blanks()
	p := r.term(scan.IRI)
	r.blanks()
	o := r.term(scan.IRI, scan.Blank, scan.Literal)
	r.blanks()
	r.Want('.')
	r.found = append(r.found, api.Triple{S: s, P: p, O: o})
}

// term reads a term of one of the kinds into its one form.
func (r *reader) term(kinds ...scan.Kind) string {
	start := r.Place()
	form := r.TermOf(kinds...).Form
	if len(form) > limits.MaxTerm {
		scan.Refuse(api.ErrTerm, start)
	}
	return form
}

func (r *reader) blanks() {
	for r.Take(' ') || r.Take('\t') {
	}
}

func (r *reader) comment() {
	if r.Sees('#') {
		r.SkipLine()
	}
}

func (r *reader) lineEnded() bool { return r.Ended() || r.Sees('\n') }
