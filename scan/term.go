package scan

import "strings"

// Kind is what a term is.
type Kind int

// The document numbers them so.
const (
	NoTerm Kind = iota
	IRI
	Blank
	Literal
)

const (
	maxLabel = 20 // letters and digits of a blank
	maxPart  = 8  // those of a part of a language
)

// plainKind is what a literal without a language is of, if no kind is written.
const plainKind = "<http://www.w3.org/2001/XMLSchema#string>"

// Term is a term that has been read: its kind and its one form.
type Term struct {
	Kind Kind
	Form string
}

// AnyTerm reads a term, as far as it goes.
func (r *Reader) AnyTerm() Term { return r.TermOf(IRI, Blank, Literal) }

// TermOf reads a term of one of the kinds, as far as it goes. One of another kind is met at its first byte.
func (r *Reader) TermOf(kinds ...Kind) Term {
	for _, k := range kinds {
		first, read := k.begun()
		if r.Sees(first) {
			return Term{k, read(r)}
		}
	}
	r.refuse()
	return Term{}
}

// begun is the byte with which a term of the kind begins, and what reads one into its one form.
func (k Kind) begun() (byte, func(*Reader) string) {
	switch k {
	case IRI:
		return '<', (*Reader).IRI
	case Blank:
		return '_', (*Reader).Blank
	}
	return '"', (*Reader).literal
}

// IRI reads an iri into its one form.
func (r *Reader) IRI() string {
	inScheme := Either(Letter, Digit, OneOf("+-."))
	inIRI := not(Either(control, OneOf("<>\"{}|^`\\")))
	since := r.mark()
	r.Want('<')
	r.wants(Letter)
	for !r.Take(':') {
		r.wants(inScheme)
	}
	var out strings.Builder
	out.WriteString(since())
	for !r.Take('>') {
		if r.Sees('\\') {
			out.WriteRune(r.escape(inIRI, ""))
		} else {
			out.WriteRune(r.wants(inIRI))
		}
	}
	out.WriteByte('>')
	return out.String()
}

// Blank reads a blank.
func (r *Reader) Blank() string {
	since := r.mark()
	r.Want('_')
	r.Want(':')
	r.some(Either(Letter, Digit), maxLabel)
	return since()
}

// Quoted reads what stands between two '"', and answers the characters meant.
func (r *Reader) Quoted() string {
	plain := not(OneOf("\n\r\"\\"))
	var out strings.Builder
	r.Want('"')
	for !r.Take('"') {
		if r.Sees('\\') {
			out.WriteRune(r.escape(all, shortSigns))
		} else {
			out.WriteRune(r.wants(plain))
		}
	}
	return out.String()
}

// Language reads a language.
func (r *Reader) Language() string {
	since := r.mark()
	r.some(Letter, maxPart)
	for r.Take('-') {
		r.some(Either(Letter, Digit), maxPart)
	}
	return since()
}

// Parts is what a literal is made of; Language and Kind are empty, if there is none.
type Parts struct{ Text, Language, Kind string }

// Parts reads a literal.
func (r *Reader) Parts() Parts {
	p := Parts{Text: r.Quoted()}
	switch {
	case r.Take('@'):
		p.Language = r.Language()
	case r.Take('^'):
		r.Want('^')
		p.Kind = r.IRI()
	}
	return p
}

// literal reads a literal into its one form.
func (r *Reader) literal() string { return r.Parts().Form() }

// Form is the one form of the literal of these parts.
func (p Parts) Form() string {
	form := `"` + escaped(p.Text) + `"`
	switch {
	case p.Language != "":
		return form + "@" + strings.ToLower(p.Language)
	case p.Kind != "" && p.Kind != plainKind:
		return form + "^^" + p.Kind
	}
	return form
}
