package turtle

import (
	"slices"
	"strings"

	"trine/api"
	"trine/fault"
	"trine/limits"
	"trine/scan"
	"trine/term"
)

// unprintable is why the set is not to be printed with these names.
func unprintable(set []api.Triple, names []api.Name) error {
	if len(names) > limits.MaxNames {
		return fault.New(api.ErrMany)
	}
	for i, n := range names {
		if !isName(n) || hasShort(names[:i], n.Short) {
			return fault.At(i, fault.New(api.ErrName))
		}
	}
	for i, t := range set {
		if isMade(t.S) || isMade(t.O) {
			return fault.At(i, fault.New(api.ErrLabel))
		}
	}
	return nil
}

// isName tells whether the name may be given. Its Long is no term of the set, so it may be longer than one.
func isName(n api.Name) bool {
	return (n.Short == "" || isRow(n.Short)) && scan.IsWhole(n.Long, (*scan.Reader).IRI)
}

func hasShort(names []api.Name, short string) bool {
	return slices.ContainsFunc(names, func(n api.Name) bool { return n.Short == short })
}

// printer writes a text for people.
type printer struct {
	strings.Builder
	names []api.Name
}

func (p *printer) put(parts ...string) {
	for _, s := range parts {
		p.WriteString(s)
	}
}

func (p *printer) prefixes() {
	for _, n := range p.names {
		p.put("@prefix ", n.Short, ": ", n.Long, " .\n")
	}
}

// sentences writes of each sentence what it has not in common with the one ahead of it.
func (p *printer) sentences(set []api.Triple) {
	var ahead api.Triple
	for i, t := range set {
		switch {
		case i == 0:
			p.put(p.term(t.S), " ", p.verb(t.P), " ")
		case t.S != ahead.S:
			p.put(" .\n", p.term(t.S), " ", p.verb(t.P), " ")
		case t.P != ahead.P:
			p.put(" ;\n\t", p.verb(t.P), " ")
		default:
			p.put(" , ")
		}
		p.put(p.term(t.O))
		ahead = t
	}
	if len(set) > 0 {
		p.put(" .\n")
	}
}

func (p *printer) verb(form string) string {
	if form == typeIRI {
		return typeRow
	}
	return p.iri(form)
}

func (p *printer) term(form string) string {
	switch scan.Kind(term.Kind(form)) {
	case scan.IRI:
		return p.iri(form)
	case scan.Literal:
		return p.literal(form)
	}
	return form
}

// iri is the iri as a named one, if a name fits; the longest one that does leaves the least to be written.
func (p *printer) iri(form string) string {
	text, longest := form, 0
	for _, n := range p.names {
		rest, ok := restBehind(n.Long, form)
		if ok && len(n.Long) > longest {
			text, longest = n.Short+":"+rest, len(n.Long)
		}
	}
	return text
}

// restBehind is what a named one has behind its ":", if its row has the iri long and it is to be the iri form.
func restBehind(long, form string) (string, bool) {
	rest, ok := strings.CutPrefix(strings.TrimSuffix(form, ">"), strings.TrimSuffix(long, ">"))
	return rest, ok && isRest(rest)
}

func (p *printer) literal(form string) string {
	text, _, kind, _ := term.Parts(form)
	switch kind {
	case "":
		return form
	case wholeKind:
		return shortest(text, form, isNumber)
	case truthKind:
		return shortest(text, form, isTruth)
	}
	return strings.TrimSuffix(form, kind) + p.iri(kind)
}

// shortest is the text alone, if that says the kind of the literal too.
func shortest(text, form string, saysKind func(string) bool) string {
	if saysKind(text) {
		return text
	}
	return form
}
