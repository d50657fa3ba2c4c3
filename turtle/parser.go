package turtle

import (
	"strconv"
	"strings"

	"trine/api"
	"trine/limits"
	"trine/scan"
)

// parser goes over the signs of a text by its grammar, and keeps what is said.
type parser struct {
	reader
	names map[string]api.Name // by what is short of them
	depth int                 // open brackets
	made  int                 // blanks that the text does not label itself
	said  []api.Triple
}

// over is a parser that looks at the first sign of text.
func over(text string) *parser {
	p := &parser{names: make(map[string]api.Name)}
	p.Reader = scan.Over(text)
	p.step()
	return p
}

func (p *parser) text() {
	for {
		switch p.now.(type) {
		case endSign:
			return
		case prefixSign:
			p.step()
			p.prefix()
		default:
			p.list(p.subject())
		}
		p.want('.')
	}
}

// prefix reads what stands behind an "@prefix".
func (p *parser) prefix() {
	short, ok := p.now.(namedSign)
	if !ok || short.rest != "" {
		refuse(p.now)
	}
	p.step()
	long, ok := p.now.(iriSign)
	if !ok {
		refuse(p.now)
	}
	p.step()
	p.names[short.row] = api.Name{Short: short.row, Long: bounded(long, long.form)}
}

// list reads what is said of the subject.
func (p *parser) list(subject string) {
	p.objects(subject, p.verb())
	for p.take(';') {
		if !p.sees(";.]") {
			p.objects(subject, p.verb())
		}
	}
}

func (p *parser) objects(subject, verb string) {
	p.say(subject, verb, p.object())
	for p.take(',') {
		p.say(subject, verb, p.object())
	}
}

func (p *parser) verb() string {
	if s, ok := p.now.(rowSign); ok && s.text == typeRow {
		p.step()
		return typeIRI
	}
	return p.resource()
}

// object reads what may be a subject too, or a literal.
func (p *parser) object() string {
	switch s := p.now.(type) {
	case stringSign:
		return p.literal(s)
	case numberSign:
		p.step()
		return bounded(s, scan.Parts{Text: s.text, Kind: wholeKind}.Form())
	case rowSign:
		if isTruth(s.text) {
			p.step()
			return scan.Parts{Text: s.text, Kind: truthKind}.Form()
		}
	}
	return p.subject()
}

func (p *parser) subject() string {
	switch s := p.now.(type) {
	case blankSign:
		p.step()
		return labelled(s)
	case singleSign:
		switch s.char {
		case '[':
			return p.nested(p.inBrackets)
		case '(':
			return p.nested(p.inRound)
		}
	}
	return p.resource()
}

// nested reads what an opening bracket begins; inner reads what stands behind the bracket.
func (p *parser) nested(inner func() string) string {
	if p.depth == limits.MaxNest {
		scan.Refuse(api.ErrNest, p.now.start())
	}
	p.depth++
	p.step()
	form := inner()
	p.depth--
	return form
}

func (p *parser) inBrackets() string {
	node := p.newBlank()
	if !p.sees("]") {
		p.list(node)
	}
	p.want(']')
	return node
}

func (p *parser) inRound() string {
	var nodes []string
	for !p.take(')') {
		node := p.newBlank()
		p.say(node, firstIRI, p.object())
		nodes = append(nodes, node)
	}
	nodes = append(nodes, nilIRI)
	for i, next := range nodes[1:] {
		p.say(nodes[i], restIRI, next)
	}
	return nodes[0]
}

// literal reads what stands behind its string, since only then is its form known.
func (p *parser) literal(s stringSign) string {
	parts := scan.Parts{Text: s.text}
	p.step()
	switch behind := p.now.(type) {
	case languageSign:
		p.step()
		parts.Language = behind.tag
	case kindSign:
		p.step()
		parts.Kind = p.iri()
	}
	return bounded(s, parts.Form())
}

// resource reads an iri that is a term of its own.
func (p *parser) resource() string {
	s := p.now
	return bounded(s, p.iri())
}

// iri reads an iri, or a named one.
func (p *parser) iri() string {
	form := ""
	switch s := p.now.(type) {
	case iriSign:
		form = s.form
	case namedSign:
		form = p.meant(s)
	default:
		refuse(s)
	}
	p.step()
	return form
}

// meant is the iri that a named one stands for.
func (p *parser) meant(s namedSign) string {
	name, ok := p.names[s.row]
	if !ok {
		scan.Refuse(api.ErrName, s.start())
	}
	return strings.TrimSuffix(name.Long, ">") + s.rest + ">"
}

// labelled is a blank that the text labels itself: by none of the labels that it is not to use.
func labelled(s blankSign) string {
	if isMade(s.form) {
		scan.Refuse(api.ErrLabel, s.start())
	}
	return s.form
}

// bounded is the form of the term that begins with the sign, unless it is too long.
func bounded(s sign, form string) string {
	if len(form) > limits.MaxTerm {
		scan.Refuse(api.ErrTerm, s.start())
	}
	return form
}

func (p *parser) newBlank() string {
	p.made++
	return madeLabel + strconv.Itoa(p.made)
}

func (p *parser) say(subject, verb, object string) {
	p.said = append(p.said, api.Triple{S: subject, P: verb, O: object})
}

// sees tells whether the sign is one of these single ones.
func (p *parser) sees(chars string) bool {
	s, ok := p.now.(singleSign)
	return ok && strings.IndexByte(chars, s.char) >= 0
}

// take goes on, if the sign is that single one.
func (p *parser) take(char byte) bool {
	s, ok := p.now.(singleSign)
	if !ok || s.char != char {
		return false
	}
	p.step()
	return true
}

// want goes on, if the sign is that single one, or gives up.
func (p *parser) want(char byte) {
	if !p.take(char) {
		refuse(p.now)
	}
}
