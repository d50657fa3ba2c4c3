package turtle

import (
	"fmt"
	"maps"
	"math/rand"
	"regexp"
	"slices"
	"strings"
	"testing"

	"trine/api"
	"trine/term"
)

// A second reading of the chapter: signs by regexps, the grammar as a table, which is gone through with a stack.

type modelSign struct {
	class  byte // a letter of the table
	text   string
	start  int
	broken int // where, if the class is '!'
}

var (
	gapExp      = regexp.MustCompile(`^(?:[ \t\n\r]|#[^\n]*(?:\n|$))*`)
	iriExp      = regexp.MustCompile(`^<[^>]*(?:>|$)`)
	stringExp   = regexp.MustCompile(`(?s)^"(?:[^"\\]|\\.)*(?:"|\\?$)`)
	blankExp    = regexp.MustCompile(`^_:[A-Za-z0-9]{1,20}`)
	prefixExp   = regexp.MustCompile(`^@prefix(?:[^A-Za-z0-9-]|$)`)
	languageExp = regexp.MustCompile(`^@[A-Za-z]{1,8}(?:-[A-Za-z0-9]{1,8})*`)
	numberExp   = regexp.MustCompile(`^-?[0-9]+`)
	namedExp    = regexp.MustCompile(`^(?:[A-Za-z][A-Za-z0-9]*)?:[A-Za-z0-9_-]*`)
	rowExp      = regexp.MustCompile(`^[A-Za-z][A-Za-z0-9]*`)
)

// nextSign is the sign at the beginning of rest, its places from there on.
func nextSign(rest string, behindString bool) modelSign {
	sign := func(class byte, text string) modelSign { return modelSign{class: class, text: text} }
	broken := func(place int) modelSign { return modelSign{class: '!', broken: place} }
	readable := func(class byte, text string) modelSign { // T1 tells where an iri or a string breaks
		if _, number, place := term.Read(text); number == api.ErrText {
			return broken(place)
		}
		return sign(class, text)
	}
	matched := func(e *regexp.Regexp) bool { return e.MatchString(rest) }
	switch {
	case rest == "":
		return sign('$', "")
	case strings.IndexByte(".;,[]()", rest[0]) >= 0:
		return sign(rest[0], rest[:1])
	case rest[0] == '<':
		return readable('i', iriExp.FindString(rest))
	case rest[0] == '"':
		return readable('q', stringExp.FindString(rest))
	case matched(blankExp):
		return sign('b', blankExp.FindString(rest))
	case strings.HasPrefix(rest, "_:"):
		return broken(2)
	case rest[0] == '_' || rest[0] == '^' && !strings.HasPrefix(rest, "^^"):
		return broken(1)
	case rest[0] == '^':
		return sign('^', "^^")
	case !behindString && matched(prefixExp):
		return sign('@', "@prefix")
	case matched(languageExp):
		tag := languageExp.FindString(rest)
		if strings.HasPrefix(rest[len(tag):], "-") {
			return broken(len(tag) + 1)
		}
		return sign('l', tag)
	case matched(numberExp):
		return sign('#', numberExp.FindString(rest))
	case rest[0] == '-':
		return broken(1)
	case matched(namedExp):
		row, behind, _ := strings.Cut(namedExp.FindString(rest), ":")
		switch {
		case len(row) > 20 || len(behind) > 20:
			return broken(0)
		case behind == "":
			return sign('s', row+":")
		}
		return sign('n', row+":"+behind)
	case matched(rowExp):
		switch row := rowExp.FindString(rest); {
		case row == "a":
			return sign('a', row)
		case row == "true" || row == "false":
			return sign('t', row)
		default:
			return sign('x', row)
		}
	}
	return broken(0)
}

func modelSigns(text string) []modelSign {
	var out []modelSign
	for at, behindString := 0, false; ; {
		gap := len(gapExp.FindString(text[at:]))
		s := nextSign(text[at+gap:], behindString && gap == 0)
		s.start, s.broken = at+gap, at+gap+s.broken
		out = append(out, s)
		if s.class == '$' || s.class == '!' {
			return out
		}
		at, behindString = s.start+len(s.text), s.class == 'q'
	}
}

// The grammar: of a large letter, by the sign that is next, what takes its place ("" as a sign: any other one). The small letter p is a sign s, and j a sign i, of an "@prefix"; d is a sign i, n or s that is a kind; "=" looks at the literal that has been read.
var grammar = map[byte]map[string]string{
	'T': {"@": "@pj.T", "insb[(": "SL.T", "$": ""},
	'S': {"i": "i", "n": "n", "s": "s", "b": "b", "[": "[B]", "(": "(C)"},
	'L': {"insa": "VOMR"},
	'M': {",": ",OM", "": ""},
	'R': {";": ";ZR", "": ""},
	'Z': {"insa": "VOM", "": ""},
	'V': {"i": "i", "n": "n", "s": "s", "a": "a"},
	'O': {"insb[(": "S", "q": "qK=", "#": "#", "t": "t"},
	'K': {"l": "l", "^": "^d", "": ""},
	'B': {"insa": "L", "": ""},
	'C': {"insb[(q#t": "OC", "": ""},
}

func production(symbol, class byte) (string, bool) {
	for classes, out := range grammar[symbol] {
		if strings.IndexByte(classes, class) >= 0 {
			return out, true
		}
	}
	out, ok := grammar[symbol][""]
	return out, ok
}

// accepts tells whether a sign of the class is what the small letter asks for.
func accepts(symbol, class byte) bool {
	switch symbol {
	case 'p':
		return class == 's'
	case 'j':
		return class == 'i'
	case 'd':
		return strings.IndexByte("ins", class) >= 0
	}
	return class == symbol
}

type model struct {
	names   map[string]string
	short   string
	literal string // as lines would have it
	begun   int
	depth   int
}

// modelParse is the error of the text, but for ErrLong and ErrMany.
func modelParse(text string) (api.Errno, int) {
	m := model{names: map[string]string{}}
	stack := []byte("T")
	for signs := modelSigns(text); len(stack) > 0; {
		s, top := signs[0], stack[len(stack)-1]
		stack = stack[:len(stack)-1]
		number, place := api.OK, s.start
		switch out, ok := production(top, s.class); {
		case ok:
			add := []byte(out)
			slices.Reverse(add)
			stack = append(stack, add...)
		case top == '=':
			_, number, _ = term.Read(m.literal)
			place = m.begun
		case accepts(top, s.class):
			number = m.look(top, s)
			signs = signs[1:]
		case s.class == '!':
			number, place = api.ErrText, s.broken
		default:
			number = api.ErrText
		}
		if number != api.OK {
			return number, place
		}
	}
	return api.OK, 0
}

// look does what the sign says where that symbol stands.
func (m *model) look(symbol byte, s modelSign) api.Errno {
	form, ok := s.text, true
	if symbol != 'p' && (s.class == 'n' || s.class == 's') {
		form, ok = m.named(s.text)
	}
	if !ok {
		return api.ErrName
	}
	number := api.OK
	switch symbol {
	case 'p':
		m.short = s.text
	case 'j':
		m.names[m.short], number, _ = term.Read(form)
	case 'i', 'n', 's':
		_, number, _ = term.Read(form)
	case '#':
		_, number, _ = term.Read(whole(form))
	case 'q':
		m.literal, m.begun = form, s.start
	case 'l':
		m.literal += form
	case 'd':
		m.literal += "^^" + form
	case 'b':
		if regexp.MustCompile(`^_:n[0-9]+$`).MatchString(form) {
			number = api.ErrLabel
		}
	case '[', '(':
		if m.depth++; m.depth > 8 {
			number = api.ErrNest
		}
	case ']', ')':
		m.depth--
	}
	return number
}

func (m *model) named(text string) (string, bool) {
	row, rest, _ := strings.Cut(text, ":")
	long, ok := m.names[row+":"]
	return strings.TrimSuffix(long, ">") + rest + ">", ok
}

// author writes texts, and knows what they say.
type author struct {
	*rand.Rand
	text  strings.Builder
	names map[string]string
	said  []string
	made  int
	depth int
}

func (a *author) one(of ...string) string { return of[a.Intn(len(of))] }

// put writes a sign, and perhaps a gap ahead of it.
func (a *author) put(sign string) {
	a.text.WriteString(a.one("", " ", "\t", "\n", "\r\n ", "# a . \" <\n", " #\n#\xff\n"))
	a.text.WriteString(sign)
}

// apart writes a sign that would go on with the one ahead of it, were there no gap.
func (a *author) apart(sign string) {
	a.text.WriteString(" ")
	a.put(sign)
}

func (a *author) say(s, p, o string) { a.said = append(a.said, s+"|"+p+"|"+o) }

func (a *author) blank() string {
	a.made++
	return fmt.Sprintf("_:n%d", a.made)
}

func (a *author) name() {
	a.put("@prefix")
	short := a.one("p", "", "q1", "a", "true")
	long := a.one("<a:>", "<a:b>", "<c:/d#>", `<a:\u0065>`)
	a.apart(short + ":")
	a.put(long)
	a.put(".")
	a.names[short], _, _ = term.Read(long)
}

func (a *author) iri() string {
	for _, short := range slices.Sorted(maps.Keys(a.names)) {
		if long := a.names[short]; a.Intn(3) == 0 {
			rest := a.one("", "x", "-", "_1", "a-b", x(20))
			a.apart(short + ":" + rest)
			return strings.TrimSuffix(long, ">") + rest + ">"
		}
	}
	a.put(a.one("<a:s>", "<a:b>", `<a:\u0062>`))
	text := a.text.String()
	form, _, _ := term.Read(text[strings.LastIndex(text, "<"):])
	return form
}

func (a *author) verb() string {
	if a.Intn(3) == 0 {
		a.apart("a")
		return isOf
	}
	return a.iri()
}

func (a *author) subject() string {
	switch n := a.Intn(6); {
	case n == 0:
		label := a.one("_:b", "_:n", "_:n1a", "_:"+x(20))
		a.apart(label)
		return label
	case n < 4 || a.depth == 8:
		return a.iri()
	case n == 4:
		return a.brackets()
	}
	return a.round()
}

func (a *author) brackets() string {
	a.put("[")
	a.depth++
	node := a.blank()
	if a.Intn(3) > 0 {
		a.list(node)
	}
	a.depth--
	a.put("]")
	return node
}

func (a *author) round() string {
	a.put("(")
	a.depth++
	var nodes []string
	for range a.Intn(4) {
		nodes = append(nodes, a.blank())
		a.say(nodes[len(nodes)-1], firstIRI, a.object())
	}
	nodes = append(nodes, nilIRI)
	for i := range len(nodes) - 1 {
		a.say(nodes[i], restIRI, nodes[i+1])
	}
	a.depth--
	a.put(")")
	return nodes[0]
}

func (a *author) object() string {
	switch a.Intn(6) {
	case 0:
		text := a.one("0", "-12", "007")
		a.apart(text)
		return whole(text)
	case 1:
		text := a.one("true", "false")
		a.apart(text)
		return truth(text)
	case 2:
		text := a.one(`"x"`, `""`, `"\u0041\n#"`, `"é . \" ;"`)
		form, _, _ := term.Read(text)
		a.put(text)
		switch a.Intn(3) {
		case 0:
			tag := a.one("@en", "@EN-gb", "@abcdefgh-12345678")
			a.put(tag)
			return form + strings.ToLower(tag)
		case 1:
			a.put("^^")
			return form + "^^" + a.iri()
		}
		a.text.WriteString(" ")
		return form
	}
	return a.subject()
}

func (a *author) list(subject string) {
	for n := a.Intn(3); n >= 0; n-- {
		verb := a.verb()
		a.say(subject, verb, a.object())
		for range a.Intn(3) {
			a.put(",")
			a.say(subject, verb, a.object())
		}
		for range a.Intn(2) * a.Intn(3) {
			a.put(";")
		}
		if n > 0 {
			a.put(";")
		}
	}
}

// written is a text of some 1 to 5 parts, and the set that it says.
func written(r *rand.Rand) (string, string) {
	a := author{Rand: r, names: map[string]string{}}
	for range 1 + r.Intn(5) {
		if r.Intn(3) == 0 {
			a.name()
		} else {
			a.list(a.subject())
			a.put(".")
		}
	}
	a.put("")
	var out []string
	for _, s := range a.said {
		out = append(out, strings.ReplaceAll(s, "|", "\x00")) // 0 is below all that an iri or a blank has
	}
	slices.Sort(out)
	return a.text.String(), strings.ReplaceAll(strings.Join(slices.Compact(out), "\n"), "\x00", "|")
}

func TestU1WhatAnAuthorWrites(t *testing.T) {
	r := rand.New(rand.NewSource(9))
	sentences := 0
	for range 1500 {
		text, want := written(r)
		if len(text) > 20000 || strings.Count(want, "\n") >= 300 {
			continue
		}
		list, number, place := Parse(text)
		if told(list) != want || number != api.OK || place != 0 {
			t.Fatalf("Parse(%q) = %q, %d, %d, want %q", text, told(list), number, place, want)
		}
		sentences += len(list)
	}
	if sentences < 5000 {
		t.Errorf("the texts say little: %d sentences", sentences)
	}
}

// damaged is the text with some pieces put in, taken out or cut off.
func damaged(r *rand.Rand, text string) string {
	pieces := []string{".", ";", ",", "[", "]", "(", ")", "[", "(", "@prefix ", "@", "@en", "-", ":", "p:", "^^", "^", "a", "true", "_:n1", "_:", "\"", "\"x\"", "<", ">", "<a:b>", "<a:" + x(197) + ">", x(20), "5", "#", "\n", " ", "é", "\xff", "\\", "((((((((", "(((((((([", "[a[a[a[a[a[a[a[a[a", "]]", "?", strings.Repeat("7", 155), `"` + x(199) + `"`, `"` + x(196) + `"@en `, `"` + x(193) + `"^^`}
	for range r.Intn(4) {
		at := r.Intn(len(text) + 1)
		text = text[:at] + pieces[r.Intn(len(pieces))] + text[min(at+r.Intn(3), len(text)):]
	}
	if r.Intn(4) == 0 {
		text = text[:r.Intn(len(text)+1)]
	}
	return text
}

func TestU1AgainstTheModel(t *testing.T) {
	r := rand.New(rand.NewSource(10))
	met := map[api.Errno]int{}
	for range 20000 {
		text, _ := written(r)
		text = damaged(r, text[:min(len(text), 600)])
		want, at := modelParse(text)
		list, number, place := Parse(text)
		if number == api.ErrMany && want == api.OK {
			continue
		}
		if number != want || place != at || number != api.OK && len(list) != 0 {
			t.Fatalf("Parse(%q) = %.90q, %d, %d, want %d at %d", text, told(list), number, place, want, at)
		}
		met[number]++
	}
	for _, number := range []api.Errno{api.OK, api.ErrText, api.ErrName, api.ErrLabel, api.ErrNest, api.ErrTerm} {
		if met[number] < 50 {
			t.Errorf("error %d was met %d times: %v", number, met[number], met)
		}
	}
}

// A text cut off anywhere is refused within it or at its end, and never with what only its rest says.
func TestU1TextsCutOff(t *testing.T) {
	text := "@prefix p: <a:> .\np:s a p:o , \"é\\u0041\"@en-gb , \"x\"^^p:k , -12 , true ;\n\t<a:v> [ a (1 _:b) ] . # end"
	for n := range len(text) {
		want, at := modelParse(text[:n])
		_, number, place := Parse(text[:n])
		if number != want || place != at || place > n {
			t.Errorf("Parse(%q) = %d, %d, want %d, %d", text[:n], number, place, want, at)
		}
	}
}
