package turtle

import (
	"fmt"
	"slices"
	"strings"
	"sync"
	"testing"

	"trine/api"
)

const (
	rdf = "http://www.w3.org/1999/02/22-rdf-syntax-ns#"
	xsd = "http://www.w3.org/2001/XMLSchema#"

	isOf = "<" + rdf + "type>"
	said = "<a:s> <a:v> <a:o> ."
)

func x(n int) string { return strings.Repeat("x", n) }

func whole(text string) string { return `"` + text + `"^^<` + xsd + `integer>` }

func truth(text string) string { return `"` + text + `"^^<` + xsd + `boolean>` }

// told is the sentences as a text in which no two lists are the same.
func told(list []api.Triple) string {
	var out []string
	for _, t := range list {
		out = append(out, t.S+"|"+t.P+"|"+t.O)
	}
	return strings.Join(out, "\n")
}

// sorted is the sentences (each `s|p|o`, in which a shorter S or P is no beginning of another one) as told tells their set.
func sorted(sentences ...string) string {
	slices.Sort(sentences)
	return strings.Join(slices.Compact(sentences), "\n")
}

func parses(t *testing.T, text, want string) {
	t.Helper()
	list, number, place := Parse(text)
	if told(list) != want || number != api.OK || place != 0 {
		t.Errorf("Parse(%.90q) = %.300q, %d, %d, want %.300q", text, told(list), number, place, want)
	}
}

func refuses(t *testing.T, text string, number api.Errno, place int) {
	t.Helper()
	list, n, p := Parse(text)
	if len(list) != 0 || n != number || p != place {
		t.Errorf("Parse(%.90q) = %.90q, %d, %d, want %d at %d", text, told(list), n, p, number, place)
	}
}

func TestU1TextsWithoutSentences(t *testing.T) {
	for _, text := range []string{
		"", " ", " \t\r\n", "#", "# <a:s> \xff\x00\r", "#\n#\n\t#", "@prefix p: <a:> .", "@prefix:<a:>.", "@prefix p:<a:>.@prefix p:<b:>.#",
		"@prefix#\np:#:\n<a:>#.\n.", "@prefix " + x(20) + ":<a:" + x(196) + "> .", strings.Repeat(" ", 20000),
	} {
		parses(t, text, "")
	}
}

func TestU1Signs(t *testing.T) {
	for _, c := range []struct{ text, want string }{
		{said, "<a:s>|<a:v>|<a:o>"},
		{"<a:s><a:v><a:o>.", "<a:s>|<a:v>|<a:o>"},
		{"#x\n\r<a:s>#\n\t<a:v>#.\n#\n<a:o>#;\n.# end", "<a:s>|<a:v>|<a:o>"},
		{`<a:\u0073> <a:\U00000076> <a:o>.`, "<a:s>|<a:v>|<a:o>"},
		{"_:b a _:n, _:nx, _:n1x, _:N1, _:x1, _:1 .", sorted("_:b|"+isOf+"|_:n", "_:b|"+isOf+"|_:nx", "_:b|"+isOf+"|_:n1x", "_:b|"+isOf+"|_:N1", "_:b|"+isOf+"|_:x1", "_:b|"+isOf+"|_:1")},
		{"<a:s>a<a:o>.", "<a:s>|" + isOf + "|<a:o>"},
		{"<a:s>a 5.", "<a:s>|" + isOf + "|" + whole("5")},
		{"<a:s>a-5.", "<a:s>|" + isOf + "|" + whole("-5")},
		{"<a:s>a 5,-0,007,-12345678901234567890123.", sorted("<a:s>|"+isOf+"|"+whole("5"), "<a:s>|"+isOf+"|"+whole("-0"), "<a:s>|"+isOf+"|"+whole("007"), "<a:s>|"+isOf+"|"+whole("-12345678901234567890123"))},
		{"<a:s>a(5-5).", sorted("<a:s>|"+isOf+"|_:n1", "_:n1|"+firstIRI+"|"+whole("5"), "_:n1|"+restIRI+"|_:n2", "_:n2|"+firstIRI+"|"+whole("-5"), "_:n2|"+restIRI+"|"+nilIRI)},
		{"<a:s>a true,false.", sorted("<a:s>|"+isOf+"|"+truth("true"), "<a:s>|"+isOf+"|"+truth("false"))},
		{`<a:s>a"x","\u000a\t","".`, sorted("<a:s>|"+isOf+`|"x"`, "<a:s>|"+isOf+"|\"\\n\t\"", "<a:s>|"+isOf+`|""`)},
		{`<a:s>a"x"@EN-Gb1.`, "<a:s>|" + isOf + `|"x"@en-gb1`},
		{`<a:s>a"x"@prefix.`, "<a:s>|" + isOf + `|"x"@prefix`},
		{`<a:s>a"x"@prefix-1.`, "<a:s>|" + isOf + `|"x"@prefix-1`},
		{`<a:s>a"x" @en.`, "<a:s>|" + isOf + `|"x"@en`},
		{"<a:s>a\"x\"#\n@prefixes.", "<a:s>|" + isOf + `|"x"@prefixes`},
		{`<a:s>a"x" @prefix-a.`, "<a:s>|" + isOf + `|"x"@prefix-a`},
		{`<a:s>a"x"^^<a:k>.`, "<a:s>|" + isOf + `|"x"^^<a:k>`},
		{"<a:s>a\"x\" ^^#\n<a:k>.", "<a:s>|" + isOf + `|"x"^^<a:k>`},
		{`<a:s>a"x"^^<` + xsd + `string>.`, "<a:s>|" + isOf + `|"x"`},
		{`<a:s>a"5"^^<` + xsd + `integer>,5.`, "<a:s>|" + isOf + "|" + whole("5")},
		{"_:" + x(20) + "a 1.", "_:" + x(20) + "|" + isOf + "|" + whole("1")},
		{"@prefix p:<a:>._:" + x(20) + "p:x 1.", "_:" + x(20) + "|<a:x>|" + whole("1")},
	} {
		parses(t, c.text, c.want)
	}
}

func TestU1Names(t *testing.T) {
	for _, c := range []struct{ text, want string }{
		{"@prefix p:<a:>.p:s p:v p:o.", "<a:s>|<a:v>|<a:o>"},
		{"@prefix :<a:>.:s : :-_1.", "<a:s>|<a:>|<a:-_1>"},
		{"@prefix a:<a:>.a:a a a:a.", "<a:a>|" + isOf + "|<a:a>"},
		{"@prefix true:<a:x>.true:a true: true:.", "<a:xa>|<a:x>|<a:x>"},
		{"@prefix p1:<a:>.p1:s:v:o.", ""},
		{"@prefix p:<a:>.@prefix :<b:>.p:s:v:o.", "<a:s>|<b:v>|<b:o>"},
		{"@prefix p:<a:>.p:1 p:1 1.@prefix p:<b:>.p:1 p:1 1.", "<a:1>|<a:1>|" + whole("1") + "\n<b:1>|<b:1>|" + whole("1")},
		{"@prefix p:<a:>.p:s p:v \"x\"^^p:k,\"x\"^^ p:.", "<a:s>|<a:v>|\"x\"^^<a:>\n<a:s>|<a:v>|\"x\"^^<a:k>"},
		{"@prefix x:<" + xsd + ">.x: a \"x\"^^x:string.", "<" + xsd + ">|" + isOf + "|\"x\""},
		{"@prefix " + x(20) + ":<a:>." + x(20) + ":" + x(20) + " a 1.", "<a:" + x(20) + ">|" + isOf + "|" + whole("1")},
		{"@prefix P:<a:>.@prefix p:<b:>.P:s p:v 1.", "<a:s>|<b:v>|" + whole("1")},
	} {
		if c.want == "" {
			refuses(t, c.text, api.ErrName, strings.Index(c.text, ":v"))
		} else {
			parses(t, c.text, c.want)
		}
	}
}

func TestU1Lists(t *testing.T) {
	o := func(v, o string) string { return "<a:s>|<a:" + v + ">|<a:" + o + ">" }
	for _, c := range []struct{ text, want string }{
		{"<a:s> <a:v> <a:a>,<a:b> , <a:c>.", sorted(o("v", "a"), o("v", "b"), o("v", "c"))},
		{"<a:s> <a:v> <a:a>;<a:w> <a:b>,<a:c>.", sorted(o("v", "a"), o("w", "b"), o("w", "c"))},
		{"<a:s> <a:v> <a:a>;.", o("v", "a")},
		{"<a:s> <a:v> <a:a>;;;<a:w> <a:b>;;.", sorted(o("v", "a"), o("w", "b"))},
		{"<a:s> <a:v> <a:a>.<a:s> <a:w> <a:b>.<a:s> <a:v> <a:a>.", sorted(o("v", "a"), o("w", "b"))},
		{"<a:s> <a:v> <a:b>,<a:b>;<a:v> <a:b>.", o("v", "b")},
	} {
		parses(t, c.text, c.want)
	}
}

func TestU1Nodes(t *testing.T) {
	first, rest := func(n int, o string) string { return fmt.Sprintf("_:n%d|%s|%s", n, firstIRI, o) }, func(n, m int) string { return fmt.Sprintf("_:n%d|%s|_:n%d", n, restIRI, m) }
	last := func(n int) string { return fmt.Sprintf("_:n%d|%s|%s", n, restIRI, nilIRI) }
	for _, c := range []struct {
		text string
		want []string
	}{
		{"[]a[].", []string{"_:n1|" + isOf + "|_:n2"}},
		{"[a<a:o>;]a<a:p>.", []string{"_:n1|" + isOf + "|<a:o>", "_:n1|" + isOf + "|<a:p>"}},
		{"<a:s>a[a[a 1];<a:v>[]],[].", []string{"<a:s>|" + isOf + "|_:n1", "_:n1|" + isOf + "|_:n2", "_:n2|" + isOf + "|" + whole("1"), "_:n1|<a:v>|_:n3", "<a:s>|" + isOf + "|_:n4"}},
		{"()a().", []string{nilIRI + "|" + isOf + "|" + nilIRI}},
		{"( 1 ) a ( # )\n ) .", []string{first(1, whole("1")), last(1), "_:n1|" + isOf + "|" + nilIRI}},
		{"<a:s>a(1\"x\"@en<a:o>true).", []string{"<a:s>|" + isOf + "|_:n1", first(1, whole("1")), rest(1, 2), first(2, `"x"@en`), rest(2, 3), first(3, "<a:o>"), rest(3, 4), first(4, truth("true")), last(4)}},
		{"<a:s>a((1)()).", []string{"<a:s>|" + isOf + "|_:n1", first(1, "_:n2"), first(2, whole("1")), last(2), rest(1, 3), first(3, nilIRI), last(3)}},
		{"<a:s>a([a([])][]_:b).", []string{"<a:s>|" + isOf + "|_:n1", first(1, "_:n2"), "_:n2|" + isOf + "|_:n3", first(3, "_:n4"), last(3), rest(1, 5), first(5, "_:n6"), rest(5, 7), first(7, "_:b"), last(7)}},
		{"[]a 1.[]a 1.", []string{"_:n1|" + isOf + "|" + whole("1"), "_:n2|" + isOf + "|" + whole("1")}},
	} {
		parses(t, c.text, sorted(c.want...))
	}
	parses(t, "<a:s>a"+strings.Repeat("[a", 8)+" 1"+strings.Repeat("]", 8)+".", sorted("<a:s>|"+isOf+"|_:n1", "_:n1|"+isOf+"|_:n2", "_:n2|"+isOf+"|_:n3", "_:n3|"+isOf+"|_:n4", "_:n4|"+isOf+"|_:n5", "_:n5|"+isOf+"|_:n6", "_:n6|"+isOf+"|_:n7", "_:n7|"+isOf+"|_:n8", "_:n8|"+isOf+"|"+whole("1")))
}

// The bytes with which no sign goes on or begins.
func TestU1RefusesBytes(t *testing.T) {
	for _, c := range []struct {
		text  string
		place int
	}{
		{"?", 0}, {" é", 1}, {"\xff", 0}, {"\x00", 0}, {"\v", 0}, {said + "\u00a0", 19}, {said + "{", 19}, {"+5", 0}, {"=", 0}, {"'x'", 0}, {`\u0061`, 0},
		{"<", 1}, {"<a", 2}, {"<a:\xff>", 3}, {"<a: >", 3}, {`<a:\u0020>`, 3}, {"<a:s> <1", 7}, {"<a:s> <a:v> <a:o", 16},
		{"_", 1}, {"_a", 1}, {"_:", 2}, {"_:-", 2}, {"<a:s> _ ", 7},
		{`"`, 1}, {`"x`, 2}, {"\"\n\"", 1}, {`"\q"`, 2}, {`<a:s> a "x\uD800"`, 10}, {"<a:s> a \"\xc3", 9},
		{"@", 0}, {"@ prefix", 0}, {"@1", 0}, {"@-", 0}, {"@\xff", 0}, {"@@prefix", 0}, {`<a:s> a "x"@`, 11}, {`<a:s> a "x"@ en`, 11}, {`<a:s> a "x"@1`, 11}, {`<a:s> a "x" @`, 12},
		{"@en-", 4}, {"@prefix-", 8}, {`<a:s> a "x"@en-`, 15}, {`<a:s> a "x"@en-é`, 15}, {`<a:s> a "x"@en-gb--`, 18},
		{"^", 1}, {"^ ^", 1}, {`<a:s> a "x"^`, 12}, {`<a:s> a "x"^ ^<a:k>`, 12},
		{"-", 1}, {"-x", 1}, {"--1", 1}, {"<a:s> a -", 9}, {"<a:s> a - 1", 9},
		{x(21), 0}, {x(21) + ":", 0}, {":" + x(21), 0}, {x(20) + ":" + x(21), 0}, {" p:" + x(30), 1}, {"<a:s> " + x(21) + "\xff", 6},
		{"@prefix " + x(21) + ":<a:>.", 8}, {"@prefix p:<a:>.p:" + x(20) + "_ a 1.", 15}, {"<a:s> a a" + x(20) + " 1.", 8},
	} {
		refuses(t, c.text, api.ErrText, c.place)
	}
}

// The signs that may not stand there, and texts that end too early.
func TestU1RefusesSigns(t *testing.T) {
	for _, c := range []struct {
		text  string
		place int
	}{
		{".", 0}, {" ;", 1}, {",", 0}, {"]", 0}, {")", 0}, {`"x" a 1.`, 0}, {`"x\u0041"`, 0}, {"^^", 0}, {"@en", 0}, {"5 a 1.", 0}, {"a a 1.", 0}, {"true a 1.", 0}, {"x", 0},
		{"@prefix", 7}, {"@prefix # x", 11}, {"@prefix p", 8}, {"@prefix p : <a:>.", 8}, {"@prefix p:x", 8}, {"@prefix <a:>", 8}, {"@prefix _:p", 8}, {"@prefix .", 8}, {"@prefix @prefix", 8},
		{"@prefix p:", 10}, {"@prefix p: .", 11}, {"@prefix p: _:b", 11}, {`@prefix p: "x"`, 11}, {"@prefix p:<a:>", 14}, {"@prefix p:<a:>;", 14}, {"@prefix p:<a:> <a:s>", 15}, {"@prefix p:<a:>.@prefix q:p:.", 23}, {"@prefix p:<a:>.@prefix q: p:.", 26},
		{"@Prefix p:<a:>.", 0}, {"@prefixp:<a:>.", 0}, {"@prefix1 :<a:>.", 0}, {"@prefix-p:<a:>.", 0}, {"@prefixprefixprefix", 0}, {"@pref", 0}, {"prefix p:<a:>.", 0},
		{"<a:s>", 5}, {"<a:s> ", 6}, {"<a:s> #", 7}, {"<a:s> .", 6}, {"<a:s> _:b <a:o>.", 6}, {"<a:s> [] <a:o>.", 6}, {"<a:s> () <a:o>.", 6}, {"<a:s> 5 <a:o>.", 6}, {"<a:s> A <a:o>.", 6}, {"<a:s> false 1.", 6}, {"<a:s> ; a 1.", 6}, {"<a:s> @prefix", 6},
		{"<a:s> a", 7}, {"<a:s> a .", 8}, {"<a:s> a ,", 8}, {"<a:s> a a", 8}, {"<a:s> a True", 8}, {"<a:s> a ]", 8}, {"<a:s> a )", 8}, {"<a:s> a @en", 8}, {"<a:s> a ^^", 8}, {"<a:s> a @prefix", 8},
		{"<a:s> a 1", 9}, {"<a:s> a 1 1", 10}, {"<a:s> a 1 <a:o>", 10}, {"<a:s> a 1]", 9}, {"<a:s> a 1@en", 9}, {"<a:s> a 1^^<a:k>", 9}, {"<a:s> a <a:o>@en.", 13}, {"<a:s> a 1,.", 10}, {"<a:s> a 1,,", 10}, {"<a:s> a 1,;", 10}, {"<a:s> a 1;,", 10}, {"<a:s> a 1;1", 10}, {"<a:s> a 1;a.", 11}, {"<a:s> a 1;]", 10}, {"<a:s> a 1;", 10}, {"<a:s> a 1..", 10},
		{`<a:s> a "x" "y"`, 12}, {`<a:s> a "x"@en@en`, 14}, {`<a:s> a "x"@en^^<a:k>`, 14}, {`<a:s> a "x"@en@prefix`, 14}, {`<a:s> a "x" @prefix .`, 12}, {"<a:s> a \"x\"#\n@prefix .", 13}, {`<a:s> a "x"@abcdefghi.`, 20}, {`<a:s> a "x"@a-abcdefgh9.`, 22},
		{`<a:s> a "x"^^`, 13}, {`<a:s> a "x"^^ .`, 14}, {`<a:s> a "x"^^"y"`, 13}, {`<a:s> a "x"^^a`, 13}, {`<a:s> a "x"^^5`, 13}, {`<a:s> a "x"^^<a:k>@en`, 18}, {`<a:s> a "x"^^<a:k>^^<a:k>`, 18}, {`<a:s> a "x"^^@en`, 13},
		{"[", 1}, {"[]", 2}, {"[].", 2}, {"[.", 1}, {"[;]", 1}, {"[a]", 2}, {"[a 1", 4}, {"[a 1.", 4}, {"[a 1;", 5}, {"[a 1;.", 5}, {"[a 1)", 4}, {"[a 1].", 5}, {"[<a:o>]", 6}, {"<a:s> a [[]]", 9},
		{"(", 1}, {"(1", 2}, {"(1,2)", 2}, {"(a)", 1}, {"(1]", 2}, {"(1;", 2}, {"(.", 1}, {"(1).", 3}, {"<a:s> a (1 x).", 11}, {"<a:s> a (", 9},
		{"_:" + x(21) + " a 1.", 22}, {"_:" + x(20) + "1 a 1.", 22}, {"_:" + x(20) + "_:x", 22},
		{said + said[:5], 24},
	} {
		refuses(t, c.text, api.ErrText, c.place)
	}
}

func TestU1RefusesNamesAndLabels(t *testing.T) {
	for _, c := range []struct {
		text   string
		number api.Errno
		place  int
	}{
		{"p:s a 1.", api.ErrName, 0}, {": a 1.", api.ErrName, 0}, {"a: a 1.", api.ErrName, 0}, {"<a:s> p:v 1.", api.ErrName, 6}, {"<a:s> a p:o.", api.ErrName, 8}, {`<a:s> a "x"^^p:k.`, api.ErrName, 13}, {"<a:s> a (p:o).", api.ErrName, 9}, {"[p:v 1]", api.ErrName, 1},
		{"p:s a 1.@prefix p:<a:>.", api.ErrName, 0}, {"@prefix p:<a:>.P:s a 1.", api.ErrName, 15}, {"@prefix p:<a:>.: a 1.", api.ErrName, 15}, {"@prefix :<a:>.p: a 1.", api.ErrName, 14},
		{"p:s\xff", api.ErrName, 0}, {"<a:s> a p:o", api.ErrName, 8}, {"p:s p:v", api.ErrName, 0}, {"<a:s> a 1 p:o", api.ErrText, 10}, {"@prefix p:<a:> p:", api.ErrText, 15},
		{"_:n1 a 1.", api.ErrLabel, 0}, {"_:n007 a 1.", api.ErrLabel, 0}, {"<a:s> a _:n0.", api.ErrLabel, 8}, {"<a:s> a (_:n0)", api.ErrLabel, 9}, {"_:n1234567890123456789a", api.ErrLabel, 0}, {"_:n1\xff", api.ErrLabel, 0},
		{"<a:s> _:n1 1.", api.ErrText, 6}, {`<a:s> a "x"^^_:n1.`, api.ErrText, 13}, {"<a:s> a 1 _:n1.", api.ErrText, 10},
	} {
		refuses(t, c.text, c.number, c.place)
	}
}

func TestU1RefusesNests(t *testing.T) {
	for _, c := range []struct {
		text   string
		number api.Errno
		place  int
	}{
		{strings.Repeat("(", 9), api.ErrNest, 8}, {strings.Repeat("(", 8), api.ErrText, 8}, {strings.Repeat("(", 9) + "\xff", api.ErrNest, 8}, {strings.Repeat("(", 8) + "[", api.ErrNest, 8},
		{strings.Repeat("[a(", 4) + "[]", api.ErrNest, 12}, {strings.Repeat("[a(", 4) + "1 ()", api.ErrNest, 14}, {strings.Repeat("[", 9), api.ErrText, 1}, {strings.Repeat("[a", 8) + "[", api.ErrNest, 16}, {strings.Repeat("[a", 7) + "[[", api.ErrText, 15},
		{"<a:s> a " + strings.Repeat("(", 9), api.ErrNest, 16}, {strings.Repeat("(", 10000), api.ErrNest, 8},
	} {
		refuses(t, c.text, c.number, c.place)
	}
	// what has been closed is around nothing
	if _, number, place := Parse("<a:s> a " + strings.Repeat("((((((((1)))))))),", 10) + "[].[a[]]a[]."); number != api.OK || place != 0 {
		t.Errorf("%d, %d", number, place)
	}
	if _, number, place := Parse("<a:s> a (" + strings.Repeat("(((((((1)))))))", 8) + ")."); number != api.OK || place != 0 {
		t.Errorf("%d, %d", number, place)
	}
}

func TestU1RefusesLongTerms(t *testing.T) {
	long, full := "<a:"+x(197)+">", "<a:"+x(196)+">"
	named := "@prefix p:<a:" + x(180) + ">." // its iri has 184 bytes, and the text 195
	parses(t, full+full+full+".", full+"|"+full+"|"+full)
	parses(t, `<a:s> a "`+x(198)+`".`, "<a:s>|"+isOf+`|"`+x(198)+`"`)
	parses(t, `<a:s> a "`+x(195)+`"@en.`, "<a:s>|"+isOf+`|"`+x(195)+`"@en`)
	parses(t, `<a:s> a "`+x(191)+`"^^<a:k>.`, "<a:s>|"+isOf+`|"`+x(191)+`"^^<a:k>`)
	parses(t, `<a:s> a "`+x(198)+`"^^<`+xsd+`string>.`, "<a:s>|"+isOf+`|"`+x(198)+`"`)
	parses(t, "<a:s> a "+strings.Repeat("7", 154)+".", "<a:s>|"+isOf+"|"+whole(strings.Repeat("7", 154)))
	parses(t, "<a:s> a <a:"+strings.Repeat(`\u0078`, 196)+">.", "<a:s>|"+isOf+"|"+full)
	parses(t, named+"p:"+x(16)+" a 1.", "<a:"+x(196)+">|"+isOf+"|"+whole("1"))
	for _, c := range []struct {
		text   string
		number api.Errno
		place  int
	}{
		{long, api.ErrTerm, 0}, {long + "\xff", api.ErrTerm, 0}, {"<a:s> " + long, api.ErrTerm, 6}, {"<a:s> a " + long + ".", api.ErrTerm, 8}, {"<a:s> a (" + long, api.ErrTerm, 9}, {"@prefix p: " + long, api.ErrTerm, 11},
		{"<a:s> a 1 " + long, api.ErrText, 10}, {long[:150] + "\xff" + long, api.ErrText, 150}, {"<a:s> a <a:" + x(300), api.ErrText, 311}, {"@prefix " + long, api.ErrText, 8},
		{`<a:s> a "` + x(199) + `".`, api.ErrTerm, 8}, {`<a:s> a "` + x(199) + `"`, api.ErrTerm, 8}, {`<a:s> a "` + x(199) + `" ?`, api.ErrTerm, 8}, {`<a:s> a "` + x(199) + `" "`, api.ErrTerm, 8}, {`<a:s> a "` + x(199) + `" @prefix`, api.ErrTerm, 8}, {`<a:s> a "` + x(199) + `" @`, api.ErrTerm, 8},
		{`<a:s> a "` + strings.Repeat(`\n`, 99) + `x".`, api.ErrTerm, 8}, {`"` + x(199) + `"`, api.ErrText, 0}, {`<a:s> a "` + x(300), api.ErrText, 309},
		{`<a:s> a "` + x(196) + `"@en`, api.ErrTerm, 8}, {`<a:s> a "` + x(196) + "\"\n@en?", api.ErrTerm, 8}, {`<a:s> a "` + x(192) + `"^^<a:k>?`, api.ErrTerm, 8},
		{`<a:s> a "` + x(199) + `"^^`, api.ErrText, 211}, {`<a:s> a "` + x(199) + `"^^?`, api.ErrText, 211}, {`<a:s> a "` + x(199) + `"^^5`, api.ErrText, 211}, {`<a:s> a "` + x(199) + `"^^p:k`, api.ErrName, 211}, {`<a:s> a "` + x(199) + `"^^<a:`, api.ErrText, 214}, {`<a:s> a "x"^^` + long, api.ErrTerm, 8},
		{"<a:s> a " + strings.Repeat("7", 155) + ".", api.ErrTerm, 8}, {"<a:s> a -" + strings.Repeat("7", 154) + "x", api.ErrTerm, 8},
		{named + "p:" + x(17) + " a 1.", api.ErrTerm, 195}, {named + "p: p:" + x(17), api.ErrTerm, 198}, {named + `p: a "` + x(12) + `"^^p:a`, api.ErrTerm, 200}, {named + "p:" + x(21), api.ErrText, 195}, {named + "@prefix q: p:" + x(17), api.ErrText, 206},
	} {
		refuses(t, c.text, c.number, c.place)
	}
}

func TestU1CountsSentencesThatDiffer(t *testing.T) {
	text := func(n int) string {
		var out strings.Builder
		out.WriteString("<a:s>a 0")
		for i := 1; i < n; i++ {
			fmt.Fprintf(&out, ",%d", i)
		}
		return out.String()
	}
	if list, number, place := Parse(text(300) + "," + text(300)[7:] + "."); len(list) != 300 || number != api.OK || place != 0 {
		t.Errorf("300: %d, %d, %d", len(list), number, place)
	}
	refuses(t, text(301)+".", api.ErrMany, 0)
	refuses(t, text(301)+"?", api.ErrText, len(text(301)))
	refuses(t, text(301)+",p:x.", api.ErrName, len(text(301))+1)
	// of each object of ( ) two sentences
	if list, number, place := Parse("()a(" + strings.Repeat("1 ", 149) + ")."); len(list) != 299 || number != api.OK || place != 0 {
		t.Errorf("299: %d, %d, %d", len(list), number, place)
	}
	refuses(t, "()a("+strings.Repeat("1 ", 150)+").", api.ErrMany, 0)
	refuses(t, "()a("+strings.Repeat("1 ", 9990)+").", api.ErrMany, 0)
}

func TestU1RefusesLongTexts(t *testing.T) {
	parses(t, said+strings.Repeat("#", 20000-len(said)), "<a:s>|<a:v>|<a:o>")
	refuses(t, said+strings.Repeat("#", 20001-len(said)), api.ErrLong, 0)
	refuses(t, strings.Repeat("\xff", 20001), api.ErrLong, 0)
	refuses(t, strings.Repeat("\xff", 20000), api.ErrText, 0)
}

func TestU1CallsAtTheSameTime(t *testing.T) {
	text := "@prefix p:<a:>.p:s a " + strings.Repeat("[a p:x],(1 p:y),", 30) + "1."
	want, _, _ := Parse(text)
	var group sync.WaitGroup
	for range 8 {
		group.Go(func() {
			list, number, _ := Parse(text)
			if number != api.OK || !slices.Equal(list, want) {
				t.Errorf("another answer at the same time")
			}
			list[0].S = "changed"
		})
	}
	group.Wait()
}
