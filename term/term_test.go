package term

import (
	"math/rand"
	"strings"
	"testing"
	"unicode/utf8"

	"trine/api"
)

func x(n int) string { return strings.Repeat("x", n) }

func TestT2Kind(t *testing.T) {
	for want, texts := range [][]string{
		0: {"", "x", "<", "<a>", "_:", "_:" + x(21), `"`, `"x`, " <a:b>", "<a:b> ", "<a:b>.", "\xff", "<a:\xff>", "?x", "a",
			`<a:\u0062>`, `"\u0062"`, `"\t"`, `"\'"`, "\"\n\"", `"x"@EN`, `"x"@en-GB`, `"x"^^` + xsdString,
			`"x"^^<a:\u0062>`, `"x"@`, `"x"^^_:a`, "<a:" + x(197) + ">", `"` + x(199) + `"`, x(20001), `"` + x(30000) + `"`,
			`"` + x(195) + `"` + `@eng`},
		1: {"<a:>", "<a:b>", "<A:é>", "<a:" + x(196) + ">", xsdString},
		2: {"_:a", "_:0", "_:" + x(20)},
		3: {`""`, `"x"`, `"\n\r\"\\"`, "\"\t\x00\b\"", `"x"@en-gb`, `"x"^^<a:b>`, `"` + x(198) + `"`, `"é"`, `"` + x(195) + `"@en`},
	} {
		for _, s := range texts {
			if got := Kind(s); got != want {
				t.Errorf("Kind(%.60q) = %d, want %d", s, got, want)
			}
		}
	}
}

// A text has a kind just if Read leaves it as it is.
func TestT2KindAgainstRead(t *testing.T) {
	r := rand.New(rand.NewSource(2))
	terms := []string{"<a:b>", "_:b1", `"a b"`, `"\n\t"`, `"x"@en-gb`, `"x"@EN`, `"x"^^<a:b>`, `"x"^^` + xsdString, `<a:\u0062>`}
	signs := []string{"<", ">", `"`, "@", "^^", "-", "a", "Z", `\n`, `\t`, "\t", "é", "\xff", x(190)}
	for range 3000 {
		text := changed(r, terms[r.Intn(len(terms))], signs)
		form, number, _ := Read(text)
		want := 0
		if number == api.OK && form == text {
			want = map[byte]int{'<': 1, '_': 2, '"': 3}[text[0]]
		}
		if got := Kind(text); got != want {
			t.Fatalf("Kind(%q) = %d, want %d", text, got, want)
		}
	}
}

func TestT2Sound(t *testing.T) {
	kinds := []string{"x", "<a:b>", "_:a", `"x"`, "", `"x"@EN`, "<a:" + x(197) + ">"}
	for s, subject := range kinds {
		for p, verb := range kinds {
			for o, object := range kinds {
				want := (s == 1 || s == 2) && p == 1 && (o == 1 || o == 2 || o == 3)
				if got := Sound(api.Triple{S: subject, P: verb, O: object}); got != want {
					t.Errorf("Sound(%.20q, %.20q, %.20q) = %v", subject, verb, object, got)
				}
			}
		}
	}
}

func TestT3Literal(t *testing.T) {
	manyParts := "en" + strings.Repeat("-abcdefgh", 3000)
	for _, c := range []struct {
		text, language, kind, want string
		number                     api.Errno
	}{
		{"", "", "", `""`, api.OK},
		{"\\\"\n\r\t'\x00é", "", "", `"\\\"\n\r` + "\t'\x00é\"", api.OK},
		{`\n`, "", "", `"\\n"`, api.OK},
		{"x", "En-GB-1a", "", `"x"@en-gb-1a`, api.OK},
		{"x", "", "<a:é>", `"x"^^<a:é>`, api.OK},
		{"x", "", xsdString, `"x"`, api.OK},
		{"\ufffd", "", "", "\"\ufffd\"", api.OK},
		{x(198), "", "", `"` + x(198) + `"`, api.OK},
		{x(198), "", xsdString, `"` + x(198) + `"`, api.OK},
		{x(195), "EN", "", `"` + x(195) + `"@en`, api.OK},
		{x(191), "", "<a:b>", `"` + x(191) + `"^^<a:b>`, api.OK},

		{"\xff", "", "", "", api.ErrText},
		{"a\xed\xa0\x80", "", "", "", api.ErrText},
		{"\xc3", "en", "", "", api.ErrText},
		{"x", "e1", "", "", api.ErrText},
		{"x", "-", "", "", api.ErrText},
		{"x", "en-", "", "", api.ErrText},
		{"x", "@en", "", "", api.ErrText},
		{"x", " ", "", "", api.ErrText},
		{"x", "en ", "", "", api.ErrText},
		{"x", "abcdefghi", "", "", api.ErrText},
		{"x", "en-abcdefgh9", "", "", api.ErrText},
		{"x", "é", "", "", api.ErrText},
		{"x", "", "a:b", "", api.ErrText},
		{"x", "", "<a>", "", api.ErrText},
		{"x", "", `<a:\u0062>`, "", api.ErrText},
		{"x", "", "<a:b> ", "", api.ErrText},
		{"x", "", "_:a", "", api.ErrText},
		{"x", "", `"x"`, "", api.ErrText},
		{"x", "en", "<a:b>", "", api.ErrText},
		{"x", "en", xsdString, "", api.ErrText},
		{x(300), "e1", "", "", api.ErrText},
		{x(300) + "\xff", "", "", "", api.ErrText},

		{x(199), "", "", "", api.ErrTerm},
		{x(197) + "\n", "", "", "", api.ErrTerm},
		{x(196), "EN", "", "", api.ErrTerm},
		{x(192), "", "<a:b>", "", api.ErrTerm},
		{"x", "", "<a:" + x(200) + ">", "", api.ErrTerm},
		{"x", "", "<a:" + x(30000) + ">", "", api.ErrTerm},
		{"x", manyParts, "", "", api.ErrTerm},
		{x(30000), "", "", "", api.ErrTerm},
	} {
		got, number := Literal(c.text, c.language, c.kind)
		if got != c.want || number != c.number {
			t.Errorf("Literal(%.30q, %.30q, %.30q) = %.60q, %d, want %.60q, %d", c.text, c.language, c.kind, got, number, c.want, c.number)
		}
	}
}

func TestT3Parts(t *testing.T) {
	for _, c := range []struct{ term, text, language, kind string }{
		{`""`, "", "", ""},
		{`"\\\"\n\r` + "\t\x00é\"", "\\\"\n\r\t\x00é", "", ""},
		{`"x@en"`, "x@en", "", ""},
		{`"x\"@en"@de`, `x"@en`, "de", ""},
		{`"x"@en-gb-1a`, "x", "en-gb-1a", ""},
		{`"x"^^<a:é>`, "x", "", "<a:é>"},
		{`"` + x(198) + `"`, x(198), "", ""},
	} {
		text, language, kind, number := Parts(c.term)
		if text != c.text || language != c.language || kind != c.kind || number != api.OK {
			t.Errorf("Parts(%q) = %q, %q, %q, %d", c.term, text, language, kind, number)
		}
	}
	for _, s := range []string{"", "x", "<a:b>", "_:a", `"x`, `"x" `, `"\t"`, `"x"@EN`, `"x"^^` + xsdString, "\"\xff\"", `"` + x(199) + `"`} {
		text, language, kind, number := Parts(s)
		if text != "" || language != "" || kind != "" || number != api.ErrTerm {
			t.Errorf("Parts(%.60q) = %q, %q, %q, %d", s, text, language, kind, number)
		}
	}
}

// What Literal makes, Parts takes apart again, and Read leaves as it is.
func TestT3LiteralAndParts(t *testing.T) {
	r := rand.New(rand.NewSource(3))
	signs := []rune("\\\"\n\r\tab'@^<>é\u0000\ufffd😀")
	for range 2000 {
		var text []rune
		for range r.Intn(12) {
			text = append(text, signs[r.Intn(len(signs))])
		}
		language := []string{"", "", "en", "de-1x"}[r.Intn(4)]
		kind := ""
		if language == "" {
			kind = []string{"", "<a:b>"}[r.Intn(2)]
		}
		form, number := Literal(string(text), language, kind)
		a, b, c, e := Parts(form)
		again, _, _ := Read(form)
		if number != api.OK || e != api.OK || a != string(text) || b != language || c != kind || again != form || Kind(form) != 3 || !utf8.ValidString(form) {
			t.Fatalf("Literal(%q, %q, %q) = %q, %d; Parts: %q, %q, %q, %d", string(text), language, kind, form, number, a, b, c, e)
		}
	}
}
