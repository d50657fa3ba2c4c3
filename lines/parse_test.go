package lines

import (
	"fmt"
	"math/rand"
	"regexp"
	"slices"
	"sort"
	"strings"
	"testing"
	"unicode/utf8"

	"trine/api"
	"trine/term"
)

const sentence = "<a:s> <a:p> <a:o> ."

func x(n int) string { return strings.Repeat("x", n) }

// told is the sentences as a text in which no two lists are the same.
func told(list []api.Triple) string {
	var out []string
	for _, t := range list {
		out = append(out, t.S+"|"+t.P+"|"+t.O)
	}
	return strings.Join(out, "\n")
}

func TestL1ParseAnswersTheSet(t *testing.T) {
	for _, c := range []struct{ text, want string }{
		{"", ""},
		{"\n", ""},
		{" \t\n\t \n\n", ""},
		{"# x", ""},
		{" #", ""},
		{"#\n# <a:s> . \xff\r\x00 #\n", ""},
		{sentence, "<a:s>|<a:p>|<a:o>"},
		{sentence + "\n", "<a:s>|<a:p>|<a:o>"},
		{sentence + "#", "<a:s>|<a:p>|<a:o>"},
		{"\t <a:s>\t<a:p> \t<a:o>\t\t.\t # \xff\xfe\n\n", "<a:s>|<a:p>|<a:o>"},
		{"<a:s><a:p><a:o>.", "<a:s>|<a:p>|<a:o>"},
		{"_:b<a:p>_:b.#x", "_:b|<a:p>|_:b"},
		{`_:b<a:p>"x".`, `_:b|<a:p>|"x"`},
		{`_:b<a:p>"x"@EN-gb.`, `_:b|<a:p>|"x"@en-gb`},
		{`_:b<a:p>"x # . "^^<a:b>.`, `_:b|<a:p>|"x # . "^^<a:b>`},
		{`<a:\u0062> <a:b> "\u000a\t"^^<http://www.w3.org/2001/XMLSchema#string> .`, "<a:b>|<a:b>|\"\\n\t\""},
		{"_:" + x(20) + "<a:p>\"x\"@abcdefgh.", "_:" + x(20) + "|<a:p>|\"x\"@abcdefgh"},
		{sentence + "\n" + sentence + "\n<a:\\u0073> <a:p> <a:o> .", "<a:s>|<a:p>|<a:o>"},
		{"_:b <a:p> <a:o> .\n<a:s> <a:q> _:b .\n<a:s> <a:p> \"b\" .\n<a:s> <a:p> \"a\" .\n<a:s2> <a:p> \"a\" .",
			"<a:s2>|<a:p>|\"a\"\n<a:s>|<a:p>|\"a\"\n<a:s>|<a:p>|\"b\"\n<a:s>|<a:q>|_:b\n_:b|<a:p>|<a:o>"},
	} {
		list, number, place := Parse(c.text)
		if told(list) != c.want || number != api.OK || place != 0 {
			t.Errorf("Parse(%.80q) = %q, %d, %d, want %q", c.text, told(list), number, place, c.want)
		}
	}
}

func TestL1ParseRefuses(t *testing.T) {
	long := "<a:" + x(197) + ">"
	longText := `"` + x(199) + `"`
	for _, c := range []struct {
		text   string
		number api.Errno
		place  int
	}{
		{"x", api.ErrText, 0},
		{".", api.ErrText, 0},
		{"\r\n", api.ErrText, 0},
		{"\x00", api.ErrText, 0},
		{"\xff", api.ErrText, 0},
		{"  \v", api.ErrText, 2},
		{"\"x\" <a:p> <a:o> .", api.ErrText, 0},
		{"\"x", api.ErrText, 0},
		{"\n\"\xff", api.ErrText, 1},
		{"<a:s> _:p <a:o> .", api.ErrText, 6},
		{"<a:s> \"x\" <a:o> .", api.ErrText, 6},
		{"<a:s> \"\\", api.ErrText, 6},
		{"<a:s>_", api.ErrText, 5},
		{"<a:s>", api.ErrText, 5},
		{"<a:s> ", api.ErrText, 6},
		{"<a:s> <a:p>", api.ErrText, 11},
		{"<a:s> <a:p> <a:o", api.ErrText, 16},
		{"<a:s> <a:p> <a:o> ", api.ErrText, 18},
		{"<a:s>\n", api.ErrText, 5},
		{"<a:s> .", api.ErrText, 6},
		{"<a:s> <a:p> .", api.ErrText, 12},
		{"<a:s> <a:p> <a:o>\n.", api.ErrText, 17},
		{"<a:s> <a:p> <a:o> # x\n.", api.ErrText, 18},
		{"<a:s> # x\n<a:p> <a:o> .", api.ErrText, 6},
		{"<a:s> <a:p> <a:o> <a:g> .", api.ErrText, 18},
		{sentence + ".", api.ErrText, 19},
		{sentence + " x", api.ErrText, 20},
		{sentence + sentence, api.ErrText, 19},
		{sentence + "\r\n", api.ErrText, 19},
		{sentence + " #\r\n" + "\r", api.ErrText, 23},
		{"_:" + x(21) + " <a:p> <a:o> .", api.ErrText, 22},
		{"_:a<a:p>\"x\"@abcdefghi.", api.ErrText, 20},
		{"_:a<a:p>\"x\"@en-.", api.ErrText, 15},
		{"_:a<a:p>\"x\" @en.", api.ErrText, 12},
		{"_:a<a:p>\"x\" ^^<a:b>.", api.ErrText, 12},
		{"_:a<a:p>\"x\"^<a:b>.", api.ErrText, 12},
		{"_:a<a:p>\"x\"^^_:b.", api.ErrText, 13},
		{"_:a<a:p>\"a\nb\".", api.ErrText, 10},
		{"_:a<a:p>\"a\xffb\".", api.ErrText, 10},
		{"_:a<a:p>\"a\\uD800\".", api.ErrText, 10},
		{"_:a<a:p\\u0020>", api.ErrText, 7},
		{"_:a<a:\\u0020>", api.ErrText, 6},
		{sentence + "\nx", api.ErrText, 20},
		{sentence + "\n\n \n<a:s>x", api.ErrText, 28},

		{long + " x", api.ErrTerm, 0},
		{"\t" + long, api.ErrTerm, 1},
		{long[:200] + " ", api.ErrText, 200},
		{"<a:s> " + long + "x", api.ErrTerm, 6},
		{"<a:s> <a:p> " + long + "\xff", api.ErrTerm, 12},
		{"<a:s> <a:p> " + longText, api.ErrTerm, 12},
		{"<a:s> <a:p> " + longText + ".\n\"x\"", api.ErrTerm, 12},
		{"<a:s> <a:p> " + longText + "@en .", api.ErrTerm, 12},
		{"<a:s> <a:p> " + longText + "@abcdefghi", api.ErrTerm, 12},
		{"<a:s> <a:p> " + longText + "@1", api.ErrText, 214},
		{"<a:s> <a:p> " + longText + "@en-.", api.ErrText, 217},
		{"<a:s> <a:p> " + longText + "^x", api.ErrText, 214},
		{"<a:s> <a:p> " + longText + "^^<a:b", api.ErrText, 219},
		{"<a:s> <a:p> \"x\"^^" + long + " .", api.ErrTerm, 12},
		{"<a:s> <a:p> <a:o> . x\n" + long, api.ErrText, 20},
		{sentence + "\n<a:s> <a:p> " + longText, api.ErrTerm, 32},

		{strings.Repeat("\n", 20001), api.ErrLong, 0},
		{x(20001), api.ErrLong, 0},
		{strings.Repeat("\n", 19999) + "x", api.ErrText, 19999},
	} {
		list, number, place := Parse(c.text)
		if len(list) != 0 || number != c.number || place != c.place {
			t.Errorf("Parse(%.70q) = %.70q, %d, %d, want %d, %d", c.text, told(list), number, place, c.number, c.place)
		}
	}
	if list, number, place := Parse(strings.Repeat("\n", 20000)); len(list) != 0 || number != api.OK || place != 0 {
		t.Errorf("Parse of 20000 bytes = %v, %d, %d", list, number, place)
	}
}

func TestL1ParseCountsSentencesThatDiffer(t *testing.T) {
	text := func(n int) string {
		var out strings.Builder
		for i := range n {
			fmt.Fprintf(&out, "_:a<a:>_:%d.\n", i)
		}
		return out.String()
	}
	if list, number, place := Parse(text(300) + text(300)); len(list) != 300 || number != api.OK || place != 0 {
		t.Errorf("Parse of 300 = %d, %d, %d", len(list), number, place)
	}
	for _, c := range []string{text(301), text(300) + "_:b<a:>_:b.", text(900)} {
		if list, number, place := Parse(c); len(list) != 0 || number != api.ErrMany || place != 0 {
			t.Errorf("Parse of more than 300 = %d, %d, %d", len(list), number, place)
		}
	}
	if _, number, place := Parse(text(301) + "x"); number != api.ErrText || place != len(text(301)) {
		t.Errorf("Parse of more than 300 and x = %d, %d", number, place)
	}
}

// The grammar once more, as regexps: a text may begin so, if one of the endings makes lines of it.
const (
	iriExp   = `<[A-Za-z][A-Za-z0-9+.-]*:(?:[^\x{FFFD}\x00-\x20\x7f<>"{}|^` + "`" + `\\]|\\u0041)*>`
	blankExp = `_:[A-Za-z0-9]{1,20}`
	textExp  = `"(?:[^\x{FFFD}\n\r"\\]|\\[tbnrf"'\\])*"(?:@[A-Za-z]{1,8}(?:-[A-Za-z0-9]{1,8})*|\^\^` + iriExp + `)?`
	saidExp  = `[ \t]*(` + iriExp + `|` + blankExp + `)[ \t]*(` + iriExp + `)[ \t]*(` + iriExp + `|` + blankExp + `|` + textExp + `)[ \t]*\.`
	lineExp  = `(?:` + saidExp + `)?[ \t]*(?:#[^\n]*)?`
)

type grammar struct {
	text, line *regexp.Regexp
	endings    []string
}

func newGrammar() grammar {
	var endings []string
	for _, rest := range []string{"", ".", "<a:>.", "<a:><a:>."} {
		for _, part := range []string{"", ">", ":>", "a:>", "<a:>", "^<a:>", "a", ":a", `"`, `n"`, "u0041>"} {
			endings = append(endings, part+rest)
		}
	}
	return grammar{regexp.MustCompile(`^` + lineExp + `(?:\n` + lineExp + `)*$`), regexp.MustCompile(`^` + lineExp + `$`), endings}
}

func (g grammar) begins(text string) bool {
	for _, e := range g.endings {
		if g.text.MatchString(text + e) {
			return true
		}
	}
	return false
}

// place is where the text is refused; -1, if it is one of lines.
func (g grammar) place(text string) int {
	if g.text.MatchString(text) {
		return -1
	}
	var ends []int // of characters: a part of one is no beginning by itself
	for at := 0; at < len(text); {
		_, size := utf8.DecodeRuneInString(text[at:])
		at += size
		ends = append(ends, at)
	}
	n := sort.Search(len(ends), func(i int) bool { return !g.begins(text[:ends[i]]) })
	if n == 0 {
		return 0
	}
	return ends[n-1]
}

// said is the set of the text's sentences.
func (g grammar) said(text string) string {
	var out []string
	for _, line := range strings.Split(text, "\n") {
		if m := g.line.FindStringSubmatch(line); m[1] != "" {
			s, _, _ := term.Read(m[1])
			p, _, _ := term.Read(m[2])
			o, _, _ := term.Read(m[3])
			out = append(out, s+"\x00"+p+"\x00"+o) // 0 is below all that a term has, but in a literal, which stands last
		}
	}
	slices.Sort(out)
	return strings.ReplaceAll(strings.Join(slices.Compact(out), "\n"), "\x00", "|")
}

func TestL1ParseAgainstTheGrammar(t *testing.T) {
	g := newGrammar()
	r := rand.New(rand.NewSource(4))
	pieces := []string{"<a:s>", "<a:p>", "<a:o>", "_:b", `"x"`, `"x"@EN`, `"é"^^<a:b>`, " ", "\t", ".", "\n", "# x\xff", "#"}
	signs := append([]string{"<", ">", ":", "_", `"`, "@", "^", "-", "a", "0", "\r", "\\", `\n`, "é", "\xff", x(20)}, pieces...)
	some := func(from, to int) string { return pieces[from+r.Intn(to-from)] }
	good, refused := 0, 0
	for range 1500 {
		var text string
		for range 1 + r.Intn(3) {
			text += some(0, 4) + some(7, 9) + some(0, 3) + some(0, 7) + " ." + some(7, 9) + some(10, 12) + "\n"
		}
		for range r.Intn(3) {
			at := r.Intn(len(text) + 1)
			text = text[:at] + signs[r.Intn(len(signs))] + text[min(at+r.Intn(2), len(text)):]
		}
		text = text[:len(text)-r.Intn(2)*r.Intn(len(text))]
		want := g.place(text)
		list, number, place := Parse(text)
		if want < 0 {
			good++
			if told(list) != g.said(text) || number != api.OK || place != 0 {
				t.Fatalf("Parse(%q) = %q, %d, %d, want %q", text, told(list), number, place, g.said(text))
			}
		} else {
			refused++
			if len(list) != 0 || number != api.ErrText || place != want {
				t.Fatalf("Parse(%q) = %q, %d, %d, want ErrText at %d", text, told(list), number, place, want)
			}
		}
	}
	if good < 200 || refused < 200 {
		t.Errorf("the texts say little: %d of lines, %d others", good, refused)
	}
}
