package term

import (
	"fmt"
	"math/rand"
	"regexp"
	"strconv"
	"strings"
	"testing"
	"unicode/utf8"

	"trine/api"
)

const xsdString = "<http://www.w3.org/2001/XMLSchema#string>"

type readCase struct {
	text, want string
	number     api.Errno
	place      int
}

func checkRead(t *testing.T, cases []readCase) {
	t.Helper()
	for _, c := range cases {
		got, number, place := Read(c.text)
		if got != c.want || number != c.number || place != c.place {
			t.Errorf("Read(%.80q) = %.80q, %d, %d, want %.80q, %d, %d", c.text, got, number, place, c.want, c.number, c.place)
		}
	}
}

func refusedAt(place int, texts ...string) []readCase {
	var out []readCase
	for _, s := range texts {
		out = append(out, readCase{s, "", api.ErrText, place})
	}
	return out
}

func TestT1ReadAnswersTheOneForm(t *testing.T) {
	checkRead(t, []readCase{
		{"<a:>", "<a:>", api.OK, 0},
		{"<Z9+-.:x:y#z?ü😀>", "<Z9+-.:x:y#z?ü😀>", api.OK, 0},
		{`<a:\u00E9\u00e9\U0000004d>`, "<a:ééM>", api.OK, 0},
		{"<a:\u0080\ufffd>", "<a:\u0080\ufffd>", api.OK, 0},
		{"_:0", "_:0", api.OK, 0},
		{"_:" + strings.Repeat("Z", 20), "_:" + strings.Repeat("Z", 20), api.OK, 0},
		{`""`, `""`, api.OK, 0},
		{"\"\x00\t\x7f\ufffdü\"", "\"\x00\t\x7f\ufffdü\"", api.OK, 0},
		{`"\t\b\n\r\f\"\'\\"`, "\"\t\b" + `\n\r` + "\f" + `\"'\\"`, api.OK, 0},
		{`"\u000A\u000d\u0022\u005C\u0009\U0001F600\u0000"`, `"\n\r\"\\` + "\t😀\x00\"", api.OK, 0},
		{`"\\u0041"`, `"\\u0041"`, api.OK, 0},
		{`"a"@X`, `"a"@x`, api.OK, 0},
		{`"A"@ABCDEFGH-12345678-Z9`, `"A"@abcdefgh-12345678-z9`, api.OK, 0},
		{`"a"^^<B:C>`, `"a"^^<B:C>`, api.OK, 0},
		{`"a"^^` + xsdString, `"a"`, api.OK, 0},
		{`"a"^^<http://www.w3.org/2001/XMLSchema#strin\u0067>`, `"a"`, api.OK, 0},
		{`"a"^^<http://www.w3.org/2001/XMLSchema#String>`, `"a"^^<http://www.w3.org/2001/XMLSchema#String>`, api.OK, 0},
	})
}

func TestT1ReadRefusesWhatIsNoTerm(t *testing.T) {
	for _, cases := range [][]readCase{
		refusedAt(0, "", "x", " <a:b>", "a:b", "-", "\x00", "\xff", "é", "'x'", "?x", "^^<a:b>", "@en"),
		refusedAt(1, "<", "_", `"`, "<:b>", "<9a:b>", "<>", "_a", "<+a:b>", "\"\n\"", "\"\r\"", "<é:b>", "\"\xff\""),
		refusedAt(2, "<a", "<a>", "<a/b>", "_:", "_:é", "_:_", "_: a", `"\`, `"\x"`, `"\a"`, `"\0"`, `"\N"`, `"x`, "<a_:b>", "<a\\u003a:>", `"" `, `"".`),
		refusedAt(3, "<a:", "<a: >", "<a:<", "<a:\"", "<a:{", "<a:}", "<a:|", "<a:^", "<a:`", "<a:\x7f", "<a:\x00", "<a:\n>", "_:a ", "_:a-", "_:aé", `"x"x`, `"x" @en`, `"\u`, `"\U`, `"\ug`),
		refusedAt(4, "<a:\\", `<a:\t>`, `<a:\\>`, `<a:\">`, `<a:b`, "<a:> ", "<a:>>", `"x"@`, `"x"@-`, `"x"@1`, `"x"@é`, `"x"^`, `"x"^<a:b>`, `"x"^ ^<a:b>`),
		refusedAt(5, `"x"^^`, `"x"^^_:a`, `"x"^^"x"`, `"x"^^a:b`, `"x"@e `, `"x"@e_`, `"x"@e.`),
		refusedAt(6, `"x"@e-`, `"x"@e-é`, `"x"@e--a`, `"x"^^<1:b>`),
		refusedAt(7, `<a:\u00`, `<a:\u00g0>`, `"x"^^<a`),
		refusedAt(12, `"x"@abcdefghi`, `"x"@abcdefgh@`),
		refusedAt(15, `"x"@en-abcdefgh9`),
		refusedAt(10, `"x"^^<a:b>@en`, `"x"^^<a:b>^^<a:b>`),
		refusedAt(22, "_:"+strings.Repeat("a", 21), "_:"+strings.Repeat("9", 20)+" "),
		refusedAt(12, `<a:\U0001f60`, `"a\U0001f600`),
	} {
		checkRead(t, cases)
	}
}

// What is no right character is met at its first byte, wherever it goes wrong.
func TestT1ReadRefusesWrongCharactersAtTheirFirstByte(t *testing.T) {
	for _, wrong := range []string{
		"\x80", "\xbf", "\xc0\x80", "\xc1\xbf", "\xe0\x80\x80", "\xe0\x9f\xbf", "\xf0\x8f\xbf\xbf", // no beginning, or longer than needed
		"\xed\xa0\x80", "\xed\xbf\xbf", "\xf4\x90\x80\x80", "\xf5\x80\x80\x80", "\xff", // D800, DFFF, above 10FFFF
		"\xc3", "\xe2\x82", "\xf0\x9f\x98", // not all of it
	} {
		for _, behind := range []string{">", `"`, "b", "é", ""} {
			checkRead(t, refusedAt(5, "<a:bc"+wrong+behind, `"abcd`+wrong+behind))
		}
	}
}

// The rule for single characters, said once more: by itself, by \u and by \U.
func TestT1ReadKnowsWhichCharactersMayStandWhere(t *testing.T) {
	inIRI := func(c int) bool { return c > 32 && c != 127 && !strings.ContainsRune("<>\"{}|^`\\", rune(c)) }
	inString := func(c int) bool { return c != 10 && c != 13 && c != 34 && c != 92 }
	form := map[int]string{10: `\n`, 13: `\r`, 34: `\"`, 92: `\\`}
	var numbers []int
	for c := range 0x180 {
		numbers = append(numbers, c)
	}
	for _, c := range append(numbers, 0x7ff, 0x800, 0xd7ff, 0xe000, 0xfffd, 0xffff, 0x10000, 0x10ffff) {
		self := string(rune(c))
		escapes := []string{fmt.Sprintf(`\U%08x`, c), fmt.Sprintf(`\U%08X`, c)}
		if c < 0x10000 {
			escapes = append(escapes, fmt.Sprintf(`\u%04x`, c), fmt.Sprintf(`\u%04X`, c))
		}
		meant := self
		if form[c] != "" {
			meant = form[c]
		}
		for _, e := range escapes {
			checkRead(t, []readCase{{`"` + e + `"`, `"` + meant + `"`, api.OK, 0}})
			if inIRI(c) {
				checkRead(t, []readCase{{"<a:" + e + ">", "<a:" + self + ">", api.OK, 0}})
			} else {
				checkRead(t, refusedAt(3, "<a:"+e+">", "<a:"+e))
			}
		}
		if inIRI(c) {
			checkRead(t, []readCase{{"<a:" + self + ">", "<a:" + self + ">", api.OK, 0}})
		} else if c != '>' && c != '\\' {
			checkRead(t, refusedAt(3, "<a:"+self+">"))
		}
		if inString(c) {
			checkRead(t, []readCase{{`"` + self + `"`, `"` + self + `"`, api.OK, 0}})
		} else if c != '"' && c != '\\' {
			checkRead(t, refusedAt(1, `"`+self+`"`))
		}
	}
}

func TestT1ReadRefusesNumbersOfNoCharacterAtTheirEscape(t *testing.T) {
	for _, e := range []string{`\uD800`, `\uDbff`, `\uDFFF`, `\U0000d800`, `\U00110000`, `\U7fffffff`, `\U80000000`, `\UFFFFFFFF`, `\U80000041`} {
		checkRead(t, refusedAt(4, `"abc`+e+`"`, `"abc`+e, `"a\n`+e+`"`, "<a:b"+e+">", "<a:b"+e))
	}
	checkRead(t, refusedAt(8, `"x"^^<a:\u0020>`))
}

func TestT1ReadBoundsTextAndTerm(t *testing.T) {
	x := func(n int) string { return strings.Repeat("x", n) }
	checkRead(t, []readCase{
		{"<a:" + x(196) + ">", "<a:" + x(196) + ">", api.OK, 0},
		{"<a:" + x(197) + ">", "", api.ErrTerm, 0},
		{`"` + x(198) + `"`, `"` + x(198) + `"`, api.OK, 0},
		{`"` + x(199) + `"`, "", api.ErrTerm, 0},
		{`"` + x(198) + `"^^` + xsdString, `"` + x(198) + `"`, api.OK, 0},
		{`"` + x(195) + `"@EN`, `"` + x(195) + `"@en`, api.OK, 0},
		{`"` + x(196) + `"@en`, "", api.ErrTerm, 0},
		{`"` + strings.Repeat(`\u000a`, 99) + `"`, `"` + strings.Repeat(`\n`, 99) + `"`, api.OK, 0},
		{`"` + strings.Repeat(`\u000a`, 100) + `"`, "", api.ErrTerm, 0},
		{`"` + strings.Repeat("\n", 1) + x(300), "", api.ErrText, 1},
		{`"` + x(300), "", api.ErrText, 301},
		{`"x"^^<a:` + x(300) + ">", "", api.ErrTerm, 0},
		{`"` + strings.Repeat(`\U0000004D`, 198) + `"`, `"` + strings.Repeat("M", 198) + `"`, api.OK, 0},
		{`"` + x(19998) + `"`, "", api.ErrTerm, 0},
		{`"` + x(19999), "", api.ErrText, 20000},
		{`"` + x(19999) + `"`, "", api.ErrLong, 0},
		{x(20000), "", api.ErrText, 0},
		{x(20001), "", api.ErrLong, 0},
	})
}

// The grammar once more, as a regexp: a text may begin so, if one of the endings makes a term of it.
const (
	numberExp  = `\\u[0-9A-Fa-f]{4}|\\U[0-9A-Fa-f]{8}`
	iriExp     = `<[A-Za-z][A-Za-z0-9+.-]*:(?:[^\x{FFFD}\x00-\x20\x7f<>"{}|^` + "`" + `\\]|` + numberExp + `)*>`
	stringExp  = `"(?:[^\x{FFFD}\n\r"\\]|\\[tbnrf"'\\]|` + numberExp + `)*"`
	termExp    = iriExp + `|_:[A-Za-z0-9]{1,20}|` + stringExp + `(?:@[A-Za-z]{1,8}(?:-[A-Za-z0-9]{1,8})*|\^\^` + iriExp + `)?`
	escapesExp = `\\(?:u[0-9A-Fa-f]{4}|U[0-9A-Fa-f]{8}|[^uU])`
)

type grammar struct {
	term, quoted, escapes *regexp.Regexp
	endings               []string
}

func newGrammar() grammar {
	endings := []string{"", ":>", "a:>", "<a:>", "^<a:>", "a", ":a", `n"`, "u0041>"}
	for n := range 9 {
		endings = append(endings, strings.Repeat("0", n)+">", strings.Repeat("0", n)+`"`)
	}
	return grammar{regexp.MustCompile(`^(?:` + termExp + `)$`), regexp.MustCompile(`^` + stringExp), regexp.MustCompile(escapesExp), endings}
}

func (g grammar) begins(text string) bool {
	for _, e := range g.endings {
		if g.term.MatchString(text + e) {
			return true
		}
	}
	return false
}

// place is where the text is refused; -1, if it is a term.
func (g grammar) place(text string) int {
	at := 0
	for at < len(text) {
		_, size := utf8.DecodeRuneInString(text[at:])
		if !g.begins(text[:at+size]) {
			break
		}
		at += size
	}
	quoted := len(g.quoted.FindString(text))
	if strings.HasPrefix(text, `"`) && quoted == 0 {
		quoted = len(text)
	}
	for _, span := range g.escapes.FindAllStringIndex(text[:at], -1) {
		number, err := strconv.ParseInt(text[span[0]+2:span[1]], 16, 64)
		if err != nil {
			continue
		}
		right := number <= 0x10ffff && (number < 0xd800 || number > 0xdfff)
		if !right || span[0] >= quoted && (number <= 32 || number == 127 || number < 128 && strings.ContainsRune("<>\"{}|^`\\", rune(number))) {
			return span[0]
		}
	}
	if at == len(text) && g.term.MatchString(text) {
		return -1
	}
	return at
}

// changed is text with some bytes of it taken out, doubled, or put in.
func changed(r *rand.Rand, text string, signs []string) string {
	for range r.Intn(4) {
		at := r.Intn(len(text) + 1)
		switch r.Intn(4) {
		case 0:
			text = text[:at]
		case 1:
			text = text[:at] + text[min(at+1, len(text)):]
		default:
			text = text[:at] + signs[r.Intn(len(signs))] + text[min(at+r.Intn(2), len(text)):]
		}
	}
	return text
}

func TestT1ReadAgainstTheGrammar(t *testing.T) {
	g := newGrammar()
	r := rand.New(rand.NewSource(1))
	signs := []string{"<", ">", ":", "_", `"`, "@", "^", "^^", "-", "a", "Z", "0", "+", ".", " ", "\n", "\\", `\u0041`, `\u`, `\U0001F600`, `\uD800`, `\u0020`, `\n`, "é", "\xff", "<a:b>", `"@en`, "abcdefgh"}
	terms := []string{"<a:b>", "<ab+c:de/f>", `<a:\u0042\U00000043>`, "_:b1", "_:abcdefghijklmnopqrs", `"a b"`, `"\n\u0042\U00000043"`, `"x"@en-gb-1a`, `"x"@abcdefgh-abcdefgh`, `"x"^^<a:b>`, `"é"^^<a:\u0042>`}
	read, refused := 0, 0
	for range 6000 {
		text := changed(r, terms[r.Intn(len(terms))], signs)
		want := g.place(text)
		form, number, place := Read(text)
		if want < 0 {
			read++
			if again, e, _ := Read(form); number != api.OK || place != 0 || again != form || e != api.OK {
				t.Fatalf("Read(%q) = %q, %d, %d, and then %q, %d", text, form, number, place, again, e)
			}
		} else {
			refused++
			if form != "" || number != api.ErrText || place != want {
				t.Fatalf("Read(%q) = %q, %d, %d, want ErrText at %d", text, form, number, place, want)
			}
		}
	}
	if read < 1000 || refused < 1000 {
		t.Errorf("the texts say little: %d terms, %d others", read, refused)
	}
}
