package ask

import (
	"fmt"
	"math/rand"
	"slices"
	"strconv"
	"strings"
	"sync"
	"testing"
	"time"

	"trine/api"
	"trine/box"
)

func x(n int) string { return strings.Repeat("x", n) }

// many is n sentences of one subject and verb.
func many(subject, verb string, n int) []api.Triple {
	var list []api.Triple
	for i := range n {
		list = append(list, said(subject+" "+verb+" o"+strconv.Itoa(i))...)
	}
	return list
}

// ring is n sentences of one verb, each of which goes on where the one ahead of it ended.
func ring(n int) []api.Triple {
	var list []api.Triple
	for i := range n {
		list = append(list, said(fmt.Sprintf("n%d p n%d", i, (i+1)%n))...)
	}
	return list
}

// hub is 100 sentences to a term, 100 from it, and 100 that share no term with these.
func hub() []api.Triple {
	var list []api.Triple
	for i := range 100 {
		list = append(list, said(fmt.Sprintf("a%d p x", i), fmt.Sprintf("x q b%d", i), fmt.Sprintf("c%d r d%d", i, i))...)
	}
	return list
}

func checkAsk(t *testing.T, b *box.Box, patterns []api.Triple, pick []string, want [][]string, count int) {
	t.Helper()
	if rows, e, at := Ask(b, patterns, pick); !sameRows(rows, want) || e != api.OK || at != 0 {
		t.Errorf("Ask(%v, %v) = %v, %d, %d, want %v", patterns, pick, rows, e, at, want)
	}
	if n, e, at := Count(b, patterns); n != count || e != api.OK || at != 0 {
		t.Errorf("Count(%v) = %d, %d, %d, want %d", patterns, n, e, at, count)
	}
}

func checkRefused(t *testing.T, b *box.Box, patterns []api.Triple, pick []string, number api.Errno, place int) {
	t.Helper()
	if rows, e, at := Ask(b, patterns, pick); rows != nil || e != number || at != place {
		t.Errorf("Ask(%.200v, %.200v) = %v, %d, %d, want %d, %d", patterns, pick, rows, e, at, number, place)
	}
	if pick != nil {
		return
	}
	if n, e, at := Count(b, patterns); n != 0 || e != number || at != place {
		t.Errorf("Count(%.200v) = %d, %d, %d, want %d, %d", patterns, n, e, at, number, place)
	}
}

func TestA1AskByHand(t *testing.T) {
	b := opened(t, said(`a name "x"`, `b name "x"@en`, "a knows b", "b knows a", "b knows _:c", `_:c name "x"`, "knows is a"))
	for _, c := range []struct {
		patterns []api.Triple
		pick     []string
		want     [][]string
		count    int
	}{
		{said("?s name ?n"), []string{"?n", "?s"}, [][]string{{`"x"`, "<a:a>"}, {`"x"`, "_:c"}, {`"x"@en`, "<a:b>"}}, 3},
		{said("?s name ?n"), []string{"?s", "?n"}, [][]string{{"<a:a>", `"x"`}, {"<a:b>", `"x"@en`}, {"_:c", `"x"`}}, 3},
		{said("?s name ?n"), []string{"?n"}, [][]string{{`"x"`}, {`"x"@en`}}, 3},
		{said("?s knows ?o", "?o name ?n"), []string{"?s", "?n"}, [][]string{{"<a:a>", `"x"@en`}, {"<a:b>", `"x"`}}, 3},
		{said("?s knows ?o", "?o knows ?s"), []string{"?s"}, [][]string{{"<a:a>"}, {"<a:b>"}}, 2},
		{said("?s ?v ?o", "?v is ?w"), []string{"?v", "?w"}, [][]string{{"<a:knows>", "<a:a>"}}, 3},
		{said("b knows _:c"), nil, [][]string{{}}, 1},
		{said("b knows _:d"), nil, nil, 0},
		{said("?s knows ?s"), []string{"?s"}, nil, 0},
		// A blank of a pattern is that blank, and no variable.
		{said("_:c name ?n"), []string{"?n"}, [][]string{{`"x"`}}, 1},
		{said("_:d name ?n"), []string{"?n"}, nil, 0},
		// Terms that may stand in no sentence there are terms all the same.
		{said(`"x" name ?n`), []string{"?n"}, nil, 0},
		{said("?s _:c ?n"), []string{"?n", "?s"}, nil, 0},
		{said(`"x" "x" "x"`), nil, nil, 0},
		{nil, nil, [][]string{{}}, 1},
		{[]api.Triple{}, []string{}, [][]string{{}}, 1},
	} {
		checkAsk(t, b, c.patterns, c.pick, c.want, c.count)
	}
}

func TestA1AskAgainstThePlainWords(t *testing.T) {
	r := rand.New(rand.NewSource(1))
	empty, full := 0, 0
	for range 1500 {
		list := someSentences(r, r.Intn(30))
		patterns := somePatterns(r, r.Intn(5))
		pick := somePick(r, patterns)
		answers := plainAnswers(list, patterns)
		checkAsk(t, opened(t, list), patterns, pick, plainRows(answers, pick), len(answers))
		if len(answers) == 0 {
			empty++
		} else {
			full++
		}
	}
	if empty < 300 || full < 300 {
		t.Errorf("the questions say little: %d without an answer, %d with some", empty, full)
	}
}

// Rows rise by terms: as one text "x"_:b would come behind "x"@en<a:a>.
func TestA1RowsRiseByTerms(t *testing.T) {
	b := opened(t, said(`s p "x"`, `s p "x"@en`, "_:b q a", "a q a"))
	want := [][]string{{`"x"`, "<a:a>"}, {`"x"`, "_:b"}, {`"x"@en`, "<a:a>"}, {`"x"@en`, "_:b"}}
	checkAsk(t, b, said("s p ?l", "?n q a"), []string{"?l", "?n"}, want, 4)
}

func TestA1AskForAllVariables(t *testing.T) {
	b := opened(t, said("a p b", "a p c"))
	patterns := said("?a ?b ?c", "?d ?e ?f", "?g ?h ?i", "?j ?k ?l")
	pick := variablesOf(patterns)
	slices.Reverse(pick)
	var want [][]string
	for n := range 16 {
		var row []string
		for bit := 3; bit >= 0; bit-- {
			row = append(row, named([]string{"b", "c"}[n>>bit&1]), "<a:p>", "<a:a>")
		}
		want = append(want, row)
	}
	checkAsk(t, b, patterns, pick, want, 16)
}

func TestA1AskRefusesTexts(t *testing.T) {
	b := opened(t, said("a p b"))
	good := said("?x p ?y")[0]
	for _, bad := range []string{
		"", "?", "x", "?X", "?1", "?x1", "??x", "?x ", " ?x", "?x?", "?abcdefghi", "?" + x(30000), "?é", "?\xff", "?x\x00", "?-", "?`", "?{",
		"<a>", "<a:b", "<a:b> ", `<a:\u0062>`, "_:", "_:" + x(21), `"x`, `"x"@EN`, `"\t"`, `"x"^^<http://www.w3.org/2001/XMLSchema#string>`,
		"<a:" + x(197) + ">", `"` + x(199) + `"`, `"` + x(30000) + `"`, "\xff",
	} {
		for _, p := range []api.Triple{{S: bad, P: good.P, O: good.O}, {S: good.S, P: bad, O: good.O}, {S: good.S, P: good.P, O: bad}, {S: bad, P: bad, O: bad}} {
			for place := range 4 {
				patterns := []api.Triple{good, good, good, p}
				patterns[place] = p
				checkRefused(t, b, patterns, nil, api.ErrTerm, place)
				checkRefused(t, b, patterns, []string{bad, "?z"}, api.ErrTerm, place)
			}
		}
		for place := range 3 {
			pick := slices.Insert([]string{"?y", "?x"}, place, bad)
			checkRefused(t, b, []api.Triple{good}, pick, api.ErrName, place)
		}
	}
}

func TestA1AskTakesVariablesAndTermsAtTheirBounds(t *testing.T) {
	long, text := "<a:"+x(196)+">", `"`+x(198)+`"`
	b := opened(t, []api.Triple{{S: long, P: "<a:p>", O: text}})
	checkAsk(t, b, []api.Triple{{S: long, P: "?abcdefgh", O: text}}, []string{"?abcdefgh"}, [][]string{{"<a:p>"}}, 1)
	checkAsk(t, b, []api.Triple{{S: "?a", P: "<a:p>", O: "?z"}}, []string{"?z", "?a"}, [][]string{{text, long}}, 1)
	checkAsk(t, b, []api.Triple{{S: "?az", P: "<a:p>", O: "?a"}}, []string{"?a", "?az"}, [][]string{{text, long}}, 1)
}

func TestA1AskRefusesPicks(t *testing.T) {
	b := opened(t, said("a p b"))
	patterns := said("?x p ?y", "?y ?v b")
	for _, c := range []struct {
		pick  []string
		place int
	}{
		{[]string{"?z"}, 0},
		{[]string{"?x", "?z", "?x"}, 1},
		{[]string{"?x", "?x"}, 1},
		{[]string{"?x", "?y", "?v", "?y", "?z"}, 3},
		{[]string{"x"}, 0},
		{[]string{"?x", "<a:p>"}, 1},
		{[]string{"?x", "?y", "<a:b>"}, 2},
		{[]string{""}, 0},
		{slices.Repeat([]string{"?y"}, 100000), 1},
	} {
		checkRefused(t, b, patterns, c.pick, api.ErrName, c.place)
	}
	checkRefused(t, b, nil, []string{"?x"}, api.ErrName, 0)
	checkRefused(t, b, said("a p b"), []string{"<a:a>"}, api.ErrName, 0)
}

func TestA1AskRefusesTooManyPatternsAndNoBox(t *testing.T) {
	b := opened(t, said("a p b"))
	p := said("?x p ?y")
	checkAsk(t, b, slices.Repeat(p, 4), []string{"?x"}, [][]string{{"<a:a>"}}, 1)
	checkRefused(t, b, slices.Repeat(p, 5), nil, api.ErrMany, 0)
	checkRefused(t, b, slices.Repeat(p, 100000), nil, api.ErrMany, 0)
	checkRefused(t, b, make([]api.Triple, 5), []string{"?z"}, api.ErrMany, 0)
	for _, patterns := range [][]api.Triple{nil, p, {{}}, make([]api.Triple, 9)} {
		checkRefused(t, nil, patterns, nil, api.ErrMany, 0)
		checkRefused(t, nil, patterns, []string{"?z"}, api.ErrMany, 0)
	}
}

func TestA1AndA2BoundAnswersNotRows(t *testing.T) {
	list := append(many("a", "p", 50), many("a", "q", 100)...)
	most := opened(t, list)
	tooMany := opened(t, append(list, said("b p o", "b q o")...))
	patterns := said("?x p ?y", "?x q ?z")
	for _, patterns := range orders(patterns) {
		checkAsk(t, most, patterns, []string{"?x"}, [][]string{{"<a:a>"}}, 5000)
		checkAsk(t, most, patterns, nil, [][]string{{}}, 5000)
		for _, pick := range [][]string{nil, {"?x"}, {"?z", "?y", "?x"}} {
			checkRefused(t, tooMany, patterns, pick, api.ErrMany, 0)
		}
	}
	if rows, e, _ := Ask(most, patterns, []string{"?y", "?z"}); len(rows) != 5000 || e != api.OK {
		t.Errorf("5000 rows: %d, %d", len(rows), e)
	}
	checkRefused(t, tooMany, append(patterns, api.Triple{}), nil, api.ErrTerm, 2)
	checkRefused(t, tooMany, patterns, []string{"?x", "?w"}, api.ErrName, 1)
	// To find all of 300 * 300 * 300 * 300 answers would take too long.
	checkRefused(t, opened(t, many("a", "p", 300)), said("?a ?b ?c", "?d ?e ?f", "?g ?h ?i", "?j ?k ?l"), nil, api.ErrMany, 0)
}

func TestA2CountWithoutPatterns(t *testing.T) {
	for _, list := range [][]api.Triple{nil, said("a p b"), many("a", "p", 300)} {
		checkAsk(t, opened(t, list), nil, nil, [][]string{{}}, 1)
	}
	checkAsk(t, opened(t, nil), said("?x ?y ?z"), []string{"?x"}, nil, 0)
	checkAsk(t, new(box.Box), said("?x ?y ?z"), []string{"?x"}, nil, 0)
	checkAsk(t, opened(t, many("a", "p", 300)), said("?x ?y ?z"), []string{"?y", "?x"}, [][]string{{"<a:p>", "<a:a>"}}, 300)
}

func TestA3OrderOfPatternsDoesNotMatter(t *testing.T) {
	r := rand.New(rand.NewSource(3))
	for range 200 {
		list := someSentences(r, 5+r.Intn(25))
		b := opened(t, list)
		patterns := somePatterns(r, 2+r.Intn(3))
		pick := somePick(r, patterns)
		answers := plainAnswers(list, patterns)
		for _, patterns := range orders(patterns) {
			checkAsk(t, b, patterns, pick, plainRows(answers, pick), len(answers))
		}
	}
}

func TestA3OnePatternMoreGivesNoRowMore(t *testing.T) {
	r := rand.New(rand.NewSource(4))
	fewer := 0
	for range 500 {
		b := opened(t, someSentences(r, 5+r.Intn(25)))
		patterns := somePatterns(r, 1+r.Intn(3))
		pick := somePick(r, patterns)
		rows, e, _ := Ask(b, patterns, pick)
		less, f, _ := Ask(b, append(patterns, somePatterns(r, 1)...), pick)
		if f == api.ErrMany {
			continue
		}
		if e != api.OK || f != api.OK {
			t.Fatalf("Ask(%v): %d, and with one more: %d", patterns, e, f)
		}
		for _, row := range less {
			if !slices.ContainsFunc(rows, func(other []string) bool { return slices.Equal(row, other) }) {
				t.Errorf("Ask(%v): one pattern more gives the row %v", patterns, row)
			}
		}
		if len(less) < len(rows) {
			fewer++
		}
	}
	if fewer < 50 {
		t.Errorf("the questions say little: %d lose rows", fewer)
	}
}

// Each has very many tuples of sentences that hold for some of its patterns, and few or none for all of them.
func TestA1HardQuestionsEndSoon(t *testing.T) {
	start := time.Now()
	round, star := opened(t, ring(300)), opened(t, many("a", "p", 300))
	for _, c := range []struct {
		b        *box.Box
		patterns []api.Triple
		count    int
	}{
		{star, said("?a p ?b", "?c p ?d", "?e p ?f", "?g q ?h"), 0},
		{star, said("?a p ?b", "?c p ?d", "?e p ?f", "?f p ?g"), 0},
		{star, said("?a p ?b", "?a p ?c", "?a p ?d", "?b p ?c"), 0},
		{star, said("?a p ?b", "?a p ?c", "?a p ?d", "a p a"), 0},
		{round, said("?a p ?b", "?c p ?d", "?d p ?e", "?e p ?c"), 0},
		{round, said("?a p ?b", "?b p ?c", "?c p ?d", "?d p ?a"), 0},
		{round, said("?a p ?b", "?b p ?c", "?c p ?d", "?d p ?e"), 300},
		{opened(t, hub()), said("?a p ?x", "?b p ?x", "?x q ?c", "?c r ?d"), 0},
		{opened(t, ring(3)), said("?a p ?b", "?c p ?d", "?d p ?e", "?e p ?c"), 9},
		{opened(t, ring(300)[:299]), said("?a p ?b", "?b p ?c", "?c p ?d", "?d p ?a"), 0},
	} {
		for _, patterns := range orders(c.patterns) {
			if n, e, at := Count(c.b, patterns); n != c.count || e != api.OK || at != 0 {
				t.Errorf("Count(%v) = %d, %d, %d, want %d", patterns, n, e, at, c.count)
			}
		}
	}
	if time.Since(start) > time.Minute {
		t.Errorf("it took %v", time.Since(start))
	}
}

func TestA1AskAnswersNewMemory(t *testing.T) {
	b := opened(t, said("a p b", "a p c", "a p d"))
	patterns, pick := said("?x p ?y", "?x ?v b"), []string{"?y", "?v", "?x"}
	patternsBefore, pickBefore := slices.Clone(patterns), slices.Clone(pick)
	want := [][]string{{"<a:b>", "<a:p>", "<a:a>"}, {"<a:c>", "<a:p>", "<a:a>"}, {"<a:d>", "<a:p>", "<a:a>"}}
	checkAsk(t, b, patterns, pick, want, 3)
	if !slices.Equal(patterns, patternsBefore) || !slices.Equal(pick, pickBefore) {
		t.Error("Ask changed what it was given")
	}
	for i := range want {
		rows, _, _ := Ask(b, patterns, pick)
		_ = append(rows[i], "more", "more", "more")
		_ = append(rows[i][:1], "other", "other")
		rows[i][0] = "changed"
		for j := range want {
			if j != i && !slices.Equal(rows[j], want[j]) {
				t.Errorf("row %d shares memory with row %d: %v", j, i, rows[j])
			}
		}
	}
	checkAsk(t, b, patterns, pick, want, 3)
}

func TestA1CallsAtTheSameTime(t *testing.T) {
	list := someSentences(rand.New(rand.NewSource(5)), 25)
	b := opened(t, list)
	patterns, pick := said("?x ?v ?y", "?y ?w ?z"), []string{"?z", "?x"}
	answers := plainAnswers(list, patterns)
	var all sync.WaitGroup
	for range 8 {
		all.Go(func() {
			for range 20 {
				checkAsk(t, b, patterns, pick, plainRows(answers, pick), len(answers))
			}
		})
	}
	all.Wait()
}
