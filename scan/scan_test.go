package scan

import (
	"strings"
	"testing"

	"trine/api"
	"trine/fault"
)

func TestReaderGoesOnByTheByte(t *testing.T) {
	r := Over("ab")
	if r.Place() != 0 || r.Ended() || !r.Sees('a') || r.Sees('b') || r.Take('b') {
		t.Fatalf("at the beginning: %+v", r)
	}
	if !r.Take('a') || r.Place() != 1 || !r.Sees('b') {
		t.Fatalf("behind a: %+v", r)
	}
	if !r.Take('b') || !r.Ended() || r.Place() != 2 || r.Sees('b') || r.Sees(0) || r.Take(0) {
		t.Fatalf("at the end: %+v", r)
	}
}

func TestSkipLineEndsAheadOfTheNewline(t *testing.T) {
	for text, place := range map[string]int{"": 0, "\nx": 0, "a\xff\r\x00\nx": 4, "ab": 2} {
		r := Over(text)
		r.SkipLine()
		r.SkipLine()
		if r.Place() != place {
			t.Errorf("%q: at %d", text, r.Place())
		}
	}
}

func TestRunReadsAllOfTheSet(t *testing.T) {
	set := Either(Letter, OneOf("é\uFFFD"))
	for _, c := range []struct{ text, run string }{
		{"", ""}, {"1a", ""}, {"aZé1", "aZé"}, {"ab", "ab"}, {"a\xc3", "a"}, {"\uFFFD\xff", "\uFFFD"}, {"\xe9", ""},
	} {
		r := Over(c.text)
		if r.SeesOf(set) != (c.run != "") {
			t.Errorf("%q: sees it: %t", c.text, r.SeesOf(set))
		}
		if run := r.Run(set); run != c.run || r.Place() != len(run) {
			t.Errorf("%q: %q", c.text, run)
		}
		if AllOf(c.text, set) != (c.run == c.text) {
			t.Errorf("%q: all of it: %t", c.text, AllOf(c.text, set))
		}
	}
}

func TestCatchHandsOnWhyAReaderGaveUp(t *testing.T) {
	r := Over("ab")
	for _, c := range []struct {
		read   func()
		number api.Errno
		place  int
	}{
		{func() { r.Want('a') }, api.OK, 0},
		{func() { r.Want('a') }, api.ErrText, 1},
		{r.WantEnd, api.ErrText, 1},
		{func() { r.Want('b') }, api.OK, 0},
		{r.WantEnd, api.OK, 0},
		{func() { r.Want(0) }, api.ErrText, 2},
		{func() { Refuse(api.ErrTerm, 7) }, api.ErrTerm, 7},
		{func() { GiveUp(Catch(func() { Refuse(api.ErrName, 8) })) }, api.ErrName, 8},
	} {
		err := Catch(c.read)
		if fault.Number(err) != c.number || fault.Place(err) != c.place {
			t.Errorf("%v, want %d at %d", err, c.number, c.place)
		}
	}
}

func TestCatchLetsOtherPanicsPass(t *testing.T) {
	defer func() {
		if met := recover(); met != "other" {
			t.Errorf("met %v", met)
		}
	}()
	err := Catch(func() { panic("other") })
	t.Errorf("caught: %v", err)
}

func TestWholeAnswersNothingBesideAnError(t *testing.T) {
	if found, err := Whole("<a:b>", (*Reader).IRI); found != "<a:b>" || err != nil {
		t.Errorf("%q, %v", found, err)
	}
	if found, err := Whole("<a:b> ", (*Reader).IRI); found != "" || fault.Number(err) != api.ErrText || fault.Place(err) != 5 {
		t.Errorf("%q, %v", found, err)
	}
}

func TestIsWholeAsksForNoLength(t *testing.T) {
	for n := range 500 {
		long := strings.Repeat("b", n)
		if !IsWhole("<a:"+long+">", (*Reader).IRI) {
			t.Fatalf("an iri of %d bytes is refused", n+4)
		}
		for _, text := range []string{"<a:" + long, "<a:" + long + "> ", `<a:\u0062` + long + ">", "<a:" + long + "\xff>", "<" + long + ">", long} {
			if IsWhole(text, (*Reader).IRI) {
				t.Fatalf("%q is taken for an iri in its one form", text)
			}
		}
	}
}

// A term ends where it can go on no farther, and the reader stands behind it.
func TestTermGoesOnAsFarAsItCan(t *testing.T) {
	for _, c := range []struct {
		text string
		kind Kind
		form string
		left int
	}{
		{"<a:b><a:c>", IRI, "<a:b>", 5},
		{"_:a1.", Blank, "_:a1", 1},
		{"_:aaaaaaaaaaaaaaaaaaaaa", Blank, "_:aaaaaaaaaaaaaaaaaaaa", 1},
		{`"x".`, Literal, `"x"`, 1},
		{`"x" @en`, Literal, `"x"`, 4},
		{`"x"@EN.`, Literal, `"x"@en`, 1},
		{`"x"@abcdefghi`, Literal, `"x"@abcdefgh`, 1},
		{`"x"@a-abcdefgh9`, Literal, `"x"@a-abcdefgh`, 1},
		{`"x"^^<a:b>@en`, Literal, `"x"^^<a:b>`, 3},
	} {
		r := Over(c.text)
		var found Term
		err := Catch(func() { found = r.AnyTerm() })
		if err != nil || found != (Term{c.kind, c.form}) || r.Place() != len(c.text)-c.left {
			t.Errorf("%q: %v, %v at %d", c.text, found, err, r.Place())
		}
	}
}

func TestTermOfAnotherKindIsMetAtItsFirstByte(t *testing.T) {
	for kind, text := range map[Kind]string{IRI: "<a:b>", Blank: "_:a", Literal: `"x"`} {
		for _, may := range []Kind{IRI, Blank, Literal} {
			r := Over(" " + text)
			r.Take(' ')
			err := Catch(func() { r.TermOf(may) })
			if may == kind && err != nil || may != kind && (fault.Number(err) != api.ErrText || fault.Place(err) != 1) {
				t.Errorf("%q where kind %d may stand: %v", text, may, err)
			}
		}
	}
}
