package box

import (
	"math/rand"
	"slices"
	"testing"

	"trine/api"
)

// byHand is the box of said("a p b", "a p c", "a q a", "b p a"), each byte written out; its terms are a, b, c, p and q.
const byHand = "TRI1" +
	"\x19" + "\x05" + "\x05<a:a>" + "\x03\x02b>" + "\x03\x02c>" + "\x03\x02p>" + "\x05<a:q>" + "\xce\x92\x03\x9f" +
	"\x0a" + "\x02\x03\x04" + "\x08" + "\xe3\x00" + "\x11\x00" + "\x06" + "\x0e" + "\x44\x17\xc0\xa0"

func TestX1BuildByHand(t *testing.T) {
	list := said("b p a", "a q a", "a p c", "a p b", "a p c")
	before := slices.Clone(list)
	if s, e, at := Build(list); s != byHand || e != api.OK || at != 0 {
		t.Errorf("Build = %q, %d, %d,\nwant %q", s, e, at, byHand)
	}
	if !slices.Equal(list, before) {
		t.Errorf("Build changed its list")
	}
	none := "TRI1" + "\x01\x00" + "\x8d\xef\x02\xd2" + "\x03\x00\x00\x00" + "\x12\xd9\x41\xff"
	for _, list := range [][]api.Triple{nil, {}} {
		if s, e, at := Build(list); s != none || e != api.OK || at != 0 {
			t.Errorf("Build of nothing = %q, %d, %d,\nwant %q", s, e, at, none)
		}
	}
}

func TestX1BuildAgainstThePlainWords(t *testing.T) {
	r := rand.New(rand.NewSource(1))
	lists := [][]api.Triple{said("a a a"), said("a a b"), said("_:a b \"x\""), numbered(300, 10), numbered(300, 200), numbered(129, 20), numbered(2, 20), numbered(43, 30)}
	for n := range 80 {
		lists = append(lists, someSentences(r, n), someSentences(r, n))
	}
	for _, list := range lists {
		if s, e, at := Build(list); s != plain(list) || e != api.OK || at != 0 {
			t.Fatalf("Build(%v) = %q, %d, %d,\nwant %q", list, s, e, at, plain(list))
		}
	}
}

// The widths of numbers change where the number of terms comes above a power of 2.
func TestX1BuildOfManyTerms(t *testing.T) {
	for n := 1; n <= 300; n++ {
		list := said("a p a")
		for _, other := range numbered(n-1, 20) {
			list = append(list, api.Triple{S: "<a:a>", P: "<a:p>", O: other.O})
		}
		if s, e, _ := Build(list); s != plain(list) || e != api.OK {
			t.Fatalf("Build of %d terms: %d", n+1, e)
		}
	}
}

func TestX1BuildRefuses(t *testing.T) {
	good := said("a p b")[0]
	for _, bad := range []api.Triple{
		{},
		{S: "<a:s>", P: "<a:p>"},
		{S: `"x"`, P: "<a:p>", O: "<a:o>"},
		{S: "<a:s>", P: "_:p", O: "<a:o>"},
		{S: "<a:s>", P: "<a:p>", O: `"x"@EN`},
		{S: "<a:s>", P: "<a:p>", O: "<a:" + x(197) + ">"},
		{S: "?s", P: "<a:p>", O: "<a:o>"},
	} {
		for place := range 3 {
			list := append(slices.Insert([]api.Triple{good, good}, place, bad), bad)
			if s, e, at := Build(list); s != "" || e != api.ErrTerm || at != place {
				t.Errorf("Build(%v) = %q, %d, %d, want ErrTerm at %d", list, s, e, at, place)
			}
		}
	}
	if s, e, at := Build(numbered(301, 10)); s != "" || e != api.ErrMany || at != 0 {
		t.Errorf("Build of 301: %.20q, %d, %d", s, e, at)
	}
	if s, e, at := Build(append(numbered(301, 10), api.Triple{})); s != "" || e != api.ErrTerm || at != 301 {
		t.Errorf("Build of 301 and one that is not sound: %.20q, %d, %d", s, e, at)
	}
	twice := slices.Concat(numbered(300, 10), numbered(300, 10))
	if s, e, _ := Build(twice); s != plain(numbered(300, 10)) || e != api.OK {
		t.Errorf("Build of 300, each twice: %d", e)
	}
}
