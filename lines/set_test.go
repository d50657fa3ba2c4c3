package lines

import (
	"fmt"
	"math/rand"
	"slices"
	"sync"
	"testing"

	"trine/api"
)

// numbered is n sentences that differ, falling.
func numbered(n int) []api.Triple {
	var out []api.Triple
	for i := range n {
		out = append(out, api.Triple{S: "<a:s>", P: "<a:p>", O: fmt.Sprintf(`"%06d"`, n-i)})
	}
	return out
}

func TestL2SetRisesByTheBytes(t *testing.T) {
	want := []api.Triple{
		{S: "<a:a>", P: "<b:z>", O: `"z"`},
		{S: "<a:aa>", P: "<b:a>", O: `"a"`},
		{S: "<a:b>", P: "<a:a>", O: `"a"`},
		{S: "<a:b>", P: "<a:a>", O: `"a"@de`},
		{S: "<a:b>", P: "<a:a>", O: `"aa"`},
		{S: "<a:b>", P: "<a:a>", O: `"é"`},
		{S: "<a:b>", P: "<a:a>", O: `"😀"`},
		{S: "<a:b>", P: "<a:a>", O: "<a:a>"},
		{S: "<a:b>", P: "<a:a>", O: "_:a"},
		{S: "<a:b>", P: "<a:b>", O: `"a"`},
		{S: "_:A", P: "<a:a>", O: `"a"`},
		{S: "_:a", P: "<a:a>", O: `"a"`},
	}
	r := rand.New(rand.NewSource(5))
	for range 50 {
		list := append(slices.Clone(want), want[r.Intn(len(want))], want[r.Intn(len(want))])
		r.Shuffle(len(list), func(i, j int) { list[i], list[j] = list[j], list[i] })
		before := slices.Clone(list)
		set, number, place := Set(list)
		if told(set) != told(want) || number != api.OK || place != 0 {
			t.Fatalf("Set = %q, %d, %d", told(set), number, place)
		}
		if !slices.Equal(list, before) {
			t.Fatalf("what was handed in has changed")
		}
	}
}

func TestL2SetOfFew(t *testing.T) {
	for _, list := range [][]api.Triple{nil, {}} {
		if set, number, place := Set(list); len(set) != 0 || number != api.OK || place != 0 {
			t.Errorf("Set of nothing = %v, %d, %d", set, number, place)
		}
	}
	list := numbered(3)
	slices.Reverse(list)
	set, _, _ := Set(list)
	set[0].O = "x"
	if list[0].O == "x" {
		t.Errorf("the answer shares what was handed in")
	}
}

func TestL2SetRefuses(t *testing.T) {
	good := api.Triple{S: "_:b", P: "<a:p>", O: `"x"`}
	bad := []api.Triple{
		{},
		{S: `"x"`, P: "<a:p>", O: "_:b"},
		{S: "_:b", P: "_:b", O: "_:b"},
		{S: "_:b", P: `"x"`, O: "_:b"},
		{S: "_:b", P: "<a:p>", O: "x"},
		{S: "_:b", P: "<a:p>", O: `"x"@EN`},
		{S: `<a:\u0062>`, P: "<a:p>", O: "_:b"},
		{S: "_:b", P: "<a:" + x(197) + ">", O: "_:b"},
		{S: "_:b", P: "<a:p>", O: ""},
	}
	for _, b := range bad {
		for place := range 3 {
			list := slices.Insert([]api.Triple{good, good}, place, b)
			list = append(list, b)
			set, number, at := Set(list)
			if len(set) != 0 || number != api.ErrTerm || at != place {
				t.Errorf("Set of %v = %v, %d, %d", list, set, number, at)
			}
			text, number, at := Print(list)
			if text != "" || number != api.ErrTerm || at != place {
				t.Errorf("Print of %v = %q, %d, %d", list, text, number, at)
			}
		}
	}
}

func TestL2SetCountsSentencesThatDiffer(t *testing.T) {
	list := numbered(300)
	if set, number, place := Set(slices.Concat(list, list, list)); len(set) != 300 || number != api.OK || place != 0 || set[0] != list[299] || set[299] != list[0] {
		t.Errorf("Set of 300 = %d, %d, %d", len(set), number, place)
	}
	for _, n := range []int{301, 302, 5000} {
		if set, number, place := Set(numbered(n)); len(set) != 0 || number != api.ErrMany || place != 0 {
			t.Errorf("Set of %d = %d, %d, %d", n, len(set), number, place)
		}
		if text, number, place := Print(numbered(n)); text != "" || number != api.ErrMany || place != 0 {
			t.Errorf("Print of %d = %.20q, %d, %d", n, text, number, place)
		}
	}
	// the one that is not sound comes first, however far behind
	if _, number, place := Set(append(numbered(400), api.Triple{})); number != api.ErrTerm || place != 400 {
		t.Errorf("Set of 400 and one that is not sound = %d, %d", number, place)
	}
}

func TestL2Print(t *testing.T) {
	for _, c := range []struct {
		list []api.Triple
		want string
	}{
		{nil, ""},
		{[]api.Triple{{S: "_:b", P: "<a:p>", O: `"\n\" ."@en`}}, `_:b <a:p> "\n\" ."@en .` + "\n"},
		{[]api.Triple{{S: "_:b", P: "<a:p>", O: `"x"`}, {S: "<a:b>", P: "<a:p>", O: "_:b"}, {S: "_:b", P: "<a:p>", O: `"x"`}},
			"<a:b> <a:p> _:b .\n_:b <a:p> \"x\" .\n"},
	} {
		if text, number, place := Print(c.list); text != c.want || number != api.OK || place != 0 {
			t.Errorf("Print(%v) = %q, %d, %d", c.list, text, number, place)
		}
	}
}

// What is printed is read again as the same set; a full set of long terms is a text too long to be read.
func TestL2PrintAndParse(t *testing.T) {
	list := append(numbered(290), api.Triple{S: "_:b", P: "<a:é>", O: "\"\t#\\n.\\\\\"^^<a:b>"}, api.Triple{S: "_:b", P: "<a:é>", O: `"x"@en`})
	set, _, _ := Set(list)
	text, number, _ := Print(list)
	again, number2, place := Parse(text)
	if number != api.OK || number2 != api.OK || place != 0 || !slices.Equal(set, again) {
		t.Errorf("%d, %d, %d: %q", number, number2, place, told(again))
	}
	var long []api.Triple
	for i := range 300 {
		long = append(long, api.Triple{S: "<a:" + x(196) + ">", P: "<a:" + x(196) + ">", O: fmt.Sprintf(`"%0198d"`, i)})
	}
	if text, number, _ := Print(long); number != api.OK || len(text) != 300*605 {
		t.Errorf("Print of long ones = %d bytes, %d", len(text), number)
	}
}

func TestL2CallsAtTheSameTime(t *testing.T) {
	list := numbered(100)
	want, _, _ := Print(list)
	var group sync.WaitGroup
	for range 8 {
		group.Go(func() {
			text, _, _ := Print(list)
			set, _, _ := Parse(text)
			if text != want || len(set) != 100 {
				t.Errorf("another answer at the same time")
			}
		})
	}
	group.Wait()
}
