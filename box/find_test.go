package box

import (
	"math/rand"
	"slices"
	"sync"
	"testing"

	"trine/api"
)

// filtered is the sentences of the set that have the pattern's terms.
func filtered(set []api.Triple, pattern api.Triple) []api.Triple {
	fits := func(want, term string) bool { return want == "" || want == term }
	var out []api.Triple
	for _, t := range set {
		if fits(pattern.S, t.S) && fits(pattern.P, t.P) && fits(pattern.O, t.O) {
			out = append(out, t)
		}
	}
	return out
}

// holds holds Find, Each and Has against the set, for all patterns of the texts.
func holds(t *testing.T, b *Box, set []api.Triple, texts []string) {
	t.Helper()
	for _, s := range texts {
		for _, p := range texts {
			for _, o := range texts {
				pattern := api.Triple{S: s, P: p, O: o}
				want := filtered(set, pattern)
				if got := b.Find(pattern); !slices.Equal(got, want) {
					t.Errorf("Find(%v) = %v, want %v", pattern, got, want)
				}
				if got := slices.Collect(b.Each(pattern)); !slices.Equal(got, want) {
					t.Errorf("Each(%v) hands out %v, want %v", pattern, got, want)
				}
				if got := b.Has(pattern); got != slices.Contains(set, pattern) {
					t.Errorf("Has(%v) = %v", pattern, got)
				}
			}
		}
	}
}

func TestX3FindEachAndHas(t *testing.T) {
	r := rand.New(rand.NewSource(4))
	strange := []string{"", "x", "<a:", "<a:zz>", "_:zz", `"`, "?x", x(300), "\xff"}
	for _, n := range []int{0, 1, 2, 3, 5, 8, 13, 30, 80, 250} {
		list := someSentences(r, n)
		holds(t, opened(t, list), plainSet(list), append(plainTerms(list), strange...))
	}
	list := numbered(300, 12)
	holds(t, opened(t, list), list, []string{"", list[0].S, list[7].S, list[299].S, "<a:p>", list[0].O, list[7].O, list[299].O})
}

func TestX3EachEndsWhenNoMoreIsWanted(t *testing.T) {
	list := someSentences(rand.New(rand.NewSource(5)), 100)
	b := opened(t, list)
	for _, pattern := range []api.Triple{{}, {S: "<a:a>"}, {P: "<a:p>"}, {O: `"x"`}, {S: "<a:b>", O: `"x"`}, {S: "<a:b>", P: "<a:p>"}, {S: "x"}} {
		all := filtered(plainSet(list), pattern)
		each := b.Each(pattern)
		for most := range len(all) + 2 {
			var got []api.Triple
			ended := false
			each(func(found api.Triple) bool {
				if ended {
					t.Fatalf("Each(%v) hands out more than is wanted", pattern)
				}
				got = append(got, found)
				ended = len(got) >= most
				return !ended
			})
			if want := all[:min(max(most, 1), len(all))]; !slices.Equal(got, want) {
				t.Errorf("Each(%v), %d wanted, hands out %v", pattern, most, got)
			}
		}
	}
}

func TestX3FindAnswersNewMemory(t *testing.T) {
	list := said("a p b", "a p c")
	b := opened(t, list)
	first := b.Find(api.Triple{})
	first[0] = api.Triple{}
	_ = append(first[:1], api.Triple{})
	if second := b.Find(api.Triple{}); !slices.Equal(second, list) || b.Len() != 2 {
		t.Errorf("an answer shares memory with another one: %v", second)
	}
}

func TestX3NoBoxDoesNotPanic(t *testing.T) {
	none, _, _ := Open("")
	for _, b := range []*Box{none, new(Box), opened(t, nil)} {
		if b.Len() != 0 {
			t.Errorf("Len() of nothing = %d", b.Len())
		}
		holds(t, b, nil, []string{"", "<a:a>", `"x"`, "x"})
	}
}

func TestX3CallsAtTheSameTime(t *testing.T) {
	list := someSentences(rand.New(rand.NewSource(6)), 60)
	b := opened(t, list)
	each := b.Each(api.Triple{P: "<a:p>"})
	want := filtered(plainSet(list), api.Triple{P: "<a:p>"})
	var all sync.WaitGroup
	for range 8 {
		all.Go(func() {
			holds(t, b, plainSet(list), []string{"", "<a:a>", "<a:p>", `"x"`})
			if got := slices.Collect(each); !slices.Equal(got, want) {
				t.Errorf("Each beside other calls hands out %v", got)
			}
			if s, e, _ := Build(list); s != plain(list) || e != api.OK {
				t.Errorf("Build beside other calls: %d", e)
			}
		})
	}
	all.Wait()
}
