package ask

import (
	"math/rand"
	"slices"
	"strconv"
	"testing"
)

func TestMergeByHand(t *testing.T) {
	runs := []run{{{"a", "b"}, {"c", "a"}}, nil, {{"a", "a"}, {"a", "b"}, {"d", "a"}}, {{"a", "b"}}}
	want := [][]string{{"a", "a"}, {"a", "b"}, {"c", "a"}, {"d", "a"}}
	for _, runs := range orders(runs) {
		if rows := merge(runs); !sameRows(rows, want) {
			t.Errorf("merge(%v) = %v", runs, rows)
		}
	}
	if rows := merge([]run{nil, {{}}, {{}}}); !sameRows(rows, [][]string{{}}) {
		t.Errorf("merge of empty rows = %v", rows)
	}
	if rows := merge(nil); len(rows) != 0 {
		t.Errorf("merge of nothing = %v", rows)
	}
}

func TestMergeAgainstSorting(t *testing.T) {
	r := rand.New(rand.NewSource(6))
	for range 300 {
		var runs []run
		var all [][]string
		for range r.Intn(7) {
			var rows run
			for range r.Intn(9) {
				rows = append(rows, []string{strconv.Itoa(r.Intn(4)), strconv.Itoa(r.Intn(4))})
			}
			slices.SortFunc(rows, slices.Compare)
			runs = append(runs, rows)
			all = append(all, rows...)
		}
		slices.SortFunc(all, slices.Compare)
		all = slices.CompactFunc(all, slices.Equal)
		if rows := merge(runs); !sameRows(rows, all) {
			t.Fatalf("merge(%v) = %v, want %v", runs, rows, all)
		}
	}
}
