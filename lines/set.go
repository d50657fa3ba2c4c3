package lines

import (
	"cmp"
	"slices"
	"strings"

	"trine/api"
	"trine/fault"
	"trine/limits"
	"trine/term"
)

// setOf is the set of the sentences of list, if all of them are sound.
func setOf(list []api.Triple) ([]api.Triple, error) {
	for i, t := range list {
		if !term.Sound(t) {
			return nil, fault.At(i, fault.New(api.ErrTerm))
		}
	}
	return rising(list)
}

// rising is the sentences of list, each once. Each is put where it belongs at once, so that no more is kept of a long list than a set may have.
func rising(list []api.Triple) ([]api.Triple, error) {
	var set []api.Triple
	for _, t := range list {
		i, there := slices.BinarySearchFunc(set, t, compare)
		if there {
			continue
		}
		if len(set) == limits.MaxSet {
			return nil, fault.New(api.ErrMany)
		}
		set = slices.Insert(set, i, t)
	}
	return set, nil
}

func compare(a, b api.Triple) int {
	return cmp.Or(strings.Compare(a.S, b.S), strings.Compare(a.P, b.P), strings.Compare(a.O, b.O))
}
