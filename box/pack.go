package box

import (
	"slices"

	"trine/api"
	"trine/bits"
	"trine/dict"
	"trine/parcel"
)

// mark is what a box begins with.
const mark = "TRI1"

// pack is the box of a set.
func pack(set []api.Triple) string {
	terms := termsOf(set)
	// Terms of a set rise once they are sorted, and none is too long for a dict.
	texts, _, _ := dict.Build(terms)
	var out writer
	out.WriteString(mark)
	out.section(texts)
	out.section(packTree(set, terms))
	return out.String()
}

// termsOf is all terms of the sentences, each once, rising.
func termsOf(set []api.Triple) []string {
	var terms []string
	for _, t := range set {
		terms = append(terms, t.S, t.P, t.O)
	}
	slices.Sort(terms)
	return slices.Compact(terms)
}

// writer writes the parts of a box.
type writer struct{ parcel.Writer }

// section writes data with how long it is and its sum.
func (w *writer) section(data string) {
	w.Text(data)
	w.WriteString(bits.Sum(data))
}

// packed writes numbers which are all below 2 to the power of width.
func (w *writer) packed(list []int, width int) {
	data, _, _ := bits.Pack(list, width)
	w.WriteString(data)
}

// packTree is the data of the second section.
func packTree(set []api.Triple, terms []string) string {
	number := numberIn(terms)
	var c columns
	for i, t := range set {
		c.add(t, behind(set, i), number)
	}
	width := bits.Width(len(terms))
	var out writer
	out.Number(len(c.subjects))
	out.Number(len(c.verbs))
	out.Number(len(c.objects))
	out.packed(c.subjects, width)
	out.packed(c.verbs, width)
	out.packed(c.objects, width)
	out.packed(c.lastVerbs, 1)
	out.packed(c.lastObjects, 1)
	return out.String()
}

// behind is the sentence behind number i; behind the last one an empty one, which shares no term with any.
func behind(set []api.Triple, i int) api.Triple {
	if i+1 == len(set) {
		return api.Triple{}
	}
	return set[i+1]
}

// numberIn answers what tells the number of one of the terms.
func numberIn(terms []string) func(string) int {
	return func(text string) int {
		n, _ := slices.BinarySearch(terms, text)
		return n
	}
}

// columns is a tree that grows: its numbers, and for each verb and object a bit that tells whether it is the last one of its subject's or pair's.
type columns struct {
	subjects, verbs, objects []int
	lastVerbs, lastObjects   []int
}

// add takes a sentence, of which the next one tells whether it is the last one of its subject and of its pair: with that one both are taken.
func (c *columns) add(t, next api.Triple, number func(string) int) {
	lastOfSubject := next.S != t.S
	lastOfPair := lastOfSubject || next.P != t.P
	if lastOfSubject {
		c.subjects = append(c.subjects, number(t.S))
	}
	if lastOfPair {
		c.verbs = append(c.verbs, number(t.P))
		c.lastVerbs = append(c.lastVerbs, bit(lastOfSubject))
	}
	c.objects = append(c.objects, number(t.O))
	c.lastObjects = append(c.lastObjects, bit(lastOfPair))
}

func bit(set bool) int {
	if set {
		return 1
	}
	return 0
}
