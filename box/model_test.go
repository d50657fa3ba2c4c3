package box

import (
	"cmp"
	"encoding/binary"
	"fmt"
	"hash/crc32"
	"math/big"
	"math/rand"
	"slices"
	"strings"
	"testing"

	"trine/api"
)

func x(n int) string { return strings.Repeat("x", n) }

// said is sentences of short names: "a p b" is of the iris <a:a>, <a:p> and <a:b>; a name that begins with _ or " is a blank or a literal.
func said(sentences ...string) []api.Triple {
	var list []api.Triple
	for _, s := range sentences {
		f := strings.Fields(s)
		list = append(list, api.Triple{S: named(f[0]), P: named(f[1]), O: named(f[2])})
	}
	return list
}

func named(name string) string {
	switch name[0] {
	case '_', '"':
		return name
	}
	return "<a:" + name + ">"
}

func varint(n int) string { return string(binary.AppendUvarint(nil, uint64(n))) }

func sum(data string) string {
	return string(binary.LittleEndian.AppendUint32(nil, crc32.ChecksumIEEE([]byte(data))))
}

func section(data string) string { return varint(len(data)) + data + sum(data) }

func boxOf(texts, branches string) string { return "TRI1" + section(texts) + section(branches) }

// laid is the numbers as one great number, of which the first one has the lowest bits.
func laid(list []int, width int) string {
	all := new(big.Int)
	for i, n := range list {
		all.Or(all, new(big.Int).Lsh(big.NewInt(int64(n)), uint(i*width)))
	}
	out := all.FillBytes(make([]byte, (len(list)*width+7)/8))
	slices.Reverse(out)
	return string(out)
}

// plainDict is the first section's data, as chapter 5 says it.
func plainDict(list []string) string {
	out := varint(len(list))
	for i, text := range list {
		if i%4 != 0 {
			same := min(len(text), len(list[i-1]))
			for text[:same] != list[i-1][:same] {
				same--
			}
			out += varint(same)
			text = text[same:]
		}
		out += varint(len(text)) + text
	}
	return out
}

// branches is what the second section's data is made of.
type branches struct {
	counts                   [3]int
	subjects, verbs, objects []int
	lastVerbs, lastObjects   []int
	width                    int
}

func (b branches) String() string {
	out := ""
	for _, n := range b.counts {
		out += varint(n)
	}
	return out + laid(b.subjects, b.width) + laid(b.verbs, b.width) + laid(b.objects, b.width) + laid(b.lastVerbs, 1) + laid(b.lastObjects, 1)
}

// plainSet is the sentences, rising, each once.
func plainSet(list []api.Triple) []api.Triple {
	set := slices.Clone(list)
	slices.SortFunc(set, func(a, b api.Triple) int {
		return cmp.Or(strings.Compare(a.S, b.S), strings.Compare(a.P, b.P), strings.Compare(a.O, b.O))
	})
	return slices.Compact(set)
}

func plainTerms(list []api.Triple) []string {
	var terms []string
	for _, t := range list {
		terms = append(terms, t.S, t.P, t.O)
	}
	slices.Sort(terms)
	return slices.Compact(terms)
}

// plainBranches is the second section's data, as the chapter says it.
func plainBranches(list []api.Triple) branches {
	terms := plainTerms(list)
	var b branches
	for b.width = 1; len(terms) > 1<<b.width; b.width++ {
	}
	subjects, verbs, objects := map[string][]int{}, map[[2]string][]int{}, map[api.Triple]int{}
	for _, t := range plainSet(list) {
		if len(subjects[t.S]) == 0 {
			b.subjects = append(b.subjects, slices.Index(terms, t.S))
		}
		if len(verbs[[2]string{t.S, t.P}]) == 0 {
			subjects[t.S] = append(subjects[t.S], len(b.verbs))
			b.verbs = append(b.verbs, slices.Index(terms, t.P))
		}
		verbs[[2]string{t.S, t.P}] = append(verbs[[2]string{t.S, t.P}], len(b.objects))
		objects[t] = len(b.objects)
		b.objects = append(b.objects, slices.Index(terms, t.O))
	}
	b.lastVerbs, b.lastObjects = make([]int, len(b.verbs)), make([]int, len(b.objects))
	for _, places := range subjects {
		b.lastVerbs[slices.Max(places)] = 1
	}
	for _, places := range verbs {
		b.lastObjects[slices.Max(places)] = 1
	}
	b.counts = [3]int{len(b.subjects), len(b.verbs), len(b.objects)}
	return b
}

// plain is the box of a list, as the chapter says it.
func plain(list []api.Triple) string {
	return boxOf(plainDict(plainTerms(list)), plainBranches(list).String())
}

// someSentences is sentences of few terms, so that they share subjects and verbs.
func someSentences(r *rand.Rand, count int) []api.Triple {
	names := []string{"a", "b", "ab", "c", "_:b", "_:B1", "p", "q", `"x"`, `"x"@en`, `"x"^^<a:b>`, "abc", "abcd", "é"}
	var list []api.Triple
	for range count {
		list = append(list, api.Triple{S: named(names[r.Intn(6)]), P: named(names[[]int{0, 1, 6, 7}[r.Intn(4)]]), O: named(names[r.Intn(len(names))])})
	}
	return list
}

// numbered is n sentences that differ, of two terms of that many bytes each beside their number.
func numbered(n, bytes int) []api.Triple {
	var list []api.Triple
	for i := range n {
		list = append(list, api.Triple{S: fmt.Sprintf("<a:%03d%s>", i, x(bytes-7)), P: "<a:p>", O: fmt.Sprintf(`"%03d%s"`, i, x(bytes-5))})
	}
	return list
}

// opened is the box of the list.
func opened(t *testing.T, list []api.Triple) *Box {
	t.Helper()
	b, e, at := Open(plain(list))
	if b == nil || e != api.OK || at != 0 {
		t.Fatalf("Open of the box of %.300q: %v, %d, %d", list, b, e, at)
	}
	return b
}
