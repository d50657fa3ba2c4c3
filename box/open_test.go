package box

import (
	"math/rand"
	"slices"
	"strings"
	"testing"

	"trine/api"
)

func TestX2OpenAnswersTheSet(t *testing.T) {
	r := rand.New(rand.NewSource(2))
	lists := [][]api.Triple{nil, said("a a a"), said("_:a b \"x\""), numbered(300, 10), numbered(130, 200)}
	for n := range 80 {
		lists = append(lists, someSentences(r, n))
	}
	for _, list := range lists {
		b := opened(t, list)
		set := plainSet(list)
		if b.Len() != len(set) || !slices.Equal(b.Find(api.Triple{}), set) {
			t.Fatalf("Open of the box of %v: %d sentences, %v", list, b.Len(), b.Find(api.Triple{}))
		}
	}
}

func refused(t *testing.T, name, data string, number api.Errno, place int) {
	t.Helper()
	if b, e, at := Open(data); b != nil || e != number || at != place {
		t.Errorf("%s: Open(%.60q) = %v, %d, %d, want %d, %d", name, data, b, e, at, number, place)
	}
}

func TestX2OpenRefusesSections(t *testing.T) {
	first, second := byHand[4:34], byHand[34:]
	turned := func(s string, i int) string {
		b := []byte(s)
		b[(i+len(b))%len(b)] ^= 0x40
		return string(b)
	}
	bytes, sums := api.ErrBytes, api.ErrSum
	if section(first[1:26])+section(second[1:11]) != byHand[4:] {
		t.Fatalf("the sections are cut at other places")
	}
	most := strings.Repeat("\xff", 8) + "\x7f" // as long as can be
	for name, c := range map[string]struct {
		data   string
		number api.Errno
		place  int
	}{
		"nothing":                          {"", bytes, 0},
		"a part of the mark":               {"TRI", bytes, 0},
		"another mark":                     {"TRI2" + first + second, bytes, 0},
		"a mark in small letters":          {"tri1" + first + second, bytes, 0},
		"a byte ahead of the mark":         {" " + byHand, bytes, 0},
		"the mark alone":                   {"TRI1", bytes, 4},
		"no length":                        {"TRI1\x80", bytes, 4},
		"a length longer than needed":      {"TRI1\x99\x00" + first[1:] + second, bytes, 4},
		"a length as great as can be":      {"TRI1" + most + first[1:] + second, bytes, 4},
		"a length too great":               {"TRI1\xff" + most + first[1:] + second, bytes, 4},
		"half a first section":             {"TRI1" + first[:12], bytes, 4},
		"no sum":                           {"TRI1" + first[:26], bytes, 4},
		"three bytes of a sum":             {"TRI1" + first[:29], bytes, 4},
		"another sum":                      {"TRI1" + turned(first, -1) + second, sums, 4},
		"another first byte of the sum":    {"TRI1" + turned(first, 26) + second, sums, 4},
		"another text":                     {"TRI1" + turned(first, 5) + second, sums, 4},
		"another sum and no second":        {"TRI1" + turned(first, -1), sums, 4},
		"another sum of both":              {"TRI1" + turned(first, -1) + turned(second, -1), sums, 4},
		"another sum and a byte more":      {"TRI1" + turned(first, -1) + second + "x", sums, 4},
		"no second section":                {"TRI1" + first, bytes, 34},
		"no second length":                 {"TRI1" + first + "\x80\x80", bytes, 34},
		"half a second section":            {"TRI1" + first + second[:6], bytes, 34},
		"no second sum":                    {"TRI1" + first + second[:11], bytes, 34},
		"three bytes of the second sum":    {"TRI1" + first + second[:14], bytes, 34},
		"another second sum":               {"TRI1" + first + turned(second, -1), sums, 34},
		"another second sum and a byte":    {"TRI1" + first + turned(second, -1) + "x", sums, 34},
		"a second length as great":         {"TRI1" + first + most, bytes, 34},
		"a byte more":                      {byHand + "x", bytes, 50},
		"two boxes":                        {byHand + byHand, bytes, 98},
		"a byte more, and no dict":         {boxOf("x", "y") + "z", bytes, 17},
		"sections of nothing":              {boxOf("", ""), bytes, 0},
		"a broken first, turned round":     {"TRI1" + second + first, bytes, 0},
		"too long":                         {strings.Repeat("x", 60001), api.ErrLong, 0},
		"too long behind a box":            {byHand + x(60000), api.ErrLong, 0},
		"as long as may be, and no box":    {strings.Repeat("x", 60000), bytes, 0},
		"as long as may be, behind a box":  {byHand + x(60000-len(byHand)), bytes, 60000},
		"as long as may be, and no length": {"TRI1" + strings.Repeat("\xff", 59996), bytes, 4},
	} {
		refused(t, name, c.data, c.number, c.place)
	}
}

// Sections which are right in themselves, but of no box: each is told with place 0.
func TestX2OpenRefusesWhatBuildDoesNotAnswer(t *testing.T) {
	list := said("a p b", "a p c", "a q a", "b p a")
	terms := []string{"<a:a>", "<a:b>", "<a:c>", "<a:p>", "<a:q>"}
	dict := plainDict(terms)
	changed := func(change func(*branches)) string {
		b := plainBranches(list)
		change(&b)
		return boxOf(dict, b.String())
	}
	with := func(terms ...string) string { return boxOf(plainDict(terms), plainBranches(list).String()) }
	tree := plainBranches(list).String()
	if data := boxOf(dict, tree); data != byHand {
		t.Fatalf("the box is another one: %q", data)
	}
	for name, data := range map[string]string{
		"no dict":                    boxOf("x", tree),
		"a dict and a byte":          boxOf(dict+"\x00", tree),
		"a dict cut off":             boxOf(dict[:len(dict)-1], tree),
		"an empty dict":              boxOf("\x00", tree),
		"nothing but terms":          boxOf(dict, "\x00\x00\x00"),
		"a tree and a byte":          boxOf(dict, tree+"\x00"),
		"a tree cut off":             boxOf(dict, tree[:len(tree)-1]),
		"an empty tree":              boxOf(dict, ""),
		"an empty tree and no term":  boxOf("\x00", ""),
		"only its numbers":           boxOf(dict, "\x02\x03\x04"),
		"a tree of many":             boxOf(dict, "\xff\xff\xff\xff\xff\xff\xff\xff\x7f\x03\x04"+tree[3:]),
		"a tree of many pairs":       boxOf(dict, "\x02\xff\xff\xff\xff\xff\xff\xff\xff\x7f\x04"+tree[3:]),
		"a tree of many sentences":   boxOf(dict, "\x02\x03\xff\xff\xff\xff\xff\xff\xff\xff\x7f"+tree[3:]),
		"a number longer":            boxOf(dict, "\x82\x00\x03\x04"+tree[3:]),
		"a term more":                with("<a:a>", "<a:b>", "<a:c>", "<a:p>", "<a:q>", "<a:r>"),
		"a term ahead":               with("<a:0>", "<a:a>", "<a:b>", "<a:c>", "<a:p>", "<a:q>"),
		"a term less":                with("<a:a>", "<a:b>", "<a:c>", "<a:p>"),
		"a term that is none":        with("<a:a>", "<a:b>", "<a:c>", "<a:p>", "<a:q"),
		"an empty term":              with("", "<a:b>", "<a:c>", "<a:p>", "<a:q>"),
		"a term in another form":     with(`"x"@EN`, "<a:b>", "<a:c>", "<a:p>", "<a:q>"),
		"a literal as a subject":     with(`"x"`, "<a:b>", "<a:c>", "<a:p>", "<a:q>"),
		"a blank as a verb":          with("<a:a>", "<a:b>", "<a:c>", "<a:p>", "_:q"),
		"a subject too great":        changed(func(b *branches) { b.subjects[1] = 7 }),
		"a verb too great":           changed(func(b *branches) { b.verbs[1] = 5 }),
		"an object too great":        changed(func(b *branches) { b.objects[3] = 6 }),
		"subjects the same":          changed(func(b *branches) { b.subjects[1] = 0 }),
		"subjects that fall":         changed(func(b *branches) { b.subjects = []int{1, 0} }),
		"verbs the same":             changed(func(b *branches) { b.verbs[1] = 3 }),
		"verbs that fall":            changed(func(b *branches) { b.verbs = []int{4, 3, 3} }),
		"objects the same":           changed(func(b *branches) { b.objects[1] = 1 }),
		"objects that fall":          changed(func(b *branches) { b.objects = []int{2, 1, 0, 0} }),
		"a subject without its last": changed(func(b *branches) { b.lastVerbs[1] = 0 }),
		"a subject with two last":    changed(func(b *branches) { b.lastVerbs[0] = 1 }),
		"no last verb":               changed(func(b *branches) { b.lastVerbs[2] = 0 }),
		"no last verb at all":        changed(func(b *branches) { b.lastVerbs = []int{0, 0, 0} }),
		"a pair without its last":    changed(func(b *branches) { b.lastObjects[1] = 0 }),
		"a pair with two last":       changed(func(b *branches) { b.lastObjects[0] = 1 }),
		"no last object":             changed(func(b *branches) { b.lastObjects[3] = 0 }),
		"no last object at all":      changed(func(b *branches) { b.lastObjects = []int{0, 0, 0, 0} }),
		"another width":              changed(func(b *branches) { b.width = 4 }),
		"a small width":              changed(func(b *branches) { b.width = 2 }),
		"a bit behind the subjects":  changed(func(b *branches) { b.subjects = []int{0, 1, 1} }),
		"a bit behind the verbs":     changed(func(b *branches) { b.verbs = append(b.verbs, 1) }),
		"a bit behind the objects":   changed(func(b *branches) { b.objects = append(b.objects, 4) }),
		"a bit behind the last":      changed(func(b *branches) { b.lastVerbs = append(b.lastVerbs, 1) }),
		"a bit behind all":           changed(func(b *branches) { b.lastObjects = append(b.lastObjects, 1) }),
		"a subject less": changed(func(b *branches) {
			b.counts[0], b.subjects = 1, b.subjects[:1]
		}),
		"a subject without verbs": changed(func(b *branches) {
			b.counts[0], b.subjects = 3, []int{0, 1, 2}
		}),
		"a pair without objects": changed(func(b *branches) {
			b.counts[1], b.verbs, b.lastVerbs = 4, []int{3, 4, 3, 4}, []int{0, 1, 0, 1}
		}),
		"an object of no pair": changed(func(b *branches) {
			b.counts[2], b.objects, b.lastObjects = 5, []int{1, 2, 0, 0, 1}, []int{0, 1, 1, 1, 1}
		}),
		"a verb of no subject": changed(func(b *branches) {
			b.counts[1], b.verbs, b.lastVerbs = 4, []int{3, 4, 3, 4}, []int{0, 1, 1, 1}
			b.counts[2], b.objects, b.lastObjects = 5, []int{1, 2, 0, 0, 1}, []int{0, 1, 1, 1, 1}
		}),
		"more than a set has": plain(numbered(301, 10)),
	} {
		refused(t, name, data, api.ErrBytes, 0)
	}
}

// The longest box that may be opened, and one byte more.
func TestX2OpenOfLongBoxes(t *testing.T) {
	list := numbered(160, 200)
	shorten := func(i int) { list[i].O = strings.Replace(list[i].O, "x", "", 1) }
	for i := range len(plain(list)) - 60001 {
		shorten(i % len(list))
	}
	if data, e, _ := Build(list); len(data) != 60001 || e != api.OK {
		t.Fatalf("Build of %d bytes: %d", len(data), e)
	}
	refused(t, "60001 bytes", plain(list), api.ErrLong, 0)
	shorten(len(list) - 1)
	if len(plain(list)) != 60000 {
		t.Fatalf("it has %d bytes", len(plain(list)))
	}
	if b := opened(t, list); b.Len() != len(list) || !slices.Equal(b.Find(api.Triple{}), plainSet(list)) {
		t.Errorf("Open of 60000 bytes: %d sentences", b.Len())
	}
}

// Whatever Open takes of boxes with changed sections is again what Build answers; what has not changed it takes.
func TestX2OpenOfChangedSections(t *testing.T) {
	r := rand.New(rand.NewSource(3))
	change := func(s string) string {
		data := []byte(s)
		at := r.Intn(len(data))
		switch r.Intn(6) {
		case 0:
			data[at] ^= 1 << r.Intn(8)
		case 1:
			data = slices.Insert(data, at, byte(r.Intn(4)))
		case 2:
			data = slices.Delete(data, at, at+1)
		case 3:
			data[at] += byte(r.Intn(3)) - 1
		}
		return string(data)
	}
	taken, refused := 0, 0
	for range 20000 {
		list := someSentences(r, r.Intn(10))
		data := boxOf(change(plainDict(plainTerms(list))), change(plainBranches(list).String()))
		b, e, at := Open(data)
		if e == api.ErrBytes && b == nil && at == 0 && data != plain(list) {
			refused++
			continue
		}
		if taken++; e != api.OK || at != 0 || plain(b.Find(api.Triple{})) != data {
			t.Fatalf("Open(%q) = %v, %d, %d", data, b, e, at)
		}
	}
	if taken < 1000 || refused < 1000 {
		t.Errorf("the data say little: %d taken, %d refused", taken, refused)
	}
}

// Each byte of a box turned, and each beginning of it, is told with the place where it is wrong.
func TestX2OpenOfTurnedBytes(t *testing.T) {
	for i := range byHand {
		place := 34
		if i < 4 {
			place = 0
		} else if i < 34 {
			place = 4
		}
		refused(t, "cut off", byHand[:i], api.ErrBytes, place)
		for turn := 1; turn < 256; turn++ {
			data := []byte(byHand)
			data[i] ^= byte(turn)
			b, e, at := Open(string(data))
			lengths := i == 4 || i == 34 // another length cuts the sections elsewhere
			if b != nil || e != api.ErrBytes && e != api.ErrSum || at != place && !lengths || i >= 4 && !lengths && e != api.ErrSum {
				t.Errorf("byte %d turned by %d: %v, %d, %d", i, turn, b, e, at)
			}
		}
	}
}
