package dict

import (
	"encoding/binary"
	"math"
	"math/rand"
	"slices"
	"strings"
	"sync"
	"testing"

	"trine/api"
)

func x(n int) string { return strings.Repeat("x", n) }

// plain is the dict of rising texts, as the chapter says it.
func plain(list []string) string {
	out := binary.AppendUvarint(nil, uint64(len(list)))
	for i, text := range list {
		if i%4 != 0 {
			same := min(len(text), len(list[i-1]))
			for text[:same] != list[i-1][:same] {
				same--
			}
			out = binary.AppendUvarint(out, uint64(same))
			text = text[same:]
		}
		out = binary.AppendUvarint(out, uint64(len(text)))
		out = append(out, text...)
	}
	return string(out)
}

// someTexts is rising texts that share much.
func someTexts(r *rand.Rand, count int) []string {
	pieces := []string{"a", "b", "\x00", "\xff", "é", "", "ab", x(60), x(127)}
	var list []string
	for range count {
		var text string
		for range r.Intn(6) {
			text += pieces[r.Intn(len(pieces))]
		}
		list = append(list, text[:min(len(text), 200)])
	}
	slices.Sort(list)
	return slices.Compact(list)
}

func TestD1Build(t *testing.T) {
	for _, c := range []struct {
		list []string
		want string
	}{
		{nil, "\x00"},
		{[]string{}, "\x00"},
		{[]string{""}, "\x01\x00"},
		{[]string{"", "a"}, "\x02\x00\x00\x01a"},
		{[]string{"\x00", "\x00\x00", "\xff"}, "\x03\x01\x00\x01\x01\x00\x00\x01\xff"},
		{[]string{"a", "ab", "abc", "abcd", "abcde", "abcdf"}, "\x06\x01a\x01\x01b\x02\x01c\x03\x01d\x05abcde\x04\x01f"},
		{[]string{"é", "ê"}, "\x02\x02\xc3\xa9\x01\x01\xaa"}, // bytes are shared, not characters
		{[]string{"a", "b", "c", "d", "e", "f", "g", "h", "ha"}, "\x09\x01a\x00\x01b\x00\x01c\x00\x01d\x01e\x00\x01f\x00\x01g\x00\x01h\x02ha"},
		{[]string{x(127), x(200)}, "\x02\x7f" + x(127) + "\x7f\x49" + x(73)},
		{[]string{x(128), x(128) + "a"}, "\x02\x80\x01" + x(128) + "\x80\x01\x01a"},
		{[]string{"a", x(200)}, "\x02\x01a\x00\xc8\x01" + x(200)},
	} {
		before := slices.Clone(c.list)
		if s, e, at := Build(c.list); s != c.want || e != api.OK || at != 0 {
			t.Errorf("Build(%.40q) = %q, %d, %d, want %q", c.list, s, e, at, c.want)
		}
		if !slices.Equal(c.list, before) {
			t.Errorf("Build changed %q", before)
		}
	}
}

func TestD1BuildRefuses(t *testing.T) {
	for _, c := range []struct {
		list  []string
		e     api.Errno
		place int
	}{
		{[]string{"", ""}, api.ErrOrder, 1},
		{[]string{"a", ""}, api.ErrOrder, 1},
		{[]string{"a", "b", "b", "a"}, api.ErrOrder, 2},
		{[]string{"ab", "a"}, api.ErrOrder, 1},
		{[]string{"\xff", "a"}, api.ErrOrder, 1},
		{[]string{"a", "b", "c", "d", "c"}, api.ErrOrder, 4},
		{[]string{"a", "b", "c", "d", "d"}, api.ErrOrder, 4},
		{[]string{"a", "B"}, api.ErrOrder, 1},
		{[]string{x(201)}, api.ErrLong, 0},
		{[]string{"a", "b", x(201), x(202)}, api.ErrLong, 2},
		{[]string{x(200), x(201)}, api.ErrLong, 1},
		{[]string{x(201), x(202), "y", "y"}, api.ErrOrder, 3},
		{[]string{x(30000), x(30000)}, api.ErrOrder, 1},
	} {
		if s, e, at := Build(c.list); s != "" || e != c.e || at != c.place {
			t.Errorf("Build(%.40q) = %q, %d, %d, want %d, %d", c.list, s, e, at, c.e, c.place)
		}
	}
}

// holds holds each call of a dict against the list of its texts.
func holds(t *testing.T, d *Dict, list []string) {
	t.Helper()
	if d.Len() != len(list) {
		t.Fatalf("Len() = %d, want %d", d.Len(), len(list))
	}
	for i, text := range list {
		if got := d.Get(i); got != text {
			t.Errorf("Get(%d) = %q, want %q", i, got, text)
		}
		for _, s := range []string{text, text + "\x00", text + "x", text[:len(text)/2], strings.ToUpper(text)} {
			want := slices.Index(list, s)
			if got := d.Find(s); got != want {
				t.Errorf("Find(%q) = %d, want %d", s, got, want)
			}
		}
	}
	for _, i := range []int{-1, len(list), len(list) + 1, len(list) + 4, math.MinInt, math.MaxInt} {
		if got := d.Get(i); got != "" {
			t.Errorf("Get(%d) of %d = %q", i, len(list), got)
		}
	}
	for _, s := range []string{"", "\x00", "m", "\xff\xff\xff", x(201), x(50000)} {
		if got, want := d.Find(s), slices.Index(list, s); got != want {
			t.Errorf("Find(%.40q) = %d, want %d", s, got, want)
		}
	}
}

func TestD2OpenAnswersTheList(t *testing.T) {
	r := rand.New(rand.NewSource(1))
	lists := [][]string{nil, {""}, {"m"}, {x(200)}, {"", x(199), x(200)}}
	for count := range 40 {
		lists = append(lists, someTexts(r, count), someTexts(r, count))
	}
	for _, list := range lists {
		data, e, at := Build(list)
		if data != plain(list) || e != api.OK || at != 0 {
			t.Fatalf("Build(%q) = %q, %d, %d", list, data, e, at)
		}
		d, e := Open(data)
		if d == nil || e != api.OK {
			t.Fatalf("Open(%q) = %v, %d", data, d, e)
		}
		holds(t, d, list)
	}
}

func TestD2OpenRefuses(t *testing.T) {
	most := strings.Repeat("\xff", 8) + "\x7f" // as many as there can be
	for name, data := range map[string]string{
		"nothing":                        "",
		"a number cut off":               "\x80",
		"a number too great":             most + "\x01a",
		"a number longer than needed":    "\x81\x00\x01a",
		"bytes behind none":              "\x00\x00",
		"bytes behind the last":          "\x01\x01ab",
		"fewer texts than said":          "\x02\x01a",
		"many fewer texts than said":     most,
		"a text cut off":                 "\x01\x02a",
		"a text as long as can be":       "\x01" + most,
		"a length longer than needed":    "\x01\x81\x00a",
		"a rest cut off":                 "\x02\x01a\x01\x02b",
		"a rest as long as can be":       "\x02\x01a\x01" + most,
		"no rest":                        "\x02\x01a\x01",
		"the same text":                  "\x02\x01a\x01\x00",
		"the same empty text":            "\x02\x00\x00\x00",
		"the beginning of the one ahead": "\x02\x02ab\x01\x00",
		"a falling text":                 "\x02\x01b\x00\x01a",
		"a falling rest":                 "\x02\x02ab\x01\x01a",
		"less shared than could be":      "\x02\x01a\x00\x02ab",
		"nothing shared of much":         "\x02\x02ab\x00\x02ac",
		"one more shared than there is":  "\x02\x01a\x02\x01b",
		"all shared of nothing":          "\x02\x00\x01\x01b",
		"much shared of little":          "\x02\x01a" + most + "\x01b",
		"a number longer, of the shared": "\x02\x01a\x81\x00\x01b",
		"the same text in a new block":   "\x05\x01a\x00\x01b\x00\x01c\x00\x01d\x01d",
		"a falling text in a new block":  "\x05\x01a\x00\x01b\x00\x01c\x00\x01d\x01a",
		"shared across blocks":           "\x05\x01a\x00\x01b\x00\x01c\x00\x01d\x01\x01a",
		"too long a text":                "\x01\xc9\x01" + x(201),
		"too long by its rest":           "\x02\xc8\x01" + x(200) + "\xc8\x01\x01x",
		"too long, and much of it":       "\x01\xc0\x84\x3d" + x(1000000),
	} {
		if d, e := Open(data); d != nil || e != api.ErrBytes {
			t.Errorf("%s: Open(%.40q) = %v, %d", name, data, d, e)
		}
	}
}

// short is the dicts of all lists of texts of these bytes, as far as they have at most so many bytes.
func short(texts []string, most int) map[string][]string {
	found := map[string][]string{}
	var grow func(list []string)
	grow = func(list []string) {
		data := plain(list)
		if len(data) > most {
			return
		}
		found[data] = list
		for _, text := range texts {
			if len(list) == 0 || list[len(list)-1] < text {
				grow(append(slices.Clone(list), text))
			}
		}
	}
	grow(nil)
	return found
}

// Of all short data Open takes just what is the dict of some list.
func TestD2OpenOfAllShortData(t *testing.T) {
	const signs, most = "\x00\x01\x02\x03\x05", 6
	all := [][]string{{""}}
	for n := range most {
		var next []string
		for _, s := range all[n] {
			for _, c := range signs {
				next = append(next, s+string(c))
			}
		}
		all = append(all, next)
	}
	dicts := short(slices.Concat(all[:most-1]...), most)
	taken := 0
	for _, data := range slices.Concat(all...) {
		d, e := Open(data)
		list, there := dicts[data]
		if !there {
			if d != nil || e != api.ErrBytes {
				t.Fatalf("Open(%q) = %v, %d", data, d, e)
			}
			continue
		}
		taken++
		if d == nil || e != api.OK {
			t.Fatalf("Open(%q) = %v, %d, want the dict of %q", data, d, e, list)
		}
		holds(t, d, list)
	}
	if taken < 30 {
		t.Errorf("only %d of them are dicts", taken)
	}
}

// What Open takes of turned, longer and shorter data is again what Build answers.
func TestD2OpenOfChangedData(t *testing.T) {
	r := rand.New(rand.NewSource(2))
	taken, refused := 0, 0
	for range 20000 {
		data := []byte(plain(someTexts(r, r.Intn(12))))
		at := r.Intn(len(data))
		switch r.Intn(4) {
		case 0:
			data[at] ^= 1 << r.Intn(8)
		case 1:
			data = slices.Insert(data, at, byte(r.Intn(4)))
		case 2:
			data = slices.Delete(data, at, at+1)
		case 3:
			data[at] += byte(r.Intn(3)) - 1
		}
		d, e := Open(string(data))
		if e == api.ErrBytes && d == nil {
			refused++
			continue
		}
		var list []string
		for i := range d.Len() {
			list = append(list, d.Get(i))
		}
		if taken++; e != api.OK || !slices.IsSorted(list) || plain(list) != string(data) {
			t.Fatalf("Open(%q) = %q, %d", data, list, e)
		}
	}
	if taken < 1000 || refused < 1000 {
		t.Errorf("the data say little: %d taken, %d refused", taken, refused)
	}
}

// Texts which share much are many in few bytes: they must not take more than these by far.
func TestD2ManyTexts(t *testing.T) {
	var list []string
	for i := range 200000 {
		list = append(list, x(190)+string([]byte{byte(i >> 16), byte(i >> 8), byte(i)}))
	}
	data, e, at := Build(list)
	if e != api.OK || at != 0 {
		t.Fatalf("Build of many: %d, %d", e, at)
	}
	d, e := Open(data)
	if e != api.OK || d.Len() != len(list) {
		t.Fatalf("Open of many: %d", e)
	}
	for i := 0; i < len(list); i += 777 {
		if d.Get(i) != list[i] || d.Find(list[i]) != i || d.Find(list[i]+"\x00") != -1 {
			t.Errorf("text %d of many", i)
		}
	}
	if d, e := Open(data + "\x00"); d != nil || e != api.ErrBytes {
		t.Errorf("Open of many and a byte: %d", e)
	}
}

func TestD2NoDictDoesNotPanic(t *testing.T) {
	none, _ := Open("")
	holds(t, none, nil)
	holds(t, new(Dict), nil)
}

func TestD2CallsAtTheSameTime(t *testing.T) {
	list := someTexts(rand.New(rand.NewSource(3)), 100)
	data := plain(list)
	d, _ := Open(data)
	var all sync.WaitGroup
	for range 8 {
		all.Go(func() {
			holds(t, d, list)
			if s, _, _ := Build(list); s != data {
				t.Errorf("Build answers another one beside other calls")
			}
		})
	}
	all.Wait()
}
