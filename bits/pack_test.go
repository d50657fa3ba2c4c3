package bits

import (
	"math"
	"math/big"
	"slices"
	"strings"
	"testing"

	"trine/api"
)

func TestWidth(t *testing.T) {
	for n, want := range map[int]int{
		math.MinInt: 1, -5: 1, -1: 1, 0: 1, 1: 1, 2: 1, 3: 2, 4: 2, 5: 3, 8: 3, 9: 4, 256: 8, 257: 9,
		1 << 61: 61, 1<<61 + 1: 62, 1<<62 - 1: 62, 1 << 62: 62, 1<<62 + 1: 62, math.MaxInt: 62,
	} {
		if w := Width(n); w != want {
			t.Errorf("B4: Width(%d) = %d, want %d", n, w, want)
		}
	}
	for w := 2; w <= 62; w++ {
		if a, b := Width(1<<(w-1)+1), Width(1<<w); a != w || b != w {
			t.Errorf("B4: the numbers that need %d bits: %d, %d", w, a, b)
		}
	}
}

// packed is the list as one great number, of which the first one has the lowest bits.
func packed(list []int, width int) string {
	all := new(big.Int)
	for i, n := range list {
		all.Or(all, new(big.Int).Lsh(big.NewInt(int64(n)), uint(i*width)))
	}
	out := all.FillBytes(make([]byte, (len(list)*width+7)/8))
	slices.Reverse(out)
	return string(out)
}

// sample is count numbers of that width: the greatest, 0, and mixed ones.
func sample(count int, width int) []int {
	var list []int
	for i := range count {
		mixed := int(uint64(i+1) * 0x9E3779B97F4A7C15 >> (64 - width))
		list = append(list, []int{1<<width - 1, 0, mixed, 1, mixed}[i%5])
	}
	return list
}

func TestPack(t *testing.T) {
	for _, c := range []struct {
		list  []int
		width int
		want  string
	}{
		{nil, 1, ""},
		{[]int{}, 62, ""},
		{[]int{0}, 1, "\x00"},
		{[]int{1, 0, 1, 1, 0, 0, 0, 0, 1}, 1, "\x0d\x01"},
		{[]int{1, 2, 3}, 3, "\xd1\x00"},
		{[]int{255, 1}, 8, "\xff\x01"},
		{[]int{0x123, 0x456}, 12, "\x23\x61\x45"},
		{[]int{1<<62 - 1}, 62, "\xff\xff\xff\xff\xff\xff\xff\x3f"},
		{[]int{0, 1<<62 - 1}, 62, "\x00\x00\x00\x00\x00\x00\x00\xc0\xff\xff\xff\xff\xff\xff\xff\x0f"},
	} {
		s, e, at := Pack(c.list, c.width)
		if s != c.want || e != api.OK || at != 0 {
			t.Errorf("B5: Pack(%v, %d) = %x, %d, %d, want %x", c.list, c.width, s, e, at, c.want)
		}
	}
}

func TestPackAndUnpackOfAllWidths(t *testing.T) {
	for width := 1; width <= 62; width++ {
		for count := range 20 {
			list := sample(count, width)
			want := packed(list, width)
			if s, e, at := Pack(list, width); s != want || e != api.OK || at != 0 {
				t.Errorf("B5: Pack(%v, %d) = %x, %d, %d, want %x", list, width, s, e, at, want)
			}
			if l, e := Unpack(want, width, count); !slices.Equal(l, list) || e != api.OK {
				t.Errorf("B5: Unpack(%x, %d, %d) = %v, %d, want %v", want, width, count, l, e, list)
			}
		}
	}
}

func TestPackRefuses(t *testing.T) {
	for _, c := range []struct {
		list  []int
		width int
		place int
	}{
		{nil, 0, 0},
		{nil, 63, 0},
		{nil, -1, 0},
		{[]int{0, 9}, 0, 0},
		{[]int{0, -1}, 63, 0},
		{[]int{0, -1}, math.MinInt, 0},
		{[]int{0, -1}, math.MaxInt, 0},
		{[]int{2}, 1, 0},
		{[]int{-1}, 3, 0},
		{[]int{1, 8}, 3, 1},
		{[]int{7, 0, 8, -1}, 3, 2},
		{[]int{7, 0, -1, 8}, 3, 2},
		{[]int{1<<62 - 1, 1 << 62}, 62, 1},
		{[]int{0, math.MinInt}, 62, 1},
		{[]int{0, 0, math.MaxInt}, 62, 2},
	} {
		s, e, at := Pack(c.list, c.width)
		if s != "" || e != api.ErrRange || at != c.place {
			t.Errorf("B5: Pack(%v, %d) = %x, %d, %d, want ErrRange at %d", c.list, c.width, s, e, at, c.place)
		}
	}
}

func TestPackAtTheEdgeOfEachWidth(t *testing.T) {
	for width := 1; width <= 62; width++ {
		if _, e, _ := Pack([]int{1<<width - 1}, width); e != api.OK {
			t.Errorf("B5: the greatest number of width %d: %d", width, e)
		}
		if s, e, at := Pack([]int{0, 1 << width}, width); s != "" || e != api.ErrRange || at != 1 {
			t.Errorf("B5: one above the greatest of width %d: %x, %d, %d", width, s, e, at)
		}
	}
}

func TestUnpackRefuses(t *testing.T) {
	for _, c := range []struct {
		data         string
		width, count int
		want         api.Errno
	}{
		{"\xd1\x00", 0, 3, api.ErrRange},
		{"\xd1\x00", 63, 3, api.ErrRange},
		{"\xd1\x00", -3, 3, api.ErrRange},
		{"\xd1\x00", math.MaxInt, 3, api.ErrRange},
		{"\xd1\x00", math.MinInt, 3, api.ErrRange},
		{"", 0, 0, api.ErrRange},
		{"", 1, -1, api.ErrRange},
		{"", 62, math.MinInt, api.ErrRange},
		{"\xd1", 3, 3, api.ErrBytes},
		{"\xd1\x00\x00", 3, 3, api.ErrBytes},
		{"\xd1\x02", 3, 3, api.ErrBytes},
		{"\xd1\x80", 3, 3, api.ErrBytes},
		{"\x00", 1, 0, api.ErrBytes},
		{"", 1, 1, api.ErrBytes},
		{"\x02", 1, 1, api.ErrBytes},
		{"\x00", 1, 9, api.ErrBytes},
		{"\x00\x00", 1, 8, api.ErrBytes},
		{"\xff\xff\xff\xff\xff\xff\xff\x7f", 62, 1, api.ErrBytes},
		{"", 62, math.MaxInt, api.ErrBytes},
		{"", 1, math.MaxInt, api.ErrBytes},
		{"\x00", 8, math.MaxInt, api.ErrBytes},
		{strings.Repeat("\x00", 8), 8, 1 << 61, api.ErrBytes},
		{"", 8, 1 << 61, api.ErrBytes},
		{"", 16, 1 << 60, api.ErrBytes},
		{"\x00\x00", 16, 1<<60 + 1, api.ErrBytes},
		{strings.Repeat("\x00", 62), 62, 1<<60 + 8, api.ErrBytes},
	} {
		if l, e := Unpack(c.data, c.width, c.count); len(l) != 0 || e != c.want {
			t.Errorf("B5: Unpack(%x, %d, %d) = %v, %d, want error %d", c.data, c.width, c.count, l, e, c.want)
		}
	}
}

// What Unpack takes, Pack answers again; what it does not take, Pack answers for no list: the number of texts that it takes is that of the lists.
func TestUnpackOfAllShortTexts(t *testing.T) {
	texts := []string{""}
	for i := range 1 << 8 {
		texts = append(texts, string([]byte{byte(i)}))
	}
	for i := range 1 << 16 {
		texts = append(texts, string([]byte{byte(i), byte(i >> 8)}))
	}
	for width := 1; width <= 16; width++ {
		for count := 0; count*width <= 16; count++ {
			taken := 0
			for _, data := range texts {
				list, e := Unpack(data, width, count)
				if e == api.ErrBytes && len(list) == 0 {
					continue
				}
				taken++
				if s, again, _ := Pack(list, width); e != api.OK || again != api.OK || len(list) != count || s != data {
					t.Fatalf("B5: Unpack(%x, %d, %d) = %v, %d", data, width, count, list, e)
				}
			}
			if taken != 1<<(width*count) {
				t.Errorf("B5: Unpack takes %d texts for %d numbers of width %d", taken, count, width)
			}
		}
	}
}

func TestPackLeavesItsList(t *testing.T) {
	list := sample(30, 7)
	before := slices.Clone(list)
	Pack(list, 7)
	list[3] = -4
	Pack(list, 7)
	before[3] = -4
	if !slices.Equal(list, before) {
		t.Error("B5: Pack changed its list")
	}
}

func TestUnpackAnswersNewMemory(t *testing.T) {
	want := sample(30, 7)
	data := packed(want, 7)
	first, _ := Unpack(data, 7, 30)
	for i := range first {
		first[i] = -1
	}
	if second, e := Unpack(data, 7, 30); !slices.Equal(second, want) || e != api.OK {
		t.Error("B5: an answer of Unpack shares memory with another one")
	}
}
