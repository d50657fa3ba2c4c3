package bits

import (
	"math"
	"strings"
	"sync"
	"testing"

	"trine/api"
)

// checkRow holds each call of a row against the plain list of its bits.
func checkRow(t *testing.T, r *Row, list []int) {
	t.Helper()
	if r.Len() != len(list) {
		t.Errorf("B6: Len() = %d, want %d", r.Len(), len(list))
	}
	ones := 0
	for i, bit := range list {
		if r.Get(i) != (bit == 1) {
			t.Errorf("B6: Get(%d) of %d bits = %v", i, len(list), r.Get(i))
		}
		if n := r.Ones(i); n != ones {
			t.Errorf("B6: Ones(%d) of %d bits = %d, want %d", i, len(list), n, ones)
		}
		ones += bit
		if bit == 1 && r.Find(ones) != i {
			t.Errorf("B6: Find(%d) of %d bits = %d, want %d", ones, len(list), r.Find(ones), i)
		}
	}
	for _, i := range []int{math.MinInt, -64, -1, len(list), len(list) + 1, len(list) + 64, math.MaxInt} {
		if r.Get(i) {
			t.Errorf("B6: Get(%d) of %d bits is true", i, len(list))
		}
		want := ones
		if i < 0 {
			want = 0
		}
		if n := r.Ones(i); n != want {
			t.Errorf("B6: Ones(%d) of %d bits = %d, want %d", i, len(list), n, want)
		}
	}
	for _, k := range []int{math.MinInt, -1, 0, ones + 1, ones + 2, math.MaxInt} {
		if i := r.Find(k); i != -1 {
			t.Errorf("B6: Find(%d) of %d ones = %d, want -1", k, ones, i)
		}
	}
}

func rowOf(t *testing.T, list []int) *Row {
	t.Helper()
	data, _, _ := Pack(list, 1)
	r, e := NewRow(data, len(list))
	if r == nil || e != api.OK {
		t.Fatalf("B6: NewRow(%x, %d) = %v, %d", data, len(list), r, e)
	}
	return r
}

// filled is count bits, of which each one whose number is a multiple of step, plus shift, is 1.
func filled(count int, step int, shift int) []int {
	list := make([]int, count)
	for i := shift; i < count; i += step {
		list[i] = 1
	}
	return list
}

func TestRow(t *testing.T) {
	r, e := NewRow("\x0d\x01", 9)
	if r == nil || e != api.OK {
		t.Fatalf("B6: NewRow = %v, %d", r, e)
	}
	checkRow(t, r, []int{1, 0, 1, 1, 0, 0, 0, 0, 1})
}

func TestRowsOfManyLengths(t *testing.T) {
	for _, count := range []int{0, 1, 7, 8, 9, 63, 64, 65, 127, 128, 129, 192, 1000} {
		for _, step := range []int{1, 2, 3, 63, 64, 65, 1001} {
			for _, shift := range []int{0, 1, 63, 999, 1000} {
				list := filled(count, step, shift)
				checkRow(t, rowOf(t, list), list)
			}
		}
	}
}

func TestNewRowRefuses(t *testing.T) {
	for _, c := range []struct {
		data  string
		count int
		want  api.Errno
	}{
		{"", -1, api.ErrRange},
		{"\x00", math.MinInt, api.ErrRange},
		{"", 1, api.ErrBytes},
		{"\x00", 0, api.ErrBytes},
		{"\x02", 1, api.ErrBytes},
		{"\x80", 7, api.ErrBytes},
		{"\x01\x00", 1, api.ErrBytes},
		{"\x01\x00", 8, api.ErrBytes},
		{"\x01", 9, api.ErrBytes},
		{strings.Repeat("\xff", 8) + "\x02", 65, api.ErrBytes},
		{"", math.MaxInt, api.ErrBytes},
		{"\x01", math.MaxInt, api.ErrBytes},
	} {
		if r, e := NewRow(c.data, c.count); r != nil || e != c.want {
			t.Errorf("B6: NewRow(%x, %d) = %v, %d, want error %d", c.data, c.count, r, e, c.want)
		}
	}
}

func TestNoRowDoesNotPanic(t *testing.T) {
	none, _ := NewRow("", -1)
	checkRow(t, none, nil)
	checkRow(t, new(Row), nil)
}

func TestCallsAtTheSameTime(t *testing.T) {
	list := filled(1000, 3, 1)
	r := rowOf(t, list)
	var all sync.WaitGroup
	for range 8 {
		all.Go(func() {
			checkRow(t, r, list)
			if s := Sum("123456789"); s != "\x26\x39\xf4\xcb" {
				t.Errorf("B3: Sum = %x beside other calls", s)
			}
		})
	}
	all.Wait()
}
