package bits

import (
	"encoding/binary"
	"math"
	"strings"
	"testing"

	"trine/api"
)

// edgeNumbers are those around which the number of groups, or of bits, changes.
func edgeNumbers() []int {
	list := []int{0, 1, math.MaxInt, math.MaxInt - 1}
	for bit := range 63 {
		list = append(list, 1<<bit-1, 1<<bit, 1<<bit+1)
	}
	return list
}

func TestVarint(t *testing.T) {
	for n, want := range map[int]string{
		0: "\x00", 1: "\x01", 127: "\x7f", 128: "\x80\x01", 300: "\xac\x02", 16383: "\xff\x7f", 16384: "\x80\x80\x01",
		math.MaxInt: "\xff\xff\xff\xff\xff\xff\xff\xff\x7f",
	} {
		if s, e := Varint(n); s != want || e != api.OK {
			t.Errorf("B1: Varint(%d) = %x, %d, want %x", n, s, e, want)
		}
	}
	for _, n := range edgeNumbers() {
		want := string(binary.AppendUvarint(nil, uint64(n)))
		if s, e := Varint(n); s != want || e != api.OK {
			t.Errorf("B1: Varint(%d) = %x, %d, want %x", n, s, e, want)
		}
	}
}

func TestVarintRefuses(t *testing.T) {
	for _, n := range []int{-1, -2, -128, math.MinInt + 1, math.MinInt} {
		if s, e := Varint(n); s != "" || e != api.ErrRange {
			t.Errorf("B1: Varint(%d) = %x, %d", n, s, e)
		}
	}
}

func TestUnvarint(t *testing.T) {
	for _, n := range edgeNumbers() {
		s, _ := Varint(n)
		for _, ahead := range []string{"", "\x00", "\x80", "\xff\xff"} {
			for _, behind := range []string{"", "\x00", "\x7f", "\xff"} {
				got, at, e := Unvarint(ahead+s+behind, len(ahead))
				if got != n || at != len(ahead)+len(s) || e != api.OK {
					t.Errorf("B2: Unvarint(%x, %d) = %d, %d, %d, want %d", ahead+s+behind, len(ahead), got, at, e, n)
				}
			}
		}
	}
}

func TestUnvarintRefuses(t *testing.T) {
	for _, c := range []struct {
		data string
		at   int
		want api.Errno
	}{
		{"", -1, api.ErrRange},
		{"", 1, api.ErrRange},
		{"\x01", -1, api.ErrRange},
		{"\x01", 2, api.ErrRange},
		{"\x01", math.MinInt, api.ErrRange},
		{"\x01", math.MaxInt, api.ErrRange},
		{"", 0, api.ErrBytes},
		{"\x01", 1, api.ErrBytes},
		{"\x80", 0, api.ErrBytes},
		{"\x01\x80\x80", 1, api.ErrBytes},
		{"\x80\x00", 0, api.ErrBytes},
		{"\x81\x00", 0, api.ErrBytes},
		{"\x80\x80\x00", 0, api.ErrBytes},
		{"\x80\x00\x01", 0, api.ErrBytes},
		{strings.Repeat("\xff", 8) + "\x00", 0, api.ErrBytes},
		{strings.Repeat("\xff", 9), 0, api.ErrBytes},
		{strings.Repeat("\x80", 9) + "\x01", 0, api.ErrBytes},
		{strings.Repeat("\xff", 9) + "\x01", 0, api.ErrBytes},
		{strings.Repeat("\xff", 100) + "\x01", 0, api.ErrBytes},
	} {
		if n, at, e := Unvarint(c.data, c.at); n != 0 || at != 0 || e != c.want {
			t.Errorf("B2: Unvarint(%x, %d) = %d, %d, %d, want error %d", c.data, c.at, n, at, e, c.want)
		}
	}
}

// Whatever is read must be what Varint writes, and what Varint writes is read: over all texts of up to two bytes.
func TestUnvarintOfAllShortTexts(t *testing.T) {
	written := map[string]int{}
	for n := range 1 << 14 {
		s, _ := Varint(n)
		written[s] = n
	}
	for i := range 1 << 16 {
		data := string([]byte{byte(i), byte(i >> 8)})
		want, size, wantErr := 0, 0, api.ErrBytes
		for k := range 2 {
			if n, ok := written[data[:k+1]]; ok {
				want, size, wantErr = n, k+1, api.OK
			}
		}
		if n, at, e := Unvarint(data, 0); n != want || at != size || e != wantErr {
			t.Fatalf("B2: Unvarint(%x, 0) = %d, %d, %d, want %d, %d, %d", data, n, at, e, want, size, wantErr)
		}
	}
}
