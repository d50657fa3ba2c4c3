package parcel

import (
	"strings"
	"testing"

	"trine/api"
	"trine/fault"
)

func TestWriterAndReader(t *testing.T) {
	var out Writer
	out.Number(300)
	out.Text("")
	out.Text(strings.Repeat("x", 128))
	out.WriteString("end")
	want := "\xac\x02\x00\x80\x01" + strings.Repeat("x", 128) + "end"
	if out.String() != want {
		t.Fatalf("written: %q", out.String())
	}
	in := Over(want)
	n, none, text, behind := in.Number(), in.Text(), in.Text(), in.Place()
	if n != 300 || none != "" || len(text) != 128 || behind != 133 || in.Take(0) != "" || in.Take(3) != "end" || in.Since(behind) != "end" {
		t.Errorf("read: %d, %q, %q, %d", n, none, text, behind)
	}
	if in.End(); in.Err() != nil {
		t.Errorf("read: %v", in.Err())
	}
}

func TestReaderRefuses(t *testing.T) {
	for _, c := range []struct {
		data  string
		read  func(*Reader)
		place int
	}{
		{"", func(in *Reader) { in.Number() }, 0},
		{"\x01\x80", func(in *Reader) { in.Number(); in.Number() }, 1},
		{"\x80\x00", func(in *Reader) { in.Number() }, 0},
		{"abc", func(in *Reader) { in.Take(4) }, 0},
		{"abc", func(in *Reader) { in.Take(2); in.Take(2) }, 2},
		{"\x02a", func(in *Reader) { in.Text() }, 1},
		{"\xff\xff\xff\xff\xff\xff\xff\xff\x7f", func(in *Reader) { in.Text() }, 9},
		{"a", func(in *Reader) { in.End() }, 0},
		{"ab", func(in *Reader) { in.Take(1); in.Refuse(); in.Take(1); in.Refuse(); in.End() }, 1},
	} {
		in := Over(c.data)
		c.read(&in)
		if e := in.Err(); fault.Number(e) != api.ErrBytes || fault.Place(e) != c.place {
			t.Errorf("%q: %v, want ErrBytes at %d", c.data, e, c.place)
		}
		if in.Number() != 0 || in.Text() != "" || in.Take(0) != "" || in.Place() != c.place {
			t.Errorf("%q: it goes on behind its refusal", c.data)
		}
	}
}
