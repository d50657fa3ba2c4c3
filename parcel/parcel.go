// Package parcel lays numbers and texts one behind the other into bytes, and reads them out again.
package parcel

import (
	"strings"

	"trine/api"
	"trine/bits"
	"trine/fault"
)

// Writer takes numbers and texts; what is written is its String.
type Writer struct{ strings.Builder }

// Number writes n, which is not below 0, as a Varint.
func (w *Writer) Number(n int) {
	varint, _ := bits.Varint(n)
	w.WriteString(varint)
}

// Text writes how many bytes text has, and these.
func (w *Writer) Text(text string) {
	w.Number(len(text))
	w.WriteString(text)
}

// Reader stands at a place of its data. Once it has refused something it reads no more, so that only who has read all need ask for the error.
type Reader struct {
	data string
	at   int
	err  error
}

// Over is a reader at the beginning of data.
func Over(data string) Reader { return Reader{data: data} }

// Place is how many bytes have been read.
func (r *Reader) Place() int { return r.at }

// Err is the refusal; nil, if there was none.
func (r *Reader) Err() error { return r.err }

// Refuse tells that what was read may not stand there. A second refusal is like the first one, since nothing is read between.
func (r *Reader) Refuse() { r.err = fault.At(r.at, fault.New(api.ErrBytes)) }

// End refuses what has not been read.
func (r *Reader) End() {
	if r.at < len(r.data) {
		r.Refuse()
	}
}

// Number reads a Varint.
func (r *Reader) Number() int {
	n, behind, e := bits.Unvarint(r.data, r.at)
	if e != api.OK {
		r.Refuse()
	}
	if r.err != nil {
		return 0
	}
	r.at = behind
	return n
}

// Take reads that many bytes, which is not below 0.
func (r *Reader) Take(count int) string {
	if count > len(r.data)-r.at {
		r.Refuse()
	}
	if r.err != nil {
		return ""
	}
	start := r.at
	r.at += count
	return r.data[start:r.at]
}

// Text reads how many bytes a text has, and these.
func (r *Reader) Text() string { return r.Take(r.Number()) }

// Since is the bytes that have been read from that place on.
func (r *Reader) Since(place int) string { return r.data[place:r.at] }
