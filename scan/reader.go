// Package scan reads a text from the left, and the terms that stand in it (chapter 2). Where a text cannot go on, its reader gives up by a panic, which Catch turns into an error.
package scan

import (
	"trine/api"
	"trine/fault"
)

// Reader stands at a place of a text.
type Reader struct {
	text string
	at   int
}

// Over is a reader at the beginning of text.
func Over(text string) Reader { return Reader{text: text} }

// Place is how many bytes have been read.
func (r *Reader) Place() int { return r.at }

// Ended tells whether all has been read.
func (r *Reader) Ended() bool { return r.at == len(r.text) }

// Sees tells whether c stands next.
func (r *Reader) Sees(c byte) bool { return !r.Ended() && r.text[r.at] == c }

// Take reads c, if it stands next.
func (r *Reader) Take(c byte) bool {
	if !r.Sees(c) {
		return false
	}
	r.at++
	return true
}

// Want reads c, or gives up.
func (r *Reader) Want(c byte) {
	if !r.Take(c) {
		r.refuse()
	}
}

// WantEnd gives up, unless all has been read.
func (r *Reader) WantEnd() {
	if !r.Ended() {
		r.refuse()
	}
}

// SkipLine reads all bytes that are left of the line.
func (r *Reader) SkipLine() {
	for !r.Ended() && !r.Sees('\n') {
		r.at++
	}
}

// mark answers what tells the bytes that have been read since.
func (r *Reader) mark() func() string {
	start := r.at
	return func() string { return r.text[start:r.at] }
}

// refuse gives up at what stands next.
func (r *Reader) refuse() { Refuse(api.ErrText, r.at) }

// stop is what a reader panics with: it may be deep within a term, and nothing is read behind a fault.
type stop struct{ cause error }

// GiveUp gives up because of cause.
func GiveUp(cause error) { panic(stop{cause}) }

// Refuse gives up by that number, met at that place.
func Refuse(number api.Errno, place int) { GiveUp(fault.At(place, fault.New(number))) }

// Catch runs read; the error is the one by which a reader gave up within it.
func Catch(read func()) (err error) {
	defer func() {
		switch met := recover().(type) {
		case nil:
		case stop:
			err = met.cause
		default: // no reader's: it must not pass for an answer
			panic(met)
		}
	}()
	read()
	return nil
}

// Whole is what read makes of all of the text.
func Whole[T any](text string, read func(*Reader) T) (T, error) {
	var found, none T
	r := Over(text)
	err := Catch(func() {
		found = read(&r)
		r.WantEnd()
	})
	if err != nil {
		return none, err
	}
	return found, nil
}

// IsWhole tells whether read takes all of the text and answers it as it is. How long a term may be it does not ask: an iri in its one form is one at any length.
func IsWhole(text string, read func(*Reader) string) bool {
	found, err := Whole(text, read)
	return err == nil && found == text
}
