package scan

import (
	"strings"
	"unicode/utf8"
)

// set tells which characters may stand at a place.
type set func(rune) bool

// oneOf is the set of these signs.
func oneOf(signs string) set {
	return func(c rune) bool { return strings.ContainsRune(signs, c) }
}

// either is all that one of the sets has.
func either(sets ...set) set {
	return func(c rune) bool {
		for _, has := range sets {
			if has(c) {
				return true
			}
		}
		return false
	}
}

// not is all that the set does not have.
func not(has set) set {
	return func(c rune) bool { return !has(c) }
}

func letter(c rune) bool { return 'A' <= c && c <= 'Z' || 'a' <= c && c <= 'z' }

func digit(c rune) bool { return '0' <= c && c <= '9' }

func control(c rune) bool { return c <= ' ' || c == 127 }

func all(rune) bool { return true }

// next is the right character that stands next, and how many bytes it has: none at the end, and where the bytes are no right character.
func (r *Reader) next() (rune, int) {
	c, size := utf8.DecodeRuneInString(r.text[r.at:])
	if c == utf8.RuneError && size == 1 { // else it is the right character of that number
		return c, 0
	}
	return c, size
}

// takes reads the next character, if the set has it.
func (r *Reader) takes(has set) (rune, bool) {
	c, size := r.next()
	if size == 0 || !has(c) {
		return 0, false
	}
	r.at += size
	return c, true
}

// wants reads a character of the set, or gives up.
func (r *Reader) wants(has set) rune {
	c, ok := r.takes(has)
	if !ok {
		r.refuse()
	}
	return c
}

// some reads at least one character of the set, and no more than most.
func (r *Reader) some(has set, most int) {
	r.wants(has)
	for range most - 1 {
		if _, ok := r.takes(has); !ok {
			return
		}
	}
}
