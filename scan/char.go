package scan

import (
	"strings"
	"unicode/utf8"
)

// Set tells which characters may stand at a place.
type Set func(rune) bool

// OneOf is the set of these signs.
func OneOf(signs string) Set {
	return func(c rune) bool { return strings.ContainsRune(signs, c) }
}

// Either is all that one of the sets has.
func Either(sets ...Set) Set {
	return func(c rune) bool {
		for _, has := range sets {
			if has(c) {
				return true
			}
		}
		return false
	}
}

// not is all that the set does not have.
func not(has Set) Set {
	return func(c rune) bool { return !has(c) }
}

// Letter has the letters of the document.
func Letter(c rune) bool { return 'A' <= c && c <= 'Z' || 'a' <= c && c <= 'z' }

// Digit has the ten digits.
func Digit(c rune) bool { return '0' <= c && c <= '9' }

func control(c rune) bool { return c <= ' ' || c == 127 }

func all(rune) bool { return true }

// AllOf tells whether the set has every character of the text; one that is not right no set has.
func AllOf(text string, has Set) bool {
	r := Over(text)
	r.Run(has)
	return r.Ended()
}

// next is the right character that stands next, and how many bytes it has: none at the end, and where the bytes are no right character.
func (r *Reader) next() (rune, int) {
	c, size := utf8.DecodeRuneInString(r.text[r.at:])
	if c == utf8.RuneError && size == 1 { // else it is the right character of that number
		return c, 0
	}
	return c, size
}

// takes reads the next character, if the set has it.
func (r *Reader) takes(has Set) (rune, bool) {
	if !r.SeesOf(has) {
		return 0, false
	}
	c, size := r.next()
	r.at += size
	return c, true
}

// wants reads a character of the set, or gives up.
func (r *Reader) wants(has Set) rune {
	c, ok := r.takes(has)
	if !ok {
		r.refuse()
	}
	return c
}

// SeesOf tells whether a character of the set stands next.
func (r *Reader) SeesOf(has Set) bool {
	c, size := r.next()
	return size > 0 && has(c)
}

// Run reads all characters of the set that stand next, perhaps none.
func (r *Reader) Run(has Set) string {
	since := r.mark()
	for {
		if _, ok := r.takes(has); !ok {
			return since()
		}
	}
}

// some reads at least one character of the set, and no more than most.
func (r *Reader) some(has Set, most int) {
	r.wants(has)
	for range most - 1 {
		if _, ok := r.takes(has); !ok {
			return
		}
	}
}
