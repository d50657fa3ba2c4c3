package scan

import (
	"strings"
	"unicode/utf8"

	"trine/api"
)

// The signs behind a "\" of a string, and what they stand for, in the same order.
const (
	shortSigns = `tbnrf"'\`
	shortMeant = "\t\b\n\r\f\"'\\"
)

const (
	hexSigns = "0123456789ABCDEFabcdef"
	hexBits  = 4
)

// escape reads a "\" and what stands behind it: the number of a character of the set, or one of the short signs.
func (r *Reader) escape(has Set, short string) rune {
	start := r.at
	r.Want('\\')
	switch {
	case r.Take('u'):
		return r.numbered(start, 4, has)
	case r.Take('U'):
		return r.numbered(start, 8, has)
	}
	sign := r.wants(OneOf(short))
	return rune(shortMeant[strings.IndexRune(shortSigns, sign)])
}

// numbered reads the signs of a number. Only when all of them stand there is it known which character is meant, so one that may not stand there is met at start, where its escape begins.
func (r *Reader) numbered(start, signs int, has Set) rune {
	var number uint32
	for range signs {
		number = number<<hexBits | hexValue(r.wants(OneOf(hexSigns)))
	}
	c := rune(number) // above 7FFFFFFF it is less than 0, which is no right one either
	if !utf8.ValidRune(c) || !has(c) {
		Refuse(api.ErrText, start)
	}
	return c
}

func hexValue(sign rune) uint32 {
	switch {
	case Digit(sign):
		return uint32(sign - '0')
	case sign < 'a':
		return uint32(sign-'A') + 10
	}
	return uint32(sign-'a') + 10
}

// escaped is the text as it stands in the one form of a literal.
func escaped(text string) string {
	var out strings.Builder
	for _, c := range text {
		switch c {
		case '\\', '"':
			out.WriteByte('\\')
			out.WriteRune(c)
		case '\n':
			out.WriteString(`\n`)
		case '\r':
			out.WriteString(`\r`)
		default:
			out.WriteRune(c)
		}
	}
	return out.String()
}
