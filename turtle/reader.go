package turtle

import (
	"trine/api"
	"trine/scan"
)

// reader reads the signs of a text, one behind the other.
type reader struct {
	scan.Reader
	now sign // the one that is looked at
}

// step goes on to the next sign. One that is broken is kept like any other: the signs ahead of it are looked at first.
func (r *reader) step() {
	_, behindString := r.now.(stringSign)
	apart := r.gap()
	start := place(r.Place())
	err := scan.Catch(func() { r.now = r.sign(start, behindString && !apart) })
	if err != nil {
		r.now = brokenSign{start, err}
	}
}

// gap reads blanks and comments, and tells whether there are any.
func (r *reader) gap() bool {
	blanks := scan.OneOf(" \t\n\r")
	start := r.Place()
	r.Run(blanks)
	for r.Sees('#') {
		r.SkipLine()
		r.Run(blanks)
	}
	return r.Place() > start
}

// sign reads the sign that begins at start; whether a string stands right ahead of it tells what an "@" begins.
func (r *reader) sign(start place, behindString bool) sign {
	switch {
	case r.Ended():
		return endSign{start}
	case r.Sees('<'):
		return iriSign{start, r.IRI()}
	case r.Sees('_'):
		return blankSign{start, r.Blank()}
	case r.Sees('"'):
		return stringSign{start, r.Quoted()}
	case r.Take('^'):
		r.Want('^')
		return kindSign{start}
	case r.Take('@'):
		return r.behindAt(start, behindString)
	case r.Sees('-') || r.SeesOf(scan.Digit):
		return r.number(start)
	case r.Sees(':') || r.SeesOf(scan.Letter):
		return r.word(start)
	}
	return r.single(start)
}

// behindAt reads what stands behind an "@".
func (r *reader) behindAt(start place, behindString bool) sign {
	ahead := r.Reader
	if !behindString && ahead.Run(inLanguage) == prefixRow {
		r.Reader = ahead
		return prefixSign{start}
	}
	if !r.SeesOf(scan.Letter) {
		scan.Refuse(api.ErrText, start.start())
	}
	return languageSign{start, r.Language()}
}

func (r *reader) number(start place) sign {
	minus := ""
	if r.Take('-') {
		minus = "-"
	}
	digits := r.Run(scan.Digit)
	if digits == "" {
		scan.Refuse(api.ErrText, r.Place())
	}
	return numberSign{start, minus + digits}
}

// word reads a row, or a named one.
func (r *reader) word(start place) sign {
	row, rest := r.Run(inRow), ""
	isNamed := r.Take(':')
	if isNamed {
		rest = r.Run(inRest)
	}
	if len(row) > maxRow || len(rest) > maxRow {
		scan.Refuse(api.ErrText, start.start())
	}
	if isNamed {
		return namedSign{start, row, rest}
	}
	return rowSign{start, row}
}

func (r *reader) single(start place) sign {
	for _, c := range []byte(".;,[]()") {
		if r.Take(c) {
			return singleSign{start, c}
		}
	}
	scan.Refuse(api.ErrText, start.start())
	return nil
}
