package turtle

import (
	"strings"

	"trine/scan"
)

// The iris that stand in a text without being written.
const (
	typeIRI  = "<http://www.w3.org/1999/02/22-rdf-syntax-ns#type>"
	firstIRI = "<http://www.w3.org/1999/02/22-rdf-syntax-ns#first>"
	restIRI  = "<http://www.w3.org/1999/02/22-rdf-syntax-ns#rest>"
	nilIRI   = "<http://www.w3.org/1999/02/22-rdf-syntax-ns#nil>"

	wholeKind = "<http://www.w3.org/2001/XMLSchema#integer>"
	truthKind = "<http://www.w3.org/2001/XMLSchema#boolean>"
)

const (
	typeRow   = "a"
	prefixRow = "prefix"
	maxRow    = 20 // characters of a row, and of what stands behind a ":"
)

// madeLabel begins the blanks that a text does not label itself.
const madeLabel = "_:n"

func inRow(c rune) bool { return scan.Letter(c) || scan.Digit(c) }

func inRest(c rune) bool { return inRow(c) || c == '_' || c == '-' }

func inLanguage(c rune) bool { return inRow(c) || c == '-' }

func isRow(text string) bool {
	return text != "" && len(text) <= maxRow && scan.Letter(rune(text[0])) && scan.AllOf(text, inRow)
}

// isRest tells whether the text may stand behind a ":".
func isRest(text string) bool { return len(text) <= maxRow && scan.AllOf(text, inRest) }

func isNumber(text string) bool { return isDigits(strings.TrimPrefix(text, "-")) }

func isTruth(text string) bool { return text == "true" || text == "false" }

func isDigits(text string) bool { return text != "" && scan.AllOf(text, scan.Digit) }

// isMade tells whether a blank is one of those that a text does not label itself.
func isMade(form string) bool {
	number, ok := strings.CutPrefix(form, madeLabel)
	return ok && isDigits(number)
}
