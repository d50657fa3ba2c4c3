// Package api has what all packages share: see DOC.md.
package api

// Errno is what a call answers: OK or the reason for a refusal.
type Errno int

// The document gives each its number: 0 to 11, in this order.
const (
	OK       Errno = iota
	ErrLong        // above a bound
	ErrText        // no text of the kind
	ErrRange       // a number out of its bounds
	ErrTerm        // no term, or too long a one
	ErrName        // a name that there is not, or may not be
	ErrLabel       // a label that may not be
	ErrOrder       // not rising
	ErrBytes       // not what is packed
	ErrSum         // a sum that is another one
	ErrMany        // too many
	ErrNest        // too deep
)

// Triple is a sentence.
type Triple struct{ S, P, O string }

// Name is a short name of an iri's beginning.
type Name struct{ Short, Long string }
