// Package limits has the document's limits, as far as the program asks for them.
package limits

const (
	MaxText  = 20000 // bytes of a text
	MaxTerm  = 200   // bytes of a term
	MaxSet   = 300   // sentences of a set
	MaxNest  = 8     // open brackets around another one
	MaxBytes = 60000 // bytes of a box
	MaxNames = 12    // names of a text that is printed
)
