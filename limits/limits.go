// Package limits has the document's limits.
package limits

const (
	MaxText     = 20000 // bytes of a text
	MaxTerm     = 200   // bytes of a term
	MaxSet      = 300   // sentences of a set
	MaxNest     = 8     // open brackets around another one
	MaxBytes    = 60000 // bytes of a box
	MaxPatterns = 4     // patterns of a question
	MaxAnswers  = 5000  // answers to a question
	MaxNames    = 12    // names of a text that is printed
)
