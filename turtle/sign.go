package turtle

import (
	"trine/api"
	"trine/scan"
)

// sign is what stands in a text: one of the kinds below.
type sign interface {
	start() int // a refusal of the sign is met there
}

// place is what the kinds have in common.
type place int

func (p place) start() int { return int(p) }

type (
	endSign    struct{ place } // behind the last one
	brokenSign struct {        // what is no sign
		place
		cause error
	}
	prefixSign struct{ place }
	singleSign struct {
		place
		char byte
	}
	iriSign struct {
		place
		form string
	}
	blankSign struct {
		place
		form string
	}
	stringSign struct {
		place
		text string
	}
	languageSign struct {
		place
		tag string
	}
	kindSign   struct{ place } // "^^"
	numberSign struct {
		place
		text string
	}
	rowSign struct {
		place
		text string
	}
	namedSign struct {
		place
		row, rest string
	}
)

// refuse gives up at a sign that may not stand where it does; at one that is broken, where it breaks.
func refuse(s sign) {
	if b, ok := s.(brokenSign); ok {
		scan.GiveUp(b.cause)
	}
	scan.Refuse(api.ErrText, s.start())
}
