// Package fault has the errors that the inner functions of the packages hand on: a refusal, perhaps wrapped by the place where it was met. The calls of the document ask them for what they answer.
package fault

import (
	"errors"
	"strconv"

	"trine/api"
)

type refusal struct{ number api.Errno }

func (r refusal) Error() string {
	return "refused with error " + strconv.Itoa(int(r.number))
}

type placed struct {
	place int
	cause error
}

func (p placed) Error() string {
	return "at " + strconv.Itoa(p.place) + ": " + p.cause.Error()
}

func (p placed) Unwrap() error { return p.cause }

// New is a refusal by that number, which is not OK.
func New(number api.Errno) error { return refusal{number} }

// At wraps cause, which is not nil, by the place where it was met.
func At(place int, cause error) error { return placed{place, cause} }

// Number is the refusal's number within err; OK, if there is none.
func Number(err error) api.Errno {
	var r refusal
	if errors.As(err, &r) {
		return r.number
	}
	return api.OK
}

// Place is the outermost place within err, since that one is of the call's own argument; 0, if there is none.
func Place(err error) int {
	var p placed
	if errors.As(err, &p) {
		return p.place
	}
	return 0
}
