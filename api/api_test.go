package api

import "testing"

func TestErrorsHaveTheirNumbers(t *testing.T) {
	for want, got := range []Errno{OK, ErrLong, ErrText, ErrRange, ErrTerm, ErrName, ErrLabel, ErrOrder, ErrBytes, ErrSum, ErrMany, ErrNest} {
		if int(got) != want {
			t.Errorf("error number %d is %d", want, got)
		}
	}
}

func TestTypesHaveTheirFields(t *testing.T) {
	if (Triple{"s", "p", "o"}) != (Triple{O: "o", P: "p", S: "s"}) {
		t.Error("Triple is not S, P, O")
	}
	if (Name{"short", "long"}) != (Name{Long: "long", Short: "short"}) {
		t.Error("Name is not Short, Long")
	}
}
