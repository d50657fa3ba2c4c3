package fault

import (
	"errors"
	"testing"

	"trine/api"
)

func TestNumberAndPlace(t *testing.T) {
	refused := New(api.ErrRange)
	for _, c := range []struct {
		name   string
		err    error
		number api.Errno
		place  int
	}{
		{"nothing", nil, api.OK, 0},
		{"a refusal", refused, api.ErrRange, 0},
		{"a refusal at a place", At(7, refused), api.ErrRange, 7},
		{"the outermost place", At(2, At(7, refused)), api.ErrRange, 2},
		{"an error of others", errors.New("other"), api.OK, 0},
	} {
		if n := Number(c.err); n != c.number {
			t.Errorf("%s: Number is %d, want %d", c.name, n, c.number)
		}
		if p := Place(c.err); p != c.place {
			t.Errorf("%s: Place is %d, want %d", c.name, p, c.place)
		}
	}
}

func TestText(t *testing.T) {
	if s := At(7, New(api.ErrBytes)).Error(); s != "at 7: refused with error 8" {
		t.Errorf("the text is %q", s)
	}
}

func TestCauseIsFound(t *testing.T) {
	cause := New(api.ErrSum)
	if !errors.Is(At(1, At(2, cause)), cause) {
		t.Error("the cause is not found in what wraps it")
	}
}
