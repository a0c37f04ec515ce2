package given

import (
	"errors"
	"testing"

	"bakehouse/api"
	"bakehouse/plain"
)

// P5: the numbers of package api.
func TestConstants(t *testing.T) {
	for _, c := range []struct {
		name      string
		got, want int
	}{
		{"Owners", api.Owners, 6},
		{"Bakers", api.Bakers, 3},
		{"MaxAmount", api.MaxAmount, 1125899906842624},
		{"MaxPoints", api.MaxPoints, 8},
		{"Blocks", api.Blocks, 4},
		{"Delay", api.Delay, 2},
		{"Period", api.Period, 2},
		{"MinStake", api.MinStake, 100},
		{"MaxRounds", api.MaxRounds, 8},
		{"MaxCycle", api.MaxCycle, 1048576},
		{"MaxSteps", api.MaxSteps, 3000},
		{"MaxLines", api.MaxLines, 100},
		{"Workers", api.Workers, 16},
	} {
		if c.got != c.want {
			t.Errorf("%s is %d, not %d", c.name, c.got, c.want)
		}
	}
}

var texts = []struct {
	err  error
	text string
	code int
}{
	{api.ErrText, "bakehouse: text", 1},
	{api.ErrBound, "bakehouse: bound", 2},
	{api.ErrShape, "bakehouse: shape", 3},
	{api.ErrNone, "bakehouse: none", 4},
	{api.ErrExist, "bakehouse: exist", 5},
	{api.ErrShort, "bakehouse: short", 6},
	{api.ErrSmall, "bakehouse: small", 7},
	{api.ErrGone, "bakehouse: gone", 8},
	{api.ErrTurn, "bakehouse: turn", 9},
	{api.ErrOld, "bakehouse: old", 10},
}

// P5: the texts of package api, each error another one, and their numbers in package plain.
func TestErrors(t *testing.T) {
	for i, c := range texts {
		if c.err.Error() != c.text {
			t.Errorf("text %q, not %q", c.err.Error(), c.text)
		}
		if code, at := plain.Code(c.err); code != c.code || at != -1 {
			t.Errorf("%s: code %d at %d", c.text, code, at)
		}
		for _, other := range texts[:i] {
			if errors.Is(c.err, other.err) {
				t.Errorf("%s is %s", c.text, other.text)
			}
		}
	}
}

func TestFault(t *testing.T) {
	for i, c := range texts {
		var err error = &api.Fault{At: i, Err: c.err}
		if err.Error() != c.text || !errors.Is(err, c.err) {
			t.Errorf("fault of %s: %v", c.text, err)
		}
		if code, at := plain.Code(err); code != c.code || at != i {
			t.Errorf("fault of %s: code %d at %d", c.text, code, at)
		}
	}
}

func TestCodeOfOthers(t *testing.T) {
	if code, at := plain.Code(nil); code != 0 || at != -1 {
		t.Errorf("nil: code %d at %d", code, at)
	}
	if code, at := plain.Code(errors.New("bakehouse: bound")); code != -1 || at != -1 {
		t.Errorf("another error: code %d at %d", code, at)
	}
}
