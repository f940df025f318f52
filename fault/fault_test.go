package fault_test

import (
	"errors"
	"fmt"
	"math"
	"strconv"
	"strings"
	"testing"

	"honeycomb/api"
	"honeycomb/fault"
)

// The calls have just these signatures.
var (
	_ error                           = &fault.Fault{}
	_ func(*fault.Fault) string       = (*fault.Fault).Error
	_ func(*fault.Fault) error        = (*fault.Fault).Unwrap
	_ func(string, int, error) error  = fault.Wrap
	_ func(error) api.Code            = fault.CodeOf
	_ func(error, string) (int, bool) = fault.Place
	_ func(error) int                 = fault.Depth
	_ func(error, error) bool         = fault.Is
	_ struct {
		What string
		At   int
		Err  error
	} = fault.Fault{}
)

var errOther = errors.New("other package")

// guise is an error of another package that passes for others by Is and As alone.
type guise struct {
	code  api.Code
	fault *fault.Fault
}

func (g guise) Error() string { return "guise" }

func (g guise) Is(target error) bool { return target == g.code }

func (g guise) As(target any) bool {
	switch to := target.(type) {
	case *api.Code:
		*to = g.code
		return g.code != 0
	case **fault.Fault:
		*to = g.fault
		return g.fault != nil
	}
	return false
}

// listed can't be compared by ==.
type listed []int

func (l listed) Error() string { return "listed" }

func TestError(t *testing.T) {
	for _, c := range []struct {
		f    fault.Fault
		want string
	}{
		{fault.Fault{What: "byte", At: 7, Err: api.ErrForm}, "byte 7: form"},
		{fault.Fault{What: "byte", At: 0, Err: api.ErrEnd}, "byte 0: end"},
		{fault.Fault{What: "line", At: -12, Err: api.ErrRange}, "line -12: range"},
		{fault.Fault{What: "", At: 1, Err: api.ErrArg}, " 1: arg"},
		{fault.Fault{What: "a b: c", At: 1, Err: api.Code(99)}, "a b: c 1: other"},
		{fault.Fault{What: "x", At: math.MaxInt, Err: errOther}, "x " + strconv.Itoa(math.MaxInt) + ": other package"},
		{fault.Fault{What: "x", At: math.MinInt, Err: errOther}, "x " + strconv.Itoa(math.MinInt) + ": other package"},
		{fault.Fault{What: "rule", At: 2, Err: &fault.Fault{What: "byte", At: -3, Err: api.ErrBig}}, "rule 2: byte -3: big"},
		{fault.Fault{What: "rule", At: 2, Err: fmt.Errorf("<%w>", &fault.Fault{What: "byte", At: 3, Err: api.ErrBig})}, "rule 2: <byte 3: big>"},
	} {
		if got := c.f.Error(); got != c.want {
			t.Errorf("Error() = %q, not %q", got, c.want)
		}
	}
}

func TestUnwrap(t *testing.T) {
	inner := fault.Wrap("byte", 3, api.ErrBig)
	for _, err := range []error{api.ErrForm, errOther, inner} {
		if got := (&fault.Fault{What: "x", At: 1, Err: err}).Unwrap(); got == nil || got != err {
			t.Errorf("Unwrap() = %v, not %v", got, err)
		}
	}
}

func TestWrap(t *testing.T) {
	if err := fault.Wrap("byte", 7, nil); err != nil {
		t.Errorf("Wrap of nil: %v", err)
	}
	for _, inner := range []error{api.ErrForm, errOther, fault.Wrap("x", 1, api.ErrEnd)} {
		err := fault.Wrap("byte", -7, inner)
		f, ok := err.(*fault.Fault)
		if !ok || *f != (fault.Fault{What: "byte", At: -7, Err: inner}) {
			t.Errorf("Wrap of %v: %#v", inner, err)
		}
	}
	first := fault.Wrap("byte", 7, api.ErrForm)
	first.(*fault.Fault).At = 8
	if again := fault.Wrap("byte", 7, api.ErrForm); again.Error() != "byte 7: form" {
		t.Errorf("Wrap shares what it answers: %v", again)
	}
}

func TestCodeOf(t *testing.T) {
	wrapped := fault.Wrap("line", 1, fault.Wrap("byte", 2, api.ErrRule))
	for _, c := range []struct {
		err  error
		want api.Code
	}{
		{nil, 0},
		{api.ErrForm, api.ErrForm},
		{api.ErrLattice, api.ErrLattice},
		{api.Code(0), 0},
		{api.Code(-5), -5},
		{errOther, 0},
		{fault.Wrap("x", 1, errOther), 0},
		{fault.Wrap("x", 1, api.ErrNone), api.ErrNone},
		{wrapped, api.ErrRule},
		{fmt.Errorf("x: %w", wrapped), api.ErrRule},
		{fmt.Errorf("x: %v", wrapped), 0},
		{fault.Wrap("x", 1, fmt.Errorf("x: %w", api.ErrKind)), api.ErrKind},
		{errors.Join(errOther, wrapped, api.ErrEnd), api.ErrRule},
		{errors.Join(fault.Wrap("x", 1, errOther), api.ErrEnd), api.ErrEnd},
		{fault.Wrap("x", 1, guise{code: api.ErrDepth}), api.ErrDepth},
		{fault.Wrap("x", 1, listed{1}), 0},
	} {
		if got := fault.CodeOf(c.err); got != c.want {
			t.Errorf("CodeOf(%v) = %v, not %v", c.err, got, c.want)
		}
	}
}

func TestPlace(t *testing.T) {
	nested := fault.Wrap("line", 3, fault.Wrap("byte", -12, fault.Wrap("line", 5, api.ErrRange)))
	joined := errors.Join(errOther, fault.Wrap("a", 1, fault.Wrap("b", 2, api.ErrForm)), fault.Wrap("b", 3, fault.Wrap("c", 4, api.ErrEnd)))
	passing := guise{fault: &fault.Fault{What: "a", At: 1, Err: fault.Wrap("b", 2, api.ErrForm)}}
	for _, c := range []struct {
		err  error
		what string
		at   int
		ok   bool
	}{
		{nil, "", 0, false},
		{nil, "byte", 0, false},
		{api.ErrForm, "form", 0, false},
		{errOther, "other package", 0, false},
		{nested, "line", 3, true},
		{nested, "byte", -12, true},
		{nested, "Line", 0, false},
		{nested, "lin", 0, false},
		{nested, "", 0, false},
		{fault.Wrap("", 9, api.ErrForm), "", 9, true},
		{fault.Wrap("x", 0, api.ErrForm), "x", 0, true},
		{fmt.Errorf("x: %w", nested), "byte", -12, true},
		{fault.Wrap("x", 1, fmt.Errorf("x: %w", nested)), "line", 3, true},
		{fmt.Errorf("x: %v", nested), "line", 0, false},
		{joined, "a", 1, true},
		{joined, "b", 2, true},
		{joined, "c", 4, true},
		{joined, "d", 0, false},
		{fmt.Errorf("x: %w", joined), "c", 4, true},
		{passing, "a", 1, true},
		{passing, "b", 2, true},
		{guise{}, "a", 0, false},
	} {
		if at, ok := fault.Place(c.err, c.what); at != c.at || ok != c.ok {
			t.Errorf("Place(%v, %q) = %d, %v", c.err, c.what, at, ok)
		}
	}
}

func TestDepth(t *testing.T) {
	two := fault.Wrap("line", 3, fault.Wrap("byte", -12, api.ErrRange))
	for _, c := range []struct {
		err  error
		want int
	}{
		{nil, 0},
		{api.ErrForm, 0},
		{errOther, 0},
		{fault.Wrap("x", 1, errOther), 1},
		{two, 2},
		{fault.Wrap("x", 1, two), 3},
		{fmt.Errorf("x: %w", two), 2},
		{fault.Wrap("x", 1, fmt.Errorf("x: %w", two)), 3},
		{fmt.Errorf("x: %v", two), 0},
		{errors.Join(errOther, two), 2},
		{errors.Join(two, errOther, fault.Wrap("x", 1, api.ErrEnd)), 3},
		{fault.Wrap("x", 1, guise{fault: &fault.Fault{What: "a", At: 1, Err: two}}), 4},
		{guise{}, 0},
	} {
		if got := fault.Depth(c.err); got != c.want {
			t.Errorf("Depth(%v) = %d, not %d", c.err, got, c.want)
		}
	}
}

func TestIs(t *testing.T) {
	inner := fault.Wrap("byte", 2, api.ErrRule)
	outer := fault.Wrap("line", 1, inner)
	for _, c := range []struct {
		err, from error
		want      bool
	}{
		{nil, nil, true},
		{nil, api.ErrForm, false},
		{api.ErrForm, nil, false},
		{outer, nil, false},
		{api.ErrForm, api.ErrForm, true},
		{api.ErrForm, api.ErrEnd, false},
		{outer, api.ErrRule, true},
		{outer, api.ErrForm, false},
		{outer, inner, true},
		{inner, outer, false},
		{outer, fault.Wrap("line", 1, inner), false},
		{fault.Wrap("x", 1, errOther), errOther, true},
		{fmt.Errorf("x: %w", outer), inner, true},
		{errors.Join(errOther, outer), api.ErrRule, true},
		{fault.Wrap("x", 1, guise{code: api.ErrDepth}), api.ErrDepth, true},
		{fault.Wrap("x", 1, listed{1}), listed{1}, false},
	} {
		if got := fault.Is(c.err, c.from); got != c.want {
			t.Errorf("Is(%v, %v) = %v", c.err, c.from, got)
		}
		if got := errors.Is(c.err, c.from); got != c.want {
			t.Errorf("errors.Is(%v, %v) = %v", c.err, c.from, got)
		}
	}
}

func TestAsksEveryLevelOfTheDeepest(t *testing.T) {
	const levels = 1 << 16
	err := fault.Wrap("last", 5, api.ErrBudget)
	for range levels - 1 {
		err = fault.Wrap("x", 1, err)
	}
	if got, want := err.Error(), strings.Repeat("x 1: ", levels-1)+"last 5: budget"; got != want {
		t.Errorf("Error of %d bytes, not %d", len(got), len(want))
	}
	if at, ok := fault.Place(err, "last"); at != 5 || !ok {
		t.Errorf("Place = %d, %v", at, ok)
	}
	if got := fault.Depth(err); got != levels {
		t.Errorf("Depth = %d", got)
	}
	if got := fault.CodeOf(err); got != api.ErrBudget {
		t.Errorf("CodeOf = %v", got)
	}
	if !fault.Is(err, api.ErrBudget) || fault.Is(err, api.ErrForm) {
		t.Error("Is")
	}
}

// A fault without an Err, and a pointer to none, may be asked for what they come from, and come from nothing.
func TestFaultOfNothing(t *testing.T) {
	var none *fault.Fault
	for _, c := range []struct {
		err   error
		depth int
	}{{none, 0}, {&fault.Fault{}, 1}, {fault.Wrap("x", 1, none), 1}, {errors.Join(none, &fault.Fault{}), 1}} {
		if got := fault.CodeOf(c.err); got != 0 {
			t.Errorf("CodeOf(%#v) = %v", c.err, got)
		}
		if at, ok := fault.Place(c.err, "y"); at != 0 || ok {
			t.Errorf("Place(%#v) = %d, %v", c.err, at, ok)
		}
		if got := fault.Depth(c.err); got != c.depth {
			t.Errorf("Depth(%#v) = %d", c.err, got)
		}
		if fault.Is(c.err, api.ErrForm) {
			t.Errorf("Is(%#v)", c.err)
		}
		_ = c.err.Error()
	}
}

func TestAskingChangesNothing(t *testing.T) {
	inner := &fault.Fault{What: "byte", At: 2, Err: api.ErrRule}
	outer := &fault.Fault{What: "line", At: 1, Err: inner}
	wantInner, wantOuter := *inner, *outer
	for range 2 {
		if outer.Error() != "line 1: byte 2: rule" || fault.CodeOf(outer) != api.ErrRule || fault.Depth(outer) != 2 || !fault.Is(outer, inner) {
			t.Error("an answer changes")
		}
		if at, ok := fault.Place(outer, "byte"); at != 2 || !ok {
			t.Error("Place changes")
		}
		fault.Wrap("x", 3, outer)
	}
	if *inner != wantInner || *outer != wantOuter {
		t.Error("a fault has changed")
	}
}
