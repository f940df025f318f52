// Package fault is layer 2: errors that record what was being parsed or built, and the position.
package fault

import (
	"errors"
	"iter"
	"strconv"
	"strings"

	"honeycomb/api"
)

// Fault is an error at a place of a text, of a list, or the like.
type Fault struct {
	What string // what was looked at
	At   int    // where, from 0 on
	Err  error  // what is wrong there
}

// Error is what was looked at, where, and what is wrong there.
func (f *Fault) Error() string {
	// Faults in faults are told in one loop: each telling the text of the next would copy its tail over and over.
	var text strings.Builder
	for f != nil {
		text.WriteString(f.What + " " + strconv.Itoa(f.At) + ": ")
		inner, ok := f.Err.(*Fault)
		if !ok && f.Err != nil {
			text.WriteString(f.Err.Error())
		}
		f = inner
	}
	return text.String()
}

// Unwrap is what is wrong there.
func (f *Fault) Unwrap() error {
	// An error may hold a nil pointer to a fault, and asking it for a code comes by here.
	if f == nil {
		return nil
	}
	return f.Err
}

// Wrap is an error at a place; nil of none.
func Wrap(what string, at int, err error) error {
	if err == nil {
		return nil
	}
	return &Fault{What: what, At: at, Err: err}
}

// CodeOf is the first code that is met by unwrapping an error, itself first; 0: there is none.
func CodeOf(err error) api.Code {
	var code api.Code
	if !errors.As(err, &code) {
		return 0
	}
	return code
}

// Place is where the first fault with this name says that it is; false: there is none.
func Place(err error, what string) (int, bool) {
	for f := range faults(err) {
		if f.What == what {
			return f.At, true
		}
	}
	return 0, false
}

// Depth is how many faults are met by unwrapping an error, itself first.
func Depth(err error) int {
	depth := 0
	for range faults(err) {
		depth++
	}
	return depth
}

// Is: does an error come from this one?
func Is(err, from error) bool {
	return errors.Is(err, from)
}

// faults yields the faults that are met by unwrapping an error, in the order in which errors.As asks for them.
// errors.As alone would end at the first one, and so miss those that are joined behind it.
func faults(err error) iter.Seq[*Fault] {
	return func(yield func(*Fault) bool) {
		visit(err, yield)
	}
}

// visit yields the faults of an error, and tells whether more are wanted.
func visit(err error, yield func(*Fault) bool) bool {
	for err != nil {
		if f := asFault(err); f != nil {
			if !yield(f) {
				return false
			}
			err = f.Err
			continue
		}
		switch wrapper := err.(type) {
		case interface{ Unwrap() error }:
			err = wrapper.Unwrap()
		case interface{ Unwrap() []error }:
			return visitAll(wrapper.Unwrap(), yield)
		default:
			return true
		}
	}
	return true
}

func visitAll(errs []error, yield func(*Fault) bool) bool {
	for _, err := range errs {
		if !visit(err, yield) {
			return false
		}
	}
	return true
}

// asFault is the fault that an error is, or passes for by an As of its own; nil: it is none.
func asFault(err error) *Fault {
	switch e := err.(type) {
	case *Fault:
		return e
	case interface{ As(any) bool }:
		var f *Fault
		if e.As(&f) {
			return f
		}
	}
	return nil
}
