// Package fault is layer 1: errors that say which call errs, and wrap why.
package fault

import (
	"errors"

	"geyser/api"
)

// New is an error of that call with that number; nil, if the number is 0.
func New(call string, n api.Errno) error {
	if n == 0 {
		return nil
	}
	return &api.Fault{Call: call, Err: n}
}

// Wrap is an error of that call round err; nil, if err is nil.
func Wrap(call string, err error) error {
	if err == nil {
		return nil
	}
	return &api.Fault{Call: call, Err: err}
}

// Num is the first number in err; 0, if there is none.
func Num(err error) api.Errno {
	// An error that comes in may panic when it is asked what it wraps, as a
	// nil *api.Fault does; then nothing is found in it.
	defer func() { recover() }()
	var n api.Errno
	if !errors.As(err, &n) {
		return 0
	}
	return n
}

// Call is the call of the first Fault in err; empty, if there is none.
func Call(err error) string {
	f := first(err)
	if f == nil {
		return ""
	}
	return f.Call
}

// Chain is the calls of the Faults in err, from the outermost on, one wrapped
// in the other.
func Chain(err error) []string {
	var calls []string
	for f := first(err); f != nil; f = first(f.Err) {
		calls = append(calls, f.Call)
	}
	return calls
}

// Is says whether err has that number.
func Is(err error, n api.Errno) bool {
	// As in Num.
	defer func() { recover() }()
	return errors.Is(err, n)
}

// first is the first Fault in err; nil, if there is none.
func first(err error) *api.Fault {
	// As in Num.
	defer func() { recover() }()
	var f *api.Fault
	if !errors.As(err, &f) {
		return nil
	}
	return f
}
