// Package faults helps the tests of all layers to ask for faults.
package faults

import (
	"errors"
	"strconv"

	"colloquy/api"
)

// Unlike tells, in words, how err is not the fault with that code and place; nothing, if it is.
func Unlike(err error, code api.Errno, at int) string {
	asked := told(code, at) + " is asked for"
	if err == nil {
		return "no fault, but " + asked
	}
	f, is := err.(*api.Fault)
	if !is || f == nil {
		return "an error that is no fault, but " + asked
	}
	if f.Code != code || f.At != at {
		return told(f.Code, f.At) + ", but " + asked
	}
	if !errors.Is(err, code) {
		return "the code is not found in the fault: " + asked
	}
	return ""
}

func told(code api.Errno, at int) string {
	return "the fault " + strconv.Itoa(int(code)) + " at " + strconv.Itoa(at)
}
