package otlp

import (
	"errors"
	"strconv"

	"belfry/api"
)

// What can be wrong with a message beside what the layers below tell.
var (
	errMessage = errors.New("no right message")
	errBounds  = errors.New("a number out of its bounds")
	errMany    = errors.New("too many records")
)

// errno is an error that a layer below told by its number.
type errno api.Errno

func (n errno) Error() string {
	return "error " + strconv.Itoa(int(n))
}

// fault is a field at which something is wrong; the cause may be a fault of a field within it.
type fault struct {
	num   int
	cause error
}

func (f fault) Error() string {
	return "field " + strconv.Itoa(f.num) + ": " + f.cause.Error()
}

func (f fault) Unwrap() error {
	return f.cause
}

// told is what a layer below told, as an error; nil if all is well.
func told(e api.Errno) error {
	if e == api.OK {
		return nil
	}
	return errno(e)
}

// errnoOf is the number of what is wrong, however deep it lies.
func errnoOf(err error) api.Errno {
	var n errno
	switch {
	case err == nil:
		return api.OK
	case errors.Is(err, errBounds):
		return api.ErrArg
	case errors.Is(err, errMany):
		return api.ErrFull
	case errors.As(err, &n):
		return api.Errno(n)
	}
	return api.ErrOtlp
}
