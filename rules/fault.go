package rules

import (
	"errors"

	"tocsin/api"
)

var (
	errSet   = errors.New("no right label set")
	errRoom  = errors.New("too many labels")
	errState = errors.New("an alert that can not be")
	errTwice = errors.New("two of one label set")
)

// fault is an error, and the number by which it is told.
type fault struct {
	number api.Errno
	cause  error
}

func (f fault) Error() string { return f.cause.Error() }

func (f fault) Unwrap() error { return f.cause }

// number answers the number by which an error is told.
func number(err error) api.Errno {
	var f fault
	if errors.As(err, &f) {
		return f.number
	}
	return api.OK
}

// numberOfPoints: of points, two of one label set are several where one must be.
func numberOfPoints(err error) api.Errno {
	if errors.Is(err, errTwice) {
		return api.ErrMany
	}
	return number(err)
}
