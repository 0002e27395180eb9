package nvlog

import (
	"errors"

	"flint/api"
)

// fault is an error that tells at what it came, and wraps why.
type fault struct {
	at  string
	why error
}

func (f *fault) Error() string {
	return f.at + ": " + f.why.Error()
}

func (f *fault) Unwrap() error {
	return f.why
}

// wrap tells an error that wraps e, which came at at; none, if e is OK.
func wrap(at string, e api.Errno) error {
	if e == api.OK {
		return nil
	}
	return &fault{at, e}
}

// errno tells what err wraps; OK, if it is none.
func errno(err error) api.Errno {
	e := api.OK
	errors.As(err, &e)
	return e
}
