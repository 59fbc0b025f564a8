package vm

import "auklet/api"

// fault is what a run is ended with: the error that something told which was asked.
type fault struct{ e api.Errno }

// check ends the run with an error, if there is one.
func check(e api.Errno) {
	if e != api.OK {
		panic(fault{e})
	}
}

// must is what was told, unless an error was: that ends the run.
func must[T any](told T, e api.Errno) T {
	check(e)
	return told
}

// limit ends the run, if there is more of something than may be.
func limit(many, most int) {
	if many > most {
		panic(fault{api.ErrLong})
	}
}
