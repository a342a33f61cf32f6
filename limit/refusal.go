package limit

import "portmanteau/api"

// refusal is what a function panics with if its arguments allow of no result.
type refusal struct {
	errno api.Errno
}

// require panics with e unless all conditions hold.
func require(e api.Errno, conditions ...bool) {
	for _, holds := range conditions {
		if !holds {
			panic(refusal{e})
		}
	}
}

// refused returns the error that a recovered panic stands for; there is none if there was no panic. A panic that is no refusal goes on, since a fault of the program must not look like a result.
func refused(cause any) api.Errno {
	if r, is := cause.(refusal); is {
		return r.errno
	}
	if cause != nil {
		panic(cause)
	}
	return api.OK
}
