package vfs

import "varve/api"

// fault is what is to go wrong, or went wrong for ever.
type fault struct {
	armed bool
	kind  api.Errno // OK: the power
	after int       // how many more calls do not fail by it
	dark  bool      // the power is gone
}

// Arm tells a call to fail.
func (f *FS) Arm(kind api.Errno, after int) api.Errno {
	if kind != api.OK && kind != api.ErrSpace && kind != api.ErrIO || after < 0 {
		return api.ErrArg
	}
	f.fault = fault{armed: true, kind: kind, after: after, dark: f.fault.dark}
	return api.OK
}

// begin counts a call, and answers what it fails with; OK, if it does not fail.
func (f *FS) begin() api.Errno {
	f.calls++
	return f.fault.meet()
}

// meet is what the next call meets.
func (x *fault) meet() api.Errno {
	if x.dark {
		return api.ErrIO
	}
	if !x.armed {
		return api.OK
	}
	if x.after > 0 {
		x.after--
		return api.OK
	}
	x.armed = false
	if x.kind != api.OK {
		return x.kind
	}
	x.dark = true
	return api.ErrIO
}
