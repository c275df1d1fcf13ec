package keys

import "metronome/api"

// Once is a control of what is done once; a zero one is free.
type Once struct {
	state api.OnceState
	// Thread runs it; where nobody does, it is 0.
	thread int
}

// NewOnce is a control that is free.
func NewOnce() *Once {
	return &Once{}
}

// Ask lets the thread run it, if it is free: what it was.
func (o *Once) Ask(thread int) (api.OnceState, api.Errno) {
	var was api.OnceState
	err := asked(o != nil, mayBeThread(thread), func() api.Errno {
		if o.runsBy(thread) {
			return api.ErrState
		}
		if was = o.state; was == api.OnceFree {
			*o = Once{state: api.OnceRuns, thread: thread}
		}
		return api.OK
	})
	return was, err
}

// End lets it be done, or free again, by the thread that runs it.
func (o *Once) End(thread int, done bool) api.Errno {
	return asked(o != nil, mayBeThread(thread), func() api.Errno {
		if !o.runsBy(thread) {
			return api.ErrState
		}
		*o = Once{state: api.OnceFree}
		if done {
			o.state = api.OnceDone
		}
		return api.OK
	})
}

// At is what it is, and who runs it, or 0.
func (o *Once) At() (api.OnceState, int) {
	if o == nil {
		return api.OnceFree, 0
	}
	return o.state, o.thread
}

// Copy is another one that goes on apart.
func (o *Once) Copy() *Once {
	if o == nil {
		return nil
	}
	other := *o
	return &other
}

func (o *Once) runsBy(thread int) bool {
	return o.state == api.OnceRuns && o.thread == thread
}
