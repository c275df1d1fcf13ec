package ptimer_test

import (
	"math"
	"testing"

	"metronome/api"
	"metronome/ptimer"
)

// none are a nil one and a zero one.
func none() []*ptimer.Timers {
	return []*ptimer.Timers{nil, {}}
}

// noTimers are numbers that are none of so many timers.
func noTimers(n int) []int {
	return []int{-1, -2, -n, -n - 1, n, n + 1, 8, 9, 64, 256, 1 << 32, 1<<32 + 1, -1 << 32, math.MinInt, math.MinInt + 1, math.MaxInt}
}

// noClocks are numbers that are no clocks.
func noClocks() []int {
	return []int{-1, -2, -3, 2, 3, 4, 256, 257, 1 << 32, 1<<32 + 1, -1 << 32, math.MinInt, math.MinInt + 1, math.MaxInt}
}

// noTimes are numbers that are no times.
func noTimes() []int64 {
	return []int64{-1, -2, -64, -1 << 32, -last, -last - 1, math.MinInt64, math.MinInt64 + 1, last + 1, last + 2, last + 64, 2 * last, 1 << 62, math.MaxInt64 - 1, math.MaxInt64}
}

// wrongTimers are calls for timers that there are not among so many, with what may be and what may not.
func wrongTimers(n int) []call {
	var all []call
	for _, id := range noTimers(n) {
		all = append(all, stop(id), clear(id), arm(id, mono, 10, 4), arm(id, real, 0, 0), arm(id, 2, 10, 4), arm(id, mono, -1, 4), arm(id, mono, 10, -1))
		all = append(all, arm(id, id, int64(id), int64(id)))
	}
	return all
}

// wrongArms are calls of Arm for timers that there are, with one or several of what may not be.
func wrongArms(n int) []call {
	var all []call
	for _, id := range []int{0, n - 1} {
		for _, clock := range noClocks() {
			all = append(all, arm(id, clock, 10, 4), arm(id, clock, 0, 0), arm(id, clock, last, last), arm(id, clock, -1, 4), arm(id, clock, int64(clock), int64(clock)))
		}
		for _, at := range noTimes() {
			for _, clock := range []int{real, mono, 2} {
				all = append(all, arm(id, clock, at, 0), arm(id, clock, at, 4), arm(id, clock, 0, at), arm(id, clock, 10, at), arm(id, clock, last, at), arm(id, clock, at, at))
			}
		}
	}
	return all
}

// wrongDues are calls of Due with a clock that is none, with a now that may not be, or with both.
func wrongDues() []call {
	var all []call
	for _, clock := range noClocks() {
		for _, now := range []int64{0, 10, last, -1, int64(clock)} {
			all = append(all, due(clock, now))
		}
	}
	for _, now := range noTimes() {
		all = append(all, due(real, now), due(mono, now), due(2, now))
	}
	return all
}

// P19.1, P19.2, P19.3, P19.4: what is refused changes nothing, and beside an error all is zero.
func TestWhatMayNotBeIsRefused(t *testing.T) {
	for _, x := range scenes(t) {
		n := x.Len()
		for _, c := range append(wrongTimers(n), wrongArms(n)...) {
			wantUnchanged(t, x, c, "ErrArg")
		}
		for _, c := range wrongDues() {
			wantUnchanged(t, x, c, "[]")
		}
		for _, id := range noTimers(n) {
			wantUnchanged(t, x, taken(id), "0 ErrArg")
			if at, ok := x.At(id); at != (api.TimerAt{}) || ok {
				t.Errorf("At(%d) of %d is %s, %v", id, n, text(at), ok)
			}
		}
	}
}

// P19.1, P19.2, P19.3, P19.4: a nil and a zero one refuse whatever they are given, and have nothing.
func TestNilAndZeroOnes(t *testing.T) {
	for _, x := range none() {
		for _, c := range append(wrongTimers(1), wrongArms(1)...) {
			want(t, x, c, "ErrNil")
		}
		for _, c := range []call{arm(0, mono, 10, 4), arm(0, real, 0, 0), arm(7, mono, last, last), stop(0), stop(7), clear(0), clear(7)} {
			want(t, x, c, "ErrNil")
		}
		for _, c := range append(wrongDues(), due(real, 0), due(mono, 10), due(mono, last)) {
			want(t, x, c, "[]")
		}
		for _, id := range append(noTimers(1), 0, 1, 7) {
			want(t, x, taken(id), "0 ErrNil")
			if at, ok := x.At(id); at != (api.TimerAt{}) || ok {
				t.Errorf("of none At(%d) is %s, %v", id, text(at), ok)
			}
		}
		if x.Len() != 0 || x.Copy() != nil {
			t.Errorf("of none Len is %d, Copy %v", x.Len(), x.Copy())
		}
	}
}

// P19.1: what was refused has not made anything of it.
func TestAZeroOneStaysZero(t *testing.T) {
	x := after(&ptimer.Timers{}, arm(0, mono, 1, 1), arm(-1, 2, -1, -1), due(mono, 5), taken(0), stop(0), clear(0))
	for _, other := range none() {
		wantSame(t, "a zero one", x, other, true)
	}
	if x.Copy() != nil || x.Len() != 0 {
		t.Error("a zero one became one")
	}
}

// P19.1: New that is refused makes none, which refuses whatever comes.
func TestWhatIsRefusedIsNone(t *testing.T) {
	for _, n := range []int{0, -1, 9, math.MinInt, math.MaxInt} {
		x, err := ptimer.New(n)
		if err != api.ErrArg {
			t.Errorf("New(%d) is %s", n, errText(err))
		}
		want(t, x, arm(0, mono, 1, 1), "ErrNil")
		want(t, x, taken(0), "0 ErrNil")
		wantSame(t, "refused", x, nil, true)
	}
}
