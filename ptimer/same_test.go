package ptimer_test

import (
	"fmt"
	"testing"

	"metronome/api"
	"metronome/ptimer"
)

// scenes are timers of many kinds, of which no two are the same.
func scenes(t *testing.T) []*ptimer.Timers {
	t.Helper()
	return []*ptimer.Timers{
		fresh(t, 1),
		fresh(t, 2),
		fresh(t, 8),
		fresh(t, 2, arm(0, mono, 10, 4)),
		fresh(t, 2, arm(1, mono, 10, 4)),
		fresh(t, 3, arm(0, mono, 10, 4)),
		fresh(t, 2, arm(0, real, 10, 4)),
		fresh(t, 2, arm(0, mono, 11, 4)),
		fresh(t, 2, arm(0, mono, 74, 4)),
		fresh(t, 2, arm(0, mono, 10, 5)),
		fresh(t, 2, arm(0, mono, 10, 0)),
		fresh(t, 2, arm(0, mono, 0, 0)),
		fresh(t, 2, arm(0, real, 0, 0)),
		fresh(t, 2, arm(0, mono, 6, 4), due(mono, 6)),
		fresh(t, 2, arm(0, mono, 2, 4), due(mono, 6)),
		fresh(t, 2, arm(0, mono, 2, 4), due(mono, 6), taken(0)),
		fresh(t, 2, arm(0, mono, 2, 2), due(mono, 9), taken(0), arm(0, mono, 10, 4)),
		fresh(t, 2, arm(0, mono, 2, 2), due(mono, 8), taken(0), stop(0)),
		fresh(t, 2, arm(0, mono, 2, 2), due(mono, 8), stop(0)),
		fresh(t, 2, arm(0, mono, 2, 0), due(mono, 8)),
		fresh(t, 2, arm(0, mono, 10, 4), arm(1, mono, 10, 4)),
		fresh(t, 2, arm(1, mono, 10, 4), arm(0, mono, 10, 4)),
		fresh(t, 2, arm(0, real, 10, 4), arm(1, mono, 10, 4)),
		fresh(t, 2, arm(0, mono, 10, 4), arm(1, real, 10, 4)),
		fresh(t, 2, arm(0, real, 10, 4), arm(1, real, 10, 4)),
		fresh(t, 2, arm(1, real, 10, 4), arm(0, real, 10, 4)),
		fresh(t, 2, arm(0, mono, 0, 1), due(mono, last), arm(1, real, last, last)),
	}
}

// P19.4
func TestNoTwoOfTheScenesAreTheSame(t *testing.T) {
	all, again := scenes(t), scenes(t)
	for i, a := range all {
		for j, b := range again {
			wantSame(t, fmt.Sprint("scenes ", i, " and ", j), a, b, i == j)
		}
	}
}

// P19.4
func TestSameOfNilAndZeroOnes(t *testing.T) {
	for _, x := range none() {
		for _, other := range none() {
			wantSame(t, "none and none", x, other, true)
		}
		for _, one := range scenes(t) {
			wantSame(t, "none and one", x, one, false)
		}
	}
}

// P19.4: two that were brought to the same by unlike calls.
func TestSameByUnlikeCalls(t *testing.T) {
	for _, x := range []struct {
		name string
		a, b []call
	}{
		{"armed at once, and by the way of another clock", []call{arm(0, mono, 10, 4)}, []call{arm(0, real, 3, 1), arm(0, mono, 10, 4)}},
		{"armed, and armed anew by its interval", []call{arm(0, mono, 2, 4), due(mono, 2), taken(0)}, []call{arm(0, mono, 6, 4)}},
		{"one behind the other, and set once more", []call{arm(0, mono, 9, 0), arm(1, mono, 9, 0)}, []call{arm(1, mono, 9, 0), arm(0, mono, 9, 0), arm(1, mono, 9, 0)}},
		{"of two deadlines, set in whatever order", []call{arm(0, mono, 9, 0), arm(1, mono, 73, 0)}, []call{arm(1, mono, 73, 0), arm(0, mono, 9, 0)}},
		{"of two clocks, set in whatever order", []call{arm(0, mono, 9, 0), arm(1, real, 9, 0)}, []call{arm(1, real, 9, 0), arm(0, mono, 9, 0)}},
		{"stopped, and never armed", []call{arm(0, mono, 9, 3), stop(0)}, nil},
		{"cleared, and never due", []call{arm(0, real, 2, 1), due(real, 9), taken(0), due(real, 12), clear(0)}, nil},
		{"due once, and again and again till it was stopped", []call{arm(0, mono, 9, 0), due(mono, 9)}, []call{arm(0, mono, 5, 3), due(mono, 7), stop(0)}},
		{"due at once, and one behind the other", []call{arm(0, mono, 1, 1), due(mono, 3)}, []call{arm(0, mono, 1, 1), due(mono, 1), due(mono, 2), due(mono, 3)}},
		{"counted by either clock", []call{arm(0, mono, 1, 1), due(mono, 5), stop(0)}, []call{arm(0, real, 1, 2), due(real, 9), stop(0)}},
		{"beyond the greatest count", []call{arm(0, mono, 0, 1), due(mono, 40000), stop(0)}, []call{arm(0, mono, 0, 1), due(mono, last)}},
		{"an overrun of the same number", []call{arm(0, mono, 0, 1), due(mono, 4), taken(0), stop(0)}, []call{arm(0, real, 3, 2), due(real, 11), taken(0), stop(0)}},
	} {
		wantSame(t, x.name, fresh(t, 2, x.a...), fresh(t, 2, x.b...), true)
	}
}

// P19.4: the order in which those of one deadline were set is looked at, of each two.
func TestSameLooksAtTheOrder(t *testing.T) {
	orders := [][]int{{0, 1, 2}, {0, 2, 1}, {1, 0, 2}, {1, 2, 0}, {2, 0, 1}, {2, 1, 0}}
	for _, clock := range []int{real, mono} {
		for i, a := range orders {
			for j, b := range orders {
				x, y := fresh(t, 3), fresh(t, 3)
				for n := range 3 {
					after(x, arm(a[n], clock, 70, 5))
					after(y, arm(b[n], clock, 70, 5))
				}
				wantSame(t, fmt.Sprint(a, " and ", b), x, y, i == j)
			}
		}
	}
}

// P19.4: Copy is the same, and both go on apart.
func TestCopyGoesOnApart(t *testing.T) {
	changes := []call{arm(0, mono, 10, 3), arm(0, real, 10, 3), arm(0, mono, 12, 4), due(mono, 500), due(real, 500), stop(0), clear(0), taken(0)}
	for i, x := range scenes(t) {
		for _, c := range changes {
			x := x.Copy()
			is := stand(x)
			other := x.Copy()
			wantStand(t, "a copy", other, is)
			wantSame(t, "a copy", x, other, true)
			c.do(other)
			wantStand(t, fmt.Sprint("scene ", i, ": ", c.name, " of the copy"), x, is)
			wantSame(t, "the copy went on", x, other, stand(other) == is)
			changed := stand(other)
			c.do(x)
			wantStand(t, fmt.Sprint("scene ", i, ": ", c.name, " of both"), x, changed)
			wantStand(t, "the copy stayed", other, changed)
			wantSame(t, "both went on", x, other, true)
		}
	}
}

// P19.4: a copy of one is nothing to the order of the other, also where one and the same deadline is set and taken.
func TestCopyKeepsItsOwnOrder(t *testing.T) {
	x := fresh(t, 4, arm(3, mono, 9, 0), arm(2, mono, 9, 0), arm(1, mono, 9, 0))
	c := x.Copy()
	after(x, stop(3), arm(0, mono, 9, 0))
	after(c, stop(2), arm(0, mono, 73, 0), arm(2, mono, 9, 0))
	wantStand(t, "one", x, "mono 9+0 0 0; mono 9+0 0 0; mono 9+0 0 0; off 0 0 | [] [2 1 0]")
	wantStand(t, "its copy", c, "mono 73+0 0 0; mono 9+0 0 0; mono 9+0 0 0; mono 9+0 0 0 | [] [3 1 2 0]")
}

// P19.4: At of each state, and that looking changes nothing.
func TestLookingChangesNothing(t *testing.T) {
	for i, x := range scenes(t) {
		was, is := x.Copy(), stand(x)
		for range 2 {
			for id := range x.Len() {
				at, ok := x.At(id)
				if !ok {
					t.Errorf("scene %d: At(%d) is not there", i, id)
				}
				at.Out, at.Counted = !at.Out, 7
			}
			x.Len()
			x.Copy()
			ptimer.Same(x, was)
			ptimer.Same(was, x)
			wantStand(t, fmt.Sprint("scene ", i), x, is)
			wantSame(t, fmt.Sprint("scene ", i), x, was, true)
		}
	}
}

// P19.4: At tells all of it.
func TestAt(t *testing.T) {
	x := fresh(t, 4)
	for _, s := range []struct {
		call call
		at   api.TimerAt
	}{
		{taken(3), api.TimerAt{}},
		{arm(3, mono, 10, 0), api.TimerAt{Armed: true, Clock: 1, At: 10}},
		{arm(3, real, 10, 4), api.TimerAt{Armed: true, At: 10, Interval: 4}},
		{due(real, 10), api.TimerAt{Armed: true, At: 14, Interval: 4, Out: true}},
		{due(real, 22), api.TimerAt{Armed: true, At: 26, Interval: 4, Out: true, Counted: 3}},
		{taken(3), api.TimerAt{Armed: true, At: 26, Interval: 4, Overrun: 3}},
		{due(real, 30), api.TimerAt{Armed: true, At: 34, Interval: 4, Out: true, Counted: 1, Overrun: 3}},
		{stop(3), api.TimerAt{Out: true, Counted: 1, Overrun: 3}},
		{arm(3, mono, last, last), api.TimerAt{Armed: true, Clock: 1, At: last, Interval: last, Out: true, Counted: 1, Overrun: 3}},
		{due(mono, last), api.TimerAt{Out: true, Counted: 2, Overrun: 3}},
		{arm(3, real, 0, 0), api.TimerAt{Armed: true, Out: true, Counted: 2, Overrun: 3}},
		{clear(3), api.TimerAt{}},
	} {
		s.call.do(x)
		if at, ok := x.At(3); at != s.at || !ok {
			t.Errorf("behind %s At is %+v, %v, want %+v", s.call.name, at, ok, s.at)
		}
	}
}
