package ptimer_test

import (
	"fmt"
	"math"
	"strings"
	"testing"

	"metronome/api"
	"metronome/ptimer"
)

// last is the greatest time, and most the greatest count, as the document says.
const (
	last = 1 << 40
	most = 32767
)

// The clocks' numbers.
const (
	real = 0
	mono = 1
)

func errText(err api.Errno) string {
	names := []string{"OK", "ErrNil", "ErrArg", "ErrLong", "ErrBytes", "ErrFull", "ErrNone", "ErrState"}
	if int(err) >= 0 && int(err) < len(names) {
		return names[err]
	}
	return fmt.Sprint("error ", int(err))
}

// call is something that is done to timers, and tells the answer as a text.
type call struct {
	name string
	do   func(x *ptimer.Timers) string
}

func arm(id, clock int, at, interval int64) call {
	return call{fmt.Sprintf("Arm(%d, %d, %d, %d)", id, clock, at, interval), func(x *ptimer.Timers) string {
		return errText(x.Arm(id, clock, at, interval))
	}}
}

func stop(id int) call {
	return call{fmt.Sprintf("Stop(%d)", id), func(x *ptimer.Timers) string { return errText(x.Stop(id)) }}
}

func clear(id int) call {
	return call{fmt.Sprintf("Clear(%d)", id), func(x *ptimer.Timers) string { return errText(x.Clear(id)) }}
}

func due(clock int, now int64) call {
	return call{fmt.Sprintf("Due(%d, %d)", clock, now), func(x *ptimer.Timers) string { return listText(x.Due(clock, now)) }}
}

func taken(id int) call {
	return call{fmt.Sprintf("Taken(%d)", id), func(x *ptimer.Timers) string {
		overrun, err := x.Taken(id)
		return fmt.Sprint(overrun, " ", errText(err))
	}}
}

// listText is [0 1] of a list of numbers, and [] of none.
func listText(list []int) string { return fmt.Sprint(append([]int{}, list...)) }

// text is how a timer stands as a text: "mono 14+4 out 5 0" is armed by Mono at 14, and behind that each 4; a notice is
// out, 5 are counted, the overrun is 0; "off 0 0" is not armed, and nothing is out. What is not armed tells what it has
// yet of its arming, if it has.
func text(t api.TimerAt) string {
	armed := "off"
	switch {
	case t.Armed:
		armed = fmt.Sprintf("%s %d+%d", []string{"real", "mono"}[t.Clock], t.At, t.Interval)
	case t.Clock != 0 || t.At != 0 || t.Interval != 0:
		armed = fmt.Sprintf("off, yet %d %d+%d", t.Clock, t.At, t.Interval)
	}
	if t.Out {
		armed += " out"
	}
	return fmt.Sprint(armed, " ", t.Counted, " ", t.Overrun)
}

// order is the timers of a clock that are armed, in the order of those due: what a copy tells when no notice is out.
func order(x *ptimer.Timers, clock int) []int {
	c := x.Copy()
	for id := range 8 {
		c.Taken(id)
	}
	return c.Due(clock, last)
}

// stand is how timers stand, as a text: each one, and the orders of Real's and Mono's.
func stand(x *ptimer.Timers) string {
	var each []string
	for id := range x.Len() {
		t, _ := x.At(id)
		each = append(each, text(t))
	}
	return fmt.Sprint(strings.Join(each, "; "), " | ", listText(order(x, real)), " ", listText(order(x, mono)))
}

// fresh is new timers, to which calls were done, whatever they answered.
func fresh(t *testing.T, n int, calls ...call) *ptimer.Timers {
	t.Helper()
	x, err := ptimer.New(n)
	if x == nil || err != api.OK {
		t.Fatalf("New(%d) is %v, %s", n, x, errText(err))
	}
	return after(x, calls...)
}

// after does calls to some, whatever they answer.
func after(x *ptimer.Timers, calls ...call) *ptimer.Timers {
	for _, c := range calls {
		c.do(x)
	}
	return x
}

// want does a call, and asks for that answer.
func want(t *testing.T, x *ptimer.Timers, c call, answer string) {
	t.Helper()
	if got := c.do(x); got != answer {
		t.Errorf("%s is %s, want %s", c.name, got, answer)
	}
}

func wantStand(t *testing.T, what string, x *ptimer.Timers, stands string) {
	t.Helper()
	if got := stand(x); got != stands {
		t.Errorf("%s: they stand as %s, want %s", what, got, stands)
	}
}

// wantOne asks how one of them stands.
func wantOne(t *testing.T, what string, x *ptimer.Timers, id int, stands string) {
	t.Helper()
	if at, ok := x.At(id); !ok || text(at) != stands {
		t.Errorf("%s: %d stands as %s, %v, want %s", what, id, text(at), ok, stands)
	}
}

func wantSame(t *testing.T, what string, a, b *ptimer.Timers, is bool) {
	t.Helper()
	if ptimer.Same(a, b) != is || ptimer.Same(b, a) != is {
		t.Errorf("%s: Same of %s and %s is %v, %v, want %v", what, stand(a), stand(b), ptimer.Same(a, b), ptimer.Same(b, a), is)
	}
}

// wantUnchanged does a call, asks for that answer, and that nothing has changed.
func wantUnchanged(t *testing.T, x *ptimer.Timers, c call, answer string) {
	t.Helper()
	was, stands := x.Copy(), stand(x)
	want(t, x, c, answer)
	wantStand(t, c.name, x, stands)
	wantSame(t, c.name, x, was, true)
}

// step is a call, its answer, and how timers stand behind it.
type step struct {
	call   call
	answer string
	stands string
}

func wantSteps(t *testing.T, x *ptimer.Timers, steps ...step) {
	t.Helper()
	for i, s := range steps {
		want(t, x, s.call, s.answer)
		wantStand(t, fmt.Sprint("step ", i, ", ", s.call.name), x, s.stands)
	}
}

// P19.1, P19.2, P19.3, P19.4
func TestTheChaptersTimers(t *testing.T) {
	wantSteps(t, fresh(t, 2),
		step{arm(0, 1, 10, 4), "OK", "mono 10+4 0 0; off 0 0 | [] [0]"},
		step{arm(1, 1, 12, 0), "OK", "mono 10+4 0 0; mono 12+0 0 0 | [] [0 1]"},
		step{due(1, 9), "[]", "mono 10+4 0 0; mono 12+0 0 0 | [] [0 1]"},
		step{due(1, 13), "[0 1]", "mono 14+4 out 0 0; off out 0 0 | [] [0]"},
		step{due(1, 30), "[]", "mono 34+4 out 5 0; off out 0 0 | [] [0]"},
		step{taken(0), "5 OK", "mono 34+4 0 5; off out 0 0 | [] [0]"},
		step{taken(0), "5 OK", "mono 34+4 0 5; off out 0 0 | [] [0]"},
		step{due(1, 34), "[0]", "mono 38+4 out 0 5; off out 0 0 | [] [0]"},
		step{arm(2, 0, 1, 0), "ErrArg", "mono 38+4 out 0 5; off out 0 0 | [] [0]"},
		step{arm(0, 2, 1, 0), "ErrArg", "mono 38+4 out 0 5; off out 0 0 | [] [0]"},
	)
}

// P19.1: each number of timers that may be, and none else.
func TestNew(t *testing.T) {
	for n := 1; n <= 8; n++ {
		x := fresh(t, n)
		wantStand(t, "New", x, strings.Repeat("off 0 0; ", n-1)+"off 0 0 | [] []")
		if x.Len() != n {
			t.Errorf("Len of %d is %d", n, x.Len())
		}
	}
	for _, n := range []int{0, -1, -2, -7, -8, -9, 9, 10, 16, 64, 256, 257, 264, 1 << 32, 1<<32 + 1, 1<<32 + 8, -1 << 32, math.MinInt, math.MinInt + 1, math.MaxInt} {
		if x, err := ptimer.New(n); x != nil || err != api.ErrArg {
			t.Errorf("New(%d) is %v, %s", n, x, errText(err))
		}
	}
}

// P19.1, P19.4: one timer and as many as may be, the first one and the last one: the others stay as they were.
func TestArmStopAndClearOfEach(t *testing.T) {
	for n := 1; n <= 8; n++ {
		for id := range n {
			for _, clock := range []int{real, mono} {
				x := fresh(t, n)
				for other := range n {
					after(x, arm(other, mono, 100+int64(other), 7))
				}
				others := func(stands string) {
					t.Helper()
					for other := range n {
						if other != id {
							wantOne(t, "another one", x, other, fmt.Sprintf("mono %d+7 0 0", 100+other))
						}
					}
					wantOne(t, "one", x, id, stands)
				}
				others(fmt.Sprintf("mono %d+7 0 0", 100+id))
				want(t, x, arm(id, clock, 3, 5), "OK")
				others([]string{"real", "mono"}[clock] + " 3+5 0 0")
				want(t, x, due(clock, 3), fmt.Sprintf("[%d]", id))
				others([]string{"real", "mono"}[clock] + " 8+5 out 0 0")
				want(t, x, stop(id), "OK")
				others("off out 0 0")
				want(t, x, clear(id), "OK")
				others("off 0 0")
			}
		}
	}
}

// times are deadlines and intervals that may be, at the ends and between.
func times() []int64 {
	return []int64{0, 1, 2, 63, 64, 65, 1 << 31, 1 << 32, last - 65, last - 64, last - 1, last}
}

// P19.1: each deadline and interval that may be, 0, 1 and the greatest time among them, by both clocks.
func TestArmBy(t *testing.T) {
	for _, clock := range []int{real, mono} {
		for _, at := range times() {
			for _, interval := range times() {
				x := fresh(t, 2)
				want(t, x, arm(1, clock, at, interval), "OK")
				wantOne(t, "armed", x, 1, fmt.Sprintf("%s %d+%d 0 0", []string{"real", "mono"}[clock], at, interval))
				wantOne(t, "not armed", x, 0, "off 0 0")
				if at > 0 {
					wantUnchanged(t, x, due(clock, at-1), "[]")
				}
				wantUnchanged(t, x, due(1-clock, last), "[]")
				want(t, x, due(clock, at), "[1]")
			}
		}
	}
}

// P19.1: one that is armed again is armed so alone, whatever it was: its notice, what is counted and its overrun stay.
func TestArmAgain(t *testing.T) {
	wantSteps(t, fresh(t, 1),
		step{arm(0, mono, 10, 4), "OK", "mono 10+4 0 0 | [] [0]"},
		step{arm(0, mono, 20, 0), "OK", "mono 20+0 0 0 | [] [0]"},
		step{due(mono, 19), "[]", "mono 20+0 0 0 | [] [0]"},
		step{arm(0, real, 5, 3), "OK", "real 5+3 0 0 | [0] []"},
		step{due(mono, last), "[]", "real 5+3 0 0 | [0] []"},
		step{due(real, 9), "[0]", "real 11+3 out 1 0 | [0] []"},
		step{arm(0, mono, 7, 2), "OK", "mono 7+2 out 1 0 | [] [0]"},
		step{due(real, last), "[]", "mono 7+2 out 1 0 | [] [0]"},
		step{due(mono, 8), "[]", "mono 9+2 out 2 0 | [] [0]"},
		step{arm(0, mono, 8, 0), "OK", "mono 8+0 out 2 0 | [] [0]"},
		step{due(mono, 8), "[]", "off out 3 0 | [] []"},
		step{arm(0, real, 1, 1), "OK", "real 1+1 out 3 0 | [0] []"},
		step{taken(0), "3 OK", "real 1+1 0 3 | [0] []"},
		step{arm(0, mono, 2, 2), "OK", "mono 2+2 0 3 | [] [0]"},
		step{arm(0, mono, 2, 2), "OK", "mono 2+2 0 3 | [] [0]"},
		step{due(mono, 2), "[0]", "mono 4+2 out 0 3 | [] [0]"},
		step{arm(0, mono, 0, 0), "OK", "mono 0+0 out 0 3 | [] [0]"},
	)
}

// P19.1: Stop of one that is armed, of one that is not, of one whose notice is out: that, what is counted and the
// overrun stay.
func TestStop(t *testing.T) {
	wantSteps(t, fresh(t, 2, arm(1, mono, 50, 1)),
		step{stop(0), "OK", "off 0 0; mono 50+1 0 0 | [] [1]"},
		step{arm(0, mono, 10, 4), "OK", "mono 10+4 0 0; mono 50+1 0 0 | [] [0 1]"},
		step{stop(0), "OK", "off 0 0; mono 50+1 0 0 | [] [1]"},
		step{due(mono, 49), "[]", "off 0 0; mono 50+1 0 0 | [] [1]"},
		step{arm(0, mono, 10, 4), "OK", "mono 10+4 0 0; mono 50+1 0 0 | [] [0 1]"},
		step{due(mono, 18), "[0]", "mono 22+4 out 2 0; mono 50+1 0 0 | [] [0 1]"},
		step{stop(0), "OK", "off out 2 0; mono 50+1 0 0 | [] [1]"},
		step{stop(0), "OK", "off out 2 0; mono 50+1 0 0 | [] [1]"},
		step{due(mono, 49), "[]", "off out 2 0; mono 50+1 0 0 | [] [1]"},
		step{taken(0), "2 OK", "off 0 2; mono 50+1 0 0 | [] [1]"},
		step{stop(0), "OK", "off 0 2; mono 50+1 0 0 | [] [1]"},
		step{arm(0, real, 1, 0), "OK", "real 1+0 0 2; mono 50+1 0 0 | [0] [1]"},
		step{stop(0), "OK", "off 0 2; mono 50+1 0 0 | [] [1]"},
		step{stop(1), "OK", "off 0 2; off 0 0 | [] []"},
	)
}

// P19.1: Clear of one that is armed, of one that is not, of one whose notice is out: nothing of it stays.
func TestClear(t *testing.T) {
	scenes := [][]call{
		{},
		{arm(1, mono, 10, 0)},
		{arm(1, real, 10, 4)},
		{arm(1, mono, 10, 4), due(mono, 10)},
		{arm(1, mono, 10, 4), due(mono, 30)},
		{arm(1, real, 10, 4), due(real, 30)},
		{arm(1, mono, 10, 4), due(mono, 30), stop(1)},
		{arm(1, mono, 10, 4), due(mono, 30), taken(1)},
		{arm(1, mono, 10, 4), due(mono, 30), taken(1), due(mono, 40)},
		{arm(1, mono, 10, 4), due(mono, 30), taken(1), stop(1)},
		{arm(1, mono, 10, 0), due(mono, 30)},
	}
	for _, calls := range scenes {
		x := fresh(t, 3, append(calls, arm(0, mono, 80, 3), arm(2, real, 80, 3))...)
		want(t, x, clear(1), "OK")
		wantStand(t, "Clear", x, "mono 80+3 0 0; off 0 0; real 80+3 0 0 | [2] [0]")
		wantSame(t, "Clear", x, fresh(t, 3, arm(0, mono, 80, 3), arm(2, real, 80, 3)), true)
		wantUnchanged(t, x, clear(1), "OK")
		want(t, x, taken(1), "0 OK")
		want(t, x, arm(1, mono, 5, 1), "OK")
		want(t, x, due(mono, 7), "[1]")
		wantStand(t, "armed anew", x, "mono 80+3 0 0; mono 8+1 out 2 0; real 80+3 0 0 | [2] [1 0]")
	}
}
