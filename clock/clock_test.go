package clock_test

import (
	"math"
	"testing"

	"metronome/api"
	"metronome/clock"
)

// both are the two clocks.
func both() []api.Clock {
	return []api.Clock{api.Real, api.Mono}
}

// noPairs are nil and zero clocks.
func noPairs() []*clock.Clocks {
	return []*clock.Clocks{nil, {}}
}

// noClocks are clocks that are none.
func noClocks() []api.Clock {
	return []api.Clock{-1, -2, 2, 3, 4, 64, 256, 257, 1 << 32, 1<<32 + 1, -1 << 32, math.MinInt, math.MinInt + 1, math.MaxInt}
}

// belowNothing are numbers of ticks below 0.
func belowNothing() []int64 {
	return []int64{-1, -2, -5, -1 << 32, -api.MaxTime, -api.MaxTime - 1, math.MinInt64 + 1, math.MinInt64}
}

// beyondTime are numbers of ticks that no clock shows.
func beyondTime() []int64 {
	return []int64{api.MaxTime + 1, api.MaxTime + 2, 2 * api.MaxTime, 1 << 62, math.MaxInt64 - 1, math.MaxInt64}
}

// noTicks are both of these.
func noTicks() []int64 {
	return append(belowNothing(), beyondTime()...)
}

func wantErr(t *testing.T, what string, got, want api.Errno) {
	t.Helper()
	if got != want {
		t.Errorf("%s: %v, want %v", what, got, want)
	}
}

// made is new clocks of which Real shows that.
func made(t *testing.T, real int64) *clock.Clocks {
	t.Helper()
	c, err := clock.New(real)
	if c == nil || err != api.OK {
		t.Fatalf("New(%d) is %v, %v", real, c, err)
	}
	return c
}

// ticked is new clocks that have ticked so often, and of which Real shows that then.
func ticked(t *testing.T, real int64, ticks int) *clock.Clocks {
	t.Helper()
	c := made(t, 0)
	tick(t, c, ticks)
	set(t, c, real)
	return c
}

func tick(t *testing.T, c *clock.Clocks, ticks int) {
	t.Helper()
	for range ticks {
		wantErr(t, "Tick", c.Tick(), api.OK)
	}
}

func set(t *testing.T, c *clock.Clocks, real int64) {
	t.Helper()
	wantErr(t, "Set", c.Set(api.Real, real), api.OK)
}

func wantNow(t *testing.T, what string, c *clock.Clocks, real, mono int64) {
	t.Helper()
	for k, want := range []int64{real, mono} {
		if got, err := c.Now(api.Clock(k)); got != want || err != api.OK {
			t.Errorf("%s: Now(%d) is %d, %v, want %d", what, k, got, err, want)
		}
	}
}

func wantDue(t *testing.T, c *clock.Clocks, k api.Clock, deadline int64, want bool) {
	t.Helper()
	if got := c.Due(k, deadline); got != want {
		t.Errorf("Due(%d, %d) is %v", k, deadline, got)
	}
}

func wantIn(t *testing.T, c *clock.Clocks, k api.Clock, ticks, want int64, wantErr api.Errno) {
	t.Helper()
	if got, err := c.In(k, ticks); got != want || err != wantErr {
		t.Errorf("In(%d, %d) is %d, %v, want %d, %v", k, ticks, got, err, want, wantErr)
	}
}

func wantLeft(t *testing.T, c *clock.Clocks, k api.Clock, deadline, want int64, wantErr api.Errno) {
	t.Helper()
	if got, err := c.Left(k, deadline); got != want || err != wantErr {
		t.Errorf("Left(%d, %d) is %d, %v, want %d, %v", k, deadline, got, err, want, wantErr)
	}
}

func wantSame(t *testing.T, what string, a, b *clock.Clocks, want bool) {
	t.Helper()
	if clock.Same(a, b) != want || clock.Same(b, a) != want {
		t.Errorf("%s: Same is %v, %v, want %v", what, clock.Same(a, b), clock.Same(b, a), want)
	}
}

// P8.1
func TestNewOnesShowWhatTheyAreMadeWith(t *testing.T) {
	for _, real := range []int64{0, 1, 5, 1 << 31, 1 << 32, api.MaxTime - 1, api.MaxTime} {
		wantNow(t, "new", made(t, real), real, 0)
	}
	a, b := made(t, 5), made(t, 5)
	tick(t, a, 3)
	set(t, a, 100)
	wantNow(t, "one that goes on", a, 100, 3)
	wantNow(t, "another new one", b, 5, 0)
}

// P8.1
func TestNewRefusesTicksThatMayNotBe(t *testing.T) {
	for _, real := range noTicks() {
		if c, err := clock.New(real); c != nil || err != api.ErrArg {
			t.Errorf("New(%d) is %v, %v", real, c, err)
		}
	}
}

// P8.1
func TestATickIsOneMoreOnEach(t *testing.T) {
	c := made(t, 5)
	for n := range int64(300) {
		wantNow(t, "ticks", c, 5+n, n)
		tick(t, c, 1)
	}
	c = made(t, 1<<32-1)
	tick(t, c, 2)
	wantNow(t, "beyond 32 bits", c, 1<<32+1, 2)
}

// P8.1
func TestAClockAtItsEndStaysThereAndTheOtherGoesOn(t *testing.T) {
	c := made(t, api.MaxTime-1)
	tick(t, c, 1)
	wantNow(t, "reached just", c, api.MaxTime, 1)
	tick(t, c, 1)
	wantNow(t, "at its end", c, api.MaxTime, 2)
	tick(t, c, 100)
	wantNow(t, "long at its end", c, api.MaxTime, 102)
	set(t, c, 7)
	tick(t, c, 1)
	wantNow(t, "set back", c, 8, 103)

	c = made(t, api.MaxTime)
	tick(t, c, 1)
	wantNow(t, "at its end from the beginning", c, api.MaxTime, 1)
}

// P8.1
func TestNowRefusesClocksThatAreNone(t *testing.T) {
	c := ticked(t, 9, 4)
	for _, k := range noClocks() {
		if got, err := c.Now(k); got != 0 || err != api.ErrArg {
			t.Errorf("Now(%d) is %d, %v", k, got, err)
		}
	}
	wantNow(t, "refused", c, 9, 4)
}

// P8.1
func TestSetLetsRealShowThatAndMonoGoesOn(t *testing.T) {
	c := ticked(t, 50, 3)
	for _, real := range []int64{0, 1, api.MaxTime, 0, api.MaxTime - 1, 49, 49, 51, 1 << 33, 2} {
		set(t, c, real)
		wantNow(t, "set", c, real, 3)
	}
	tick(t, c, 1)
	wantNow(t, "from there on", c, 3, 4)
	set(t, c, api.MaxTime)
	tick(t, c, 1)
	wantNow(t, "set to its end", c, api.MaxTime, 5)
	set(t, c, 0)
	tick(t, c, 1)
	wantNow(t, "set to 0", c, 1, 6)
}

// P8.1
func TestSetRefusesTicksThatMayNotBe(t *testing.T) {
	c := ticked(t, 50, 3)
	for _, ticks := range noTicks() {
		wantErr(t, "Set of Real", c.Set(api.Real, ticks), api.ErrArg)
		wantNow(t, "refused", c, 50, 3)
	}
}

// P8.1
func TestMonoCannotBeSet(t *testing.T) {
	c := ticked(t, 50, 3)
	for _, ticks := range []int64{0, 2, 3, 4, api.MaxTime} {
		wantErr(t, "Set of Mono", c.Set(api.Mono, ticks), api.ErrState)
		wantNow(t, "refused", c, 50, 3)
	}
	for _, ticks := range noTicks() {
		wantErr(t, "Set of Mono to none", c.Set(api.Mono, ticks), api.ErrArg)
		wantNow(t, "refused", c, 50, 3)
	}
}

// P8.1
func TestSetRefusesClocksThatAreNone(t *testing.T) {
	c := ticked(t, 50, 3)
	for _, k := range noClocks() {
		for _, ticks := range append(noTicks(), 0, 5, api.MaxTime) {
			wantErr(t, "Set of none", c.Set(k, ticks), api.ErrArg)
		}
	}
	wantNow(t, "refused", c, 50, 3)
}

// P8.2
func TestDueIsWhatTheClockShowsOrLess(t *testing.T) {
	c := ticked(t, 20, 6)
	for k, now := range []int64{20, 6} {
		k := api.Clock(k)
		for _, deadline := range []int64{0, 1, now - 1, now} {
			wantDue(t, c, k, deadline, true)
		}
		for _, deadline := range []int64{now + 1, now + 2, 1 << 32, 1<<32 + now, api.MaxTime - 1, api.MaxTime} {
			wantDue(t, c, k, deadline, false)
		}
	}
	wantDue(t, c, api.Real, 7, true)
	wantDue(t, c, api.Mono, 7, false)
	tick(t, c, 1)
	wantDue(t, c, api.Mono, 7, true)
	wantDue(t, c, api.Real, 21, true)
	wantDue(t, c, api.Real, 22, false)
	set(t, c, 3)
	wantDue(t, c, api.Real, 21, false)
	wantDue(t, c, api.Real, 4, false)
	wantDue(t, c, api.Real, 3, true)
	wantDue(t, c, api.Mono, 7, true)
}

// P8.2: new ones show 0, which is due at once.
func TestDueAtTheBeginning(t *testing.T) {
	c := made(t, 0)
	for _, k := range both() {
		wantDue(t, c, k, 0, true)
		wantDue(t, c, k, 1, false)
		wantLeft(t, c, k, 0, 0, api.OK)
		wantLeft(t, c, k, 1, 1, api.OK)
	}
}

// P8.2: what is beyond MaxTime is due at MaxTime, and no sooner.
func TestDeadlinesBeyondTimeAreDueAtItsEnd(t *testing.T) {
	c := made(t, api.MaxTime-1)
	for _, deadline := range append(beyondTime(), api.MaxTime) {
		wantDue(t, c, api.Real, deadline, false)
		wantLeft(t, c, api.Real, deadline, 1, api.OK)
		wantLeft(t, c, api.Mono, deadline, api.MaxTime, api.OK)
	}
	tick(t, c, 1)
	for _, deadline := range append(beyondTime(), api.MaxTime, api.MaxTime-1, 0) {
		wantDue(t, c, api.Real, deadline, true)
		wantLeft(t, c, api.Real, deadline, 0, api.OK)
	}
	for _, deadline := range append(beyondTime(), api.MaxTime) {
		wantDue(t, c, api.Mono, deadline, false)
		wantLeft(t, c, api.Mono, deadline, api.MaxTime-1, api.OK)
	}
}

// P8.2: a clock shows more than any number below 0.
func TestDeadlinesBelowNothingAreDue(t *testing.T) {
	for _, c := range []*clock.Clocks{made(t, 0), ticked(t, 20, 6), made(t, api.MaxTime)} {
		for _, deadline := range belowNothing() {
			for _, k := range both() {
				wantDue(t, c, k, deadline, true)
				wantLeft(t, c, k, deadline, 0, api.OK)
			}
		}
	}
}

// P8.2
func TestInIsSoManyTicksFromNow(t *testing.T) {
	c := ticked(t, 20, 6)
	for k, now := range []int64{20, 6} {
		k := api.Clock(k)
		for _, ticks := range []int64{0, 1, 2, 14, 1 << 32, api.MaxTime - now - 1, api.MaxTime - now} {
			wantIn(t, c, k, ticks, now+ticks, api.OK)
		}
		for _, ticks := range append(beyondTime(), api.MaxTime-now+1, api.MaxTime-1, api.MaxTime) {
			wantIn(t, c, k, ticks, api.MaxTime, api.OK)
		}
		for _, ticks := range belowNothing() {
			wantIn(t, c, k, ticks, 0, api.ErrArg)
		}
	}
	wantNow(t, "asked", c, 20, 6)
}

// P8.2
func TestInAtTheEndOfTimeAndAtItsBeginning(t *testing.T) {
	c := made(t, api.MaxTime)
	for _, ticks := range append(beyondTime(), 0, 1, 2, api.MaxTime) {
		wantIn(t, c, api.Real, ticks, api.MaxTime, api.OK)
	}
	for _, ticks := range []int64{0, 1, 2, api.MaxTime - 1, api.MaxTime} {
		wantIn(t, c, api.Mono, ticks, ticks, api.OK)
	}
	for _, ticks := range beyondTime() {
		wantIn(t, c, api.Mono, ticks, api.MaxTime, api.OK)
	}
	for _, k := range both() {
		for _, ticks := range belowNothing() {
			wantIn(t, c, k, ticks, 0, api.ErrArg)
		}
	}
}

// P8.2
func TestLeftIsHowManyTicksThereAreYet(t *testing.T) {
	c := ticked(t, 20, 6)
	for k, now := range []int64{20, 6} {
		k := api.Clock(k)
		for _, deadline := range []int64{0, 1, now - 1, now} {
			wantLeft(t, c, k, deadline, 0, api.OK)
		}
		for _, deadline := range []int64{now + 1, now + 2, now + 100, 1<<32 + now, api.MaxTime - 1, api.MaxTime} {
			wantLeft(t, c, k, deadline, deadline-now, api.OK)
		}
		for _, deadline := range beyondTime() {
			wantLeft(t, c, k, deadline, api.MaxTime-now, api.OK)
		}
	}
	tick(t, c, 1)
	wantLeft(t, c, api.Real, 30, 9, api.OK)
	wantLeft(t, c, api.Mono, 30, 23, api.OK)
	set(t, c, 10)
	wantLeft(t, c, api.Real, 30, 20, api.OK)
	wantLeft(t, c, api.Mono, 30, 23, api.OK)
	wantNow(t, "asked", c, 10, 7)
}

// P8.2
func TestClocksThatAreNoneHaveNoDeadlines(t *testing.T) {
	for _, c := range []*clock.Clocks{ticked(t, 20, 6), made(t, api.MaxTime)} {
		for _, k := range noClocks() {
			for _, n := range append(noTicks(), 0, 1, 20, api.MaxTime) {
				wantDue(t, c, k, n, false)
				wantIn(t, c, k, n, 0, api.ErrArg)
				wantLeft(t, c, k, n, 0, api.ErrArg)
			}
		}
	}
}

// P8.3
func TestACopyGoesOnApart(t *testing.T) {
	c := ticked(t, 20, 6)
	other := c.Copy()
	wantNow(t, "a copy", other, 20, 6)
	wantSame(t, "a copy", c, other, true)
	tick(t, c, 2)
	wantNow(t, "that has ticked", c, 22, 8)
	wantNow(t, "whose elder one has ticked", other, 20, 6)
	wantSame(t, "apart", c, other, false)
	set(t, other, 9)
	tick(t, other, 1)
	wantNow(t, "whose copy was set", c, 22, 8)
	wantNow(t, "a copy that was set", other, 10, 7)
	wantNow(t, "a copy of new ones", made(t, 0).Copy(), 0, 0)
	wantNow(t, "a copy at its end", made(t, api.MaxTime).Copy(), api.MaxTime, 0)
}

// P8.3
func TestSameIsWhatBothShow(t *testing.T) {
	wantSame(t, "new ones", made(t, 0), made(t, 0), true)
	wantSame(t, "of other times", made(t, 0), made(t, 1), false)
	wantSame(t, "Real alone differs", ticked(t, 20, 6), ticked(t, 21, 6), false)
	wantSame(t, "Mono alone differs", ticked(t, 20, 6), ticked(t, 20, 7), false)
	wantSame(t, "both differ", ticked(t, 20, 6), ticked(t, 21, 7), false)
	wantSame(t, "the other way round", ticked(t, 20, 6), ticked(t, 6, 20), false)
	wantSame(t, "beyond 32 bits", made(t, 1<<32), made(t, 0), false)
	c := made(t, 5)
	wantSame(t, "itself", c, c, true)
}

// P8.3: how they came to show that makes no difference.
func TestSameDoesNotHangOnTheWayThere(t *testing.T) {
	a, b := made(t, 4), made(t, api.MaxTime)
	tick(t, a, 2)
	tick(t, b, 2)
	set(t, b, 1)
	set(t, b, 6)
	wantErr(t, "Set of Mono", b.Set(api.Mono, 9), api.ErrState)
	wantNow(t, "set and ticked", b, 6, 2)
	wantSame(t, "on two ways", a, b, true)
	wantSame(t, "a copy of a copy", a.Copy().Copy(), b, true)
}

// P8.1, P8.2, P8.3
func TestNoClocks(t *testing.T) {
	for _, c := range noPairs() {
		wantErr(t, "Tick", c.Tick(), api.ErrNil)
		for _, k := range append(noClocks(), both()...) {
			if got, err := c.Now(k); got != 0 || err != api.ErrNil {
				t.Errorf("Now(%d) of none is %d, %v", k, got, err)
			}
			for _, n := range append(noTicks(), 0, 5, api.MaxTime) {
				wantErr(t, "Set", c.Set(k, n), api.ErrNil)
				wantDue(t, c, k, n, false)
				wantIn(t, c, k, n, 0, api.ErrNil)
				wantLeft(t, c, k, n, 0, api.ErrNil)
			}
		}
		if c.Copy() != nil {
			t.Error("a copy of none")
		}
		for _, other := range noPairs() {
			wantSame(t, "none and none", c, other, true)
		}
		wantSame(t, "none and new ones", c, made(t, 0), false)
		wantSame(t, "none and others", c, ticked(t, 20, 6), false)
	}
}

// A refused call makes nothing of a zero one.
func TestAZeroOneStaysOne(t *testing.T) {
	c := &clock.Clocks{}
	c.Tick()
	c.Set(api.Real, 5)
	c.In(api.Real, 5)
	wantSame(t, "a zero one", c, nil, true)
	wantErr(t, "Tick", c.Tick(), api.ErrNil)
}

// P8.1, P8.2: the chapter's own.
func TestExamples(t *testing.T) {
	for _, real := range []int64{-1, 1<<40 + 1} {
		if c, err := clock.New(real); c != nil || err != api.ErrArg {
			t.Errorf("New(%d) is %v, %v", real, c, err)
		}
	}
	c := made(t, 5)
	wantNow(t, "new", c, 5, 0)
	if got, err := c.Now(2); got != 0 || err != api.ErrArg {
		t.Errorf("Now(2) is %d, %v", got, err)
	}
	wantErr(t, "Tick", c.Tick(), api.OK)
	wantNow(t, "ticked", c, 6, 1)
	wantErr(t, "Set of Mono", c.Set(api.Mono, 9), api.ErrState)
	wantErr(t, "Set of Real", c.Set(api.Real, 2), api.OK)
	wantNow(t, "set", c, 2, 1)
	wantIn(t, c, api.Mono, 3, 4, api.OK)
	wantDue(t, c, api.Mono, 4, false)
	wantLeft(t, c, api.Mono, 4, 3, api.OK)
	wantIn(t, c, api.Real, 1<<62, 1<<40, api.OK)
}
