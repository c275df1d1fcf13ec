package cancel_test

import (
	"math"
	"testing"

	"metronome/cancel"
)

// none are a nil one and a zero one.
func none() []*cancel.Cancel {
	return []*cancel.Cancel{nil, {}}
}

// noPrograms are numbers that are no programs.
func noPrograms() []int {
	return []int{-1, -2, -31, -32, -33, 32, 33, 63, 64, 255, 256, 257, 1 << 31, 1 << 32, 1<<32 + 1, 1<<32 + 31, -1 << 32, -1<<32 + 1, math.MinInt, math.MinInt + 1, math.MaxInt - 1, math.MaxInt}
}

// P20.3: a program that may not be is refused, whatever lies there, and ahead of as many as may be.
func TestProgramsThatMayNotBe(t *testing.T) {
	for _, c := range scenes(t) {
		for _, program := range noPrograms() {
			for _, value := range []int64{0, 7, math.MinInt64, math.MaxInt64} {
				wantUnchanged(t, c, push(program, value), "ErrArg")
			}
		}
	}
	// Where as many lie as may be, the program is named first.
	c := fresh(t, full()...)
	wantUnchanged(t, c, push(last, 0), "ErrFull")
	wantUnchanged(t, c, push(last+1, 0), "ErrArg")
	wantUnchanged(t, c, push(0, 0), "ErrFull")
	wantUnchanged(t, c, push(-1, 0), "ErrArg")
}

// P20.2, P20.3: what is refused changes nothing, of each of the scenes, and beside an error all is zero.
func TestWhatIsRefusedChangesNothing(t *testing.T) {
	for _, c := range scenes(t) {
		if c.Unwinds() {
			wantUnchanged(t, c, unwind(), "ErrState")
		}
		if c.Len() == 0 {
			wantUnchanged(t, c, pop(), "0:0 ErrNone")
		}
		if c.Len() == most {
			wantUnchanged(t, c, push(0, 0), "ErrFull")
			wantUnchanged(t, c, push(last, -1), "ErrFull")
		}
	}
}

// P20.1 to P20.4: a nil one and a zero one refuse whatever they are given, are nothing, and have nothing.
func TestNilAndZeroOnes(t *testing.T) {
	for _, c := range none() {
		for range 2 {
			for _, x := range []call{ask(), enable(true), enable(false), async(true), async(false)} {
				want(t, c, x, "false ErrNil")
			}
			for _, program := range append(noPrograms(), 0, 1, last) {
				want(t, c, push(program, 5), "ErrNil")
			}
			want(t, c, pop(), "0:0 ErrNil")
			want(t, c, unwind(), "ErrNil")
			want(t, c, acts(true), "false")
			want(t, c, acts(false), "false")
			wantStand(t, "none", c, "---- false false 0 []")
			if c.Copy() != nil {
				t.Error("Copy of none is one")
			}
			if all := c.All(); all == nil {
				t.Error("All of none is nil")
			}
		}
	}
}

// P20.1 to P20.4: what was refused has not made anything of it.
func TestAZeroOneStaysZero(t *testing.T) {
	c := after(&cancel.Cancel{}, ask(), enable(true), async(true), push(1, 1), push(-1, 1), unwind(), pop())
	if *c != (cancel.Cancel{}) {
		t.Errorf("a zero one became %+v", *c)
	}
	for _, other := range none() {
		wantSame(t, "a zero one", c, other, true)
	}
	wantStand(t, "a zero one", c, "---- false false 0 []")
}
