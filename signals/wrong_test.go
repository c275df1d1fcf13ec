package signals_test

import (
	"fmt"
	"math"
	"testing"

	"metronome/api"
	"metronome/signals"
)

// none are a nil and a zero one.
func none() []*signals.Signals {
	return []*signals.Signals{nil, {}}
}

// far are numbers that are no threads, no slots and no signals.
func far() []int {
	return []int{-1, -2, -15, -16, -17, -31, -32, 33, 47, 48, 63, 64, 127, 128, 255, 256, 257, 272, 1 << 16, 1 << 31, 1 << 32, 1<<32 + 1, 1<<32 + 16, -1 << 32, 1 << 62, math.MinInt, math.MinInt + 1, math.MinInt + 16, math.MaxInt - 1, math.MaxInt}
}

// noSignals are numbers that are no signals.
func noSignals() []int {
	return append(far(), 0, 32)
}

// noThreads are numbers that are no threads, where there are that many.
func noThreads(threads int) []int {
	list := append(far(), 16, 17, 31, 32)
	for thread := threads; thread < 16; thread++ {
		list = append(list, thread)
	}
	return list
}

// P17.1: threads and slots of 0, below 0 and beyond what may be; one of both, or both.
func TestNewOfWhatMayNotBe(t *testing.T) {
	for _, threads := range append(far(), 0, 17, 18, 31, 32) {
		for _, slots := range append(far(), 0, 1, 2, 16, 17, 31, 32) {
			wantNone(t, threads, slots)
		}
	}
	for _, slots := range append(far(), 0) {
		for threads := range 18 {
			wantNone(t, threads, slots)
		}
	}
}

func wantNone(t *testing.T, threads, slots int) {
	t.Helper()
	if s, err := signals.New(threads, slots); s != nil || err != api.ErrArg {
		t.Errorf("New(%d, %d) is %v, %s", threads, slots, s, errText(err))
	}
}

// scenes are signals of two threads and two slots, of which no two are the same; the last ones have no slot that is free.
func scenes(t *testing.T) []*signals.Signals {
	t.Helper()
	var all []*signals.Signals
	for _, calls := range [][]call{
		{},
		{setMask(0, of(1))},
		{setMask(1, each)},
		{send(0, 1, 0), send(1, 15, 0)},
		{send(0, 16, 7)},
		{send(0, 16, 7), send(0, 3, 1), setMask(0, of(3))},
		{send(1, 31, 7), send(0, 16, 7)},
		{send(0, 16, 7), send(0, 16, 8), setMask(0, of(16))},
		{send(1, 20, -1), send(1, 20, -1), send(0, 15, 1)},
	} {
		all = append(all, after(fresh(t, 2, 2), calls...))
	}
	return all
}

// P17.1: a thread and a signal that may not be, one of both, or both; ahead of that all slots are used.
func TestSendOfWhatMayNotBe(t *testing.T) {
	for _, s := range scenes(t) {
		for _, thread := range noThreads(2) {
			for _, signal := range []int{1, 3, 15, 16, 20, 31, 0, 32, -1, thread} {
				wantRefused(t, s, send(thread, signal, 7), "ErrArg")
			}
		}
		for _, signal := range noSignals() {
			for _, thread := range []int{0, 1} {
				for _, value := range []int64{0, 7, math.MinInt64, math.MaxInt64} {
					wantRefused(t, s, send(thread, signal, value), "ErrArg")
				}
			}
		}
	}
}

// P17.1: no slot is free.
func TestSendWhereAllSlotsAreUsed(t *testing.T) {
	full := 0
	for _, s := range scenes(t) {
		for signal := 1; signal <= 31; signal++ {
			for thread := range 2 {
				for _, value := range []int64{0, 7, math.MinInt64, math.MaxInt64} {
					if signal > 15 && s.Used() == 2 {
						wantRefused(t, s, send(thread, signal, value), "ErrFull")
						full++
					} else {
						want(t, s.Copy(), send(thread, signal, value), "OK")
					}
				}
			}
		}
	}
	if full != 3*16*2*4 {
		t.Errorf("%d were refused", full)
	}
}

// P17.2, P17.3: threads that there are not.
func TestThreadsThatThereAreNot(t *testing.T) {
	for _, s := range scenes(t) {
		for _, thread := range noThreads(2) {
			for _, set := range []uint32{0, of(0), of(1), of(16), each, all} {
				wantRefused(t, s, setMask(thread, set), "[] ErrArg")
				wantRefused(t, s, peek(thread, set), "{0 0} false")
				wantRefused(t, s, next(thread, set), "{0 0} false")
			}
			wantRefused(t, s, clearOf(thread), "0 ErrArg")
			wantNothing(t, s, thread)
		}
	}
}

// wantNothing asks that the looks have nothing of the thread.
func wantNothing(t *testing.T, s *signals.Signals, thread int) {
	t.Helper()
	if s.Mask(thread) != 0 || s.Pending(thread) != 0 || s.Open(thread) != 0 || s.All(thread) == nil || len(list(s, thread)) != 0 {
		t.Errorf("of thread %d are masked %v, pending %v, open %v, and All goes over %v", thread, numbers(s.Mask(thread)), numbers(s.Pending(thread)), numbers(s.Open(thread)), list(s, thread))
	}
}

// P17.2, P17.3: threads from the number on that there are, of each such number.
func TestThreadsFromTheNumberOnThatThereAre(t *testing.T) {
	for threads := 1; threads <= 16; threads++ {
		s := fresh(t, threads, 2)
		for thread := range threads {
			after(s, send(thread, 3, 0), send(thread, 16, 0), setMask(thread, each))
		}
		for thread := threads; thread < 20; thread++ {
			wantRefused(t, s, send(thread, 3, 1), "ErrArg")
			wantRefused(t, s, send(thread, 16, 1), "ErrArg")
			wantRefused(t, s, setMask(thread, 0), "[] ErrArg")
			wantRefused(t, s, next(thread, all), "{0 0} false")
			wantRefused(t, s, clearOf(thread), "0 ErrArg")
			wantNothing(t, s, thread)
		}
		wantRefused(t, s, send(threads-1, 3, 1), "OK")
	}
}

// P17.1 to P17.4: a nil and a zero one are refused ahead of all, whatever they are given, and have nothing.
func TestNilAndZeroOnes(t *testing.T) {
	threads := append(noThreads(0), 0, 1, 2, 15)
	for i, s := range none() {
		for _, thread := range threads {
			for _, signal := range append(noSignals(), 1, 3, 15, 16, 31) {
				want(t, s, send(thread, signal, int64(signal)), "ErrNil")
			}
			for _, set := range []uint32{0, of(0), of(1), of(16), each, all} {
				want(t, s, setMask(thread, set), "[] ErrNil")
				want(t, s, peek(thread, set), "{0 0} false")
				want(t, s, next(thread, set), "{0 0} false")
			}
			want(t, s, clearOf(thread), "0 ErrNil")
			wantNothing(t, s, thread)
		}
		if s.Used() != 0 || s.Copy() != nil {
			t.Errorf("none, %d: %d are used, and a copy is %v", i, s.Used(), s.Copy())
		}
		wantStand(t, "none", s, "used 0")
	}
}

// P17.1, P17.4: what was refused has not made anything of a zero one.
func TestAZeroOneStaysZero(t *testing.T) {
	s := after(&signals.Signals{}, send(0, 1, 1), send(0, 16, 1), setMask(0, all), next(0, all), clearOf(0))
	wantSame(t, "a zero one", s, nil, true)
	for range s.All(0) {
		t.Error("All goes over something")
	}
	want(t, s, send(0, 16, 1), "ErrNil")
}

// P17.4
func TestSameOfNilAndZeroOnes(t *testing.T) {
	for _, s := range none() {
		for _, other := range none() {
			wantSame(t, "none and none", s, other, true)
		}
		for _, other := range append(scenes(t), fresh(t, 1, 1), fresh(t, 16, 32)) {
			wantSame(t, "none and some", s, other, false)
		}
	}
}

// P17.2, P17.3: whoever looks changes nothing.
func TestLookingChangesNothing(t *testing.T) {
	for _, s := range scenes(t) {
		was, text := s.Copy(), stand(s)
		for range 3 {
			for thread := -1; thread < 18; thread++ {
				s.Mask(thread)
				s.Pending(thread)
				s.Open(thread)
				for range s.All(thread) {
				}
				for n := range 32 {
					s.Peek(thread, of(n))
					s.Peek(thread, all<<n)
				}
			}
			s.Used()
			s.Copy()
			signals.Same(s, s)
		}
		wantSame(t, "looked at", s, was, true)
		wantStand(t, "looked at", s, text)
	}
}

// P17.3: what is answered is the caller's.
func TestWhatAllTellsIsNobodyElses(t *testing.T) {
	s := some(t)
	over := s.All(1)
	got := list(s, 1)
	for i := range got {
		got[i] = api.Signal{Number: 9, Value: 9}
	}
	for x := range over {
		x.Value++
	}
	wantList(t, "All", list(s, 1), someOfOne())
	wantSame(t, "behind it", s, some(t), true)
}

// P17.4: no two of the scenes are the same, each is as itself and as a copy.
func TestScenesAreNotTheSame(t *testing.T) {
	for i, s := range scenes(t) {
		for j, other := range scenes(t) {
			wantSame(t, fmt.Sprint(i, " and ", j), s, other, i == j)
		}
		wantSame(t, "itself", s, s, true)
		wantSame(t, "a copy", s, s.Copy().Copy(), true)
	}
}
