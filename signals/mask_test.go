package signals_test

import (
	"fmt"
	"math"
	"slices"
	"testing"

	"metronome/api"
	"metronome/signals"
)

// P17.2: SetMask answers the mask ahead of it; the bit 0 is never in one.
func TestSetMask(t *testing.T) {
	s := fresh(t, 2, 1)
	was := uint32(0)
	sets := []uint32{0, of(0), of(1), of(0, 1), of(31), of(15, 16), all, each, of(0), all, 0, of(0, 31), 1 << 15, 1 << 16, all / 3, all / 3 * 2}
	for _, set := range sets {
		want(t, s, setMask(0, set), fmt.Sprint(numbers(was), " OK"))
		was = set &^ 1
		if s.Mask(0) != was || s.Mask(1) != 0 {
			t.Errorf("behind SetMask of %v the masks are %v, %v", numbers(set), numbers(s.Mask(0)), numbers(s.Mask(1)))
		}
	}
	for thread := range 16 {
		s := fresh(t, 16, 1)
		for n := range 32 {
			want(t, s, setMask(thread, of(n)), fmt.Sprint(numbers(of(max(n-1, 0))&^1), " OK"))
		}
		wantStand(t, "one has a mask", s, fmt.Sprintf("used 0; %d: [31] []", thread))
		want(t, s, setMask(thread, 0), "[31] OK")
		wantSame(t, "an empty mask", s, fresh(t, 16, 1), true)
	}
}

// P17.2: each thread has a mask of its own.
func TestEachThreadHasItsMask(t *testing.T) {
	s := fresh(t, 16, 1)
	for thread := range 16 {
		want(t, s, setMask(thread, of(1+thread, 31-thread)), "[] OK")
	}
	for thread := range 16 {
		if s.Mask(thread) != of(1+thread, 31-thread) {
			t.Errorf("thread %d masks %v", thread, numbers(s.Mask(thread)))
		}
	}
}

// P17.2: masked ones are sent, and are pending, and are not open; Peek and Next do not ask the mask.
func TestMaskedOnesArePending(t *testing.T) {
	for _, x := range []struct {
		mask, open uint32
	}{
		{0, of(1, 15, 16, 31)},
		{of(0), of(1, 15, 16, 31)},
		{all, 0},
		{each, 0},
		{of(1), of(15, 16, 31)},
		{of(31), of(1, 15, 16)},
		{of(15, 16), of(1, 31)},
		{of(2, 30), of(1, 15, 16, 31)},
		{all - of(16), of(16)},
	} {
		ahead, behind := fresh(t, 2, 9), fresh(t, 2, 9)
		ahead.SetMask(1, x.mask)
		for _, number := range []int{16, 31, 1, 15, 16} {
			want(t, ahead, send(1, number, 4), "OK")
			want(t, behind, send(1, number, 4), "OK")
		}
		behind.SetMask(1, x.mask)
		wantSame(t, "masked ahead of it, and behind", ahead, behind, true)
		for _, s := range []*signals.Signals{ahead, behind} {
			if s.Pending(1) != of(1, 15, 16, 31) || s.Open(1) != x.open || s.Open(0) != 0 || s.Pending(0) != 0 {
				t.Errorf("%v are pending, and %v open, where %v are masked", numbers(s.Pending(1)), numbers(s.Open(1)), numbers(x.mask))
			}
			for _, answer := range []string{"{1 0} true", "{15 0} true", "{16 4} true", "{16 4} true", "{31 4} true", "{0 0} false"} {
				want(t, s, peek(1, all), answer)
				want(t, s, next(1, all), answer)
			}
			if s.Mask(1) != x.mask&^1 || s.Open(1) != 0 {
				t.Errorf("behind Next %v are masked, and %v open", numbers(s.Mask(1)), numbers(s.Open(1)))
			}
		}
	}
}

// P17.2, P17.3: who takes what is open leaves what is masked.
func TestNextWithinWhatIsOpen(t *testing.T) {
	s := after(fresh(t, 1, 9), send(0, 3, 0), send(0, 16, 1), send(0, 17, 2), send(0, 16, 3), setMask(0, of(3, 17)))
	var taken []string
	for s.Open(0) != 0 {
		x, ok := s.Next(0, s.Open(0))
		taken = append(taken, fmt.Sprint(x, ok))
	}
	if got := fmt.Sprint(taken); got != "[{16 1} true {16 3} true]" {
		t.Errorf("taken are %s", got)
	}
	wantStand(t, "the masked ones", s, "used 1; 0: [3 17] [{3 0} {17 2}]")
	want(t, s, next(0, s.Open(0)), "{0 0} false")
}

// P17.3: Clear of nothing, of one, of many; the mask is empty behind it, and what others have stays.
func TestClear(t *testing.T) {
	others := "; 1: [5] [{4 0} {18 7}]"
	for _, x := range []struct {
		calls  []call
		answer string
	}{
		{nil, "0 OK"},
		{[]call{setMask(0, all)}, "0 OK"},
		{[]call{send(0, 1, 5)}, "1 OK"},
		{[]call{send(0, 15, 5), send(0, 15, 6)}, "1 OK"},
		{[]call{send(0, 16, 5)}, "1 OK"},
		{[]call{send(0, 31, 5), send(0, 31, 5), setMask(0, of(31))}, "2 OK"},
		{[]call{send(0, 31, 5), send(0, 1, 5), send(0, 16, 5), send(0, 31, 5), send(0, 15, 5), send(0, 1, 6), setMask(0, all)}, "5 OK"},
		{[]call{send(0, 18, 7), next(0, all)}, "0 OK"},
		{[]call{send(0, 18, 7), send(0, 18, 8), next(0, all)}, "1 OK"},
	} {
		s := after(fresh(t, 2, 9), send(1, 18, 7), send(1, 4, 0), setMask(1, of(5)))
		empty := s.Copy()
		after(s, x.calls...)
		want(t, s, clearOf(0), x.answer)
		wantStand(t, "cleared", s, "used 1"+others)
		wantSame(t, "cleared", s, empty, true)
		want(t, s, clearOf(0), "0 OK")
		want(t, s, send(0, 18, 1), "OK")
		wantStand(t, "sent behind it", s, "used 2; 0: [] [{18 1}]"+others)
	}
}

// P17.3: all that one thread can have.
func TestClearOfAll(t *testing.T) {
	s := fresh(t, 16, 32)
	for number := 1; number <= 31; number++ {
		want(t, s, send(15, number, 1), "OK")
	}
	for i := range 16 {
		want(t, s, send(15, 31-i, 2), "OK")
	}
	want(t, s, send(15, 16, 3), "ErrFull")
	want(t, s, setMask(15, all), "[] OK")
	want(t, s, clearOf(14), "0 OK")
	want(t, s, clearOf(15), "47 OK")
	wantSame(t, "cleared", s, fresh(t, 16, 32), true)
}

// P17.3: what is queued for all threads together; what is not queued is not among it.
func TestUsed(t *testing.T) {
	s := fresh(t, 16, 32)
	for i := range 32 {
		want(t, s, send(i/2, 16+i%3, 0), "OK")
		want(t, s, send(i/2, 1+i%15, 0), "OK")
		if s.Used() != i+1 {
			t.Errorf("%d are used, want %d", s.Used(), i+1)
		}
	}
	for thread := range 16 {
		want(t, s, next(thread, all-of(16, 17, 18)), fmt.Sprintf("{%d 0} true", min(1+2*thread%15, 1+(2*thread+1)%15)))
		if s.Used() != 32-2*thread {
			t.Errorf("%d are used, want %d", s.Used(), 32-2*thread)
		}
		want(t, s, next(thread, of(16, 17, 18)), fmt.Sprintf("{%d 0} true", min(16+2*thread%3, 16+(2*thread+1)%3)))
		if s.Used() != 31-2*thread {
			t.Errorf("%d are used, want %d", s.Used(), 31-2*thread)
		}
		want(t, s, clearOf(thread), "2 OK")
	}
	wantStand(t, "all is taken", s, "used 0")
}

// some have signals of several kinds for the thread 1, with a mask: All goes over all that is pending.
func some(t *testing.T) *signals.Signals {
	t.Helper()
	return after(fresh(t, 3, 8), send(1, 31, -5), send(1, 16, math.MaxInt64), send(1, 3, 7), send(1, 16, math.MinInt64), send(1, 15, 2), send(1, 17, 0), send(0, 16, 8), send(2, 1, 1), setMask(1, of(3, 16)))
}

// someOfOne is what All goes over for the thread 1 of some.
func someOfOne() []api.Signal {
	return []api.Signal{{Number: 3}, {Number: 15}, {Number: 16, Value: math.MaxInt64}, {Number: 16, Value: math.MinInt64}, {Number: 17}, {Number: 31, Value: -5}}
}

func wantList(t *testing.T, what string, got, list []api.Signal) {
	t.Helper()
	if !slices.Equal(got, list) {
		t.Errorf("%s: %v, want %v", what, got, list)
	}
}

// P17.3: masked ones too, in the order in which Next takes them; and nothing is taken by it.
func TestAllGoesOverWhatNextTakes(t *testing.T) {
	s := some(t)
	wantList(t, "All", list(s, 1), someOfOne())
	wantList(t, "All of another one", list(s, 0), []api.Signal{{Number: 16, Value: 8}})
	wantList(t, "All of another one", list(s, 2), []api.Signal{{Number: 1}})
	wantSame(t, "behind All", s, some(t), true)
	for _, x := range list(s, 1) {
		want(t, s, next(1, all), fmt.Sprint(x, true))
	}
	want(t, s, next(1, all), "{0 0} false")
	wantList(t, "All of nothing", list(s, 1), nil)
}

// P17.3: it may be left at any time, and gone through again, the same one and a new one.
func TestAllMayBeLeftAndGoneThroughAgain(t *testing.T) {
	s := some(t)
	over := s.All(1)
	for most := range len(someOfOne()) + 1 {
		var got []api.Signal
		for x := range over {
			if len(got) == most {
				break
			}
			got = append(got, x)
		}
		wantList(t, "left early", got, someOfOne()[:most])
		wantList(t, "again", slices.Collect(over), someOfOne())
		wantList(t, "a new one", list(s, 1), someOfOne())
	}
	n := 0
	for range over {
		for range over {
			n++
		}
	}
	if n != 36 {
		t.Errorf("one within the other comes to %d, want 36", n)
	}
}

// P17.3: as it is when it begins: one that was had ahead of a change goes over what is pending behind it, each time anew.
func TestAllHadAheadOfAChange(t *testing.T) {
	for _, x := range []struct {
		change call
		behind []api.Signal
	}{
		{next(1, all), someOfOne()[1:]},
		{next(1, of(16)), slices.Delete(someOfOne(), 2, 3)},
		{next(1, of(31)), someOfOne()[:5]},
		{clearOf(1), nil},
		{send(1, 1, 1), slices.Insert(someOfOne(), 0, api.Signal{Number: 1})},
		{send(1, 3, 1), someOfOne()},
		{send(1, 16, 1), slices.Insert(someOfOne(), 4, api.Signal{Number: 16, Value: 1})},
		{send(1, 20, 1), slices.Insert(someOfOne(), 5, api.Signal{Number: 20, Value: 1})},
		{setMask(1, 0), someOfOne()},
		{setMask(1, all), someOfOne()},
		{clearOf(0), someOfOne()},
	} {
		s := some(t)
		over := s.All(1)
		x.change.do(s)
		wantList(t, "behind "+x.change.name, slices.Collect(over), x.behind)
		wantList(t, "again", slices.Collect(over), x.behind)
		wantSame(t, "All changes nothing", s, after(some(t), x.change), true)
	}
}

// P17.3: each going over begins anew, though what is gone over was had once.
func TestAllBeginsAnewEachTime(t *testing.T) {
	s := fresh(t, 1, 2)
	over := s.All(0)
	wantList(t, "nothing yet", slices.Collect(over), nil)
	want(t, s, send(0, 16, 7), "OK")
	wantList(t, "sent", slices.Collect(over), []api.Signal{{Number: 16, Value: 7}})
	want(t, s, next(0, all), "{16 7} true")
	wantList(t, "taken", slices.Collect(over), nil)
	want(t, s, send(0, 5, 3), "OK")
	wantList(t, "sent again", slices.Collect(over), []api.Signal{{Number: 5}})
	for x := range over {
		want(t, s, send(0, 3, 0), "OK")
		want(t, s, next(0, of(5)), fmt.Sprint(x, true))
		wantList(t, "one within the other", slices.Collect(over), []api.Signal{{Number: 3}})
	}
	want(t, s, clearOf(0), "1 OK")
	wantList(t, "cleared", slices.Collect(over), nil)
}

// P17.3: what is taken and sent by the way is not seen by it, but by the next one.
func TestAllWhileItIsChangedByTheWay(t *testing.T) {
	s := some(t)
	var got []api.Signal
	for x := range s.All(1) {
		if len(got) == 0 {
			want(t, s, clearOf(1), "6 OK")
			want(t, s, send(1, 30, 9), "OK")
			want(t, s, send(1, 16, 10), "OK")
		}
		got = append(got, x)
	}
	wantList(t, "changed by the way", got, someOfOne())
	wantList(t, "the next one", list(s, 1), []api.Signal{{Number: 16, Value: 10}, {Number: 30, Value: 9}})
	got = nil
	for x := range s.All(1) {
		want(t, s, next(1, all), fmt.Sprint(x, true))
		got = append(got, x)
	}
	wantList(t, "taken by the way", got, []api.Signal{{Number: 16, Value: 10}, {Number: 30, Value: 9}})
	wantStand(t, "all of it", s, "used 1; 0: [] [{16 8}]; 2: [] [{1 0}]")
}
