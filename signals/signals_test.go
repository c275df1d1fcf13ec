package signals_test

import (
	"fmt"
	"math"
	"slices"
	"testing"

	"metronome/api"
	"metronome/signals"
)

// all is a set of all bits.
const all = uint32(math.MaxUint32)

// each is the set of all signals: all bits but the bit 0.
const each = all - 1

// of is the set of these numbers.
func of(numbers ...int) uint32 {
	set := uint32(0)
	for _, n := range numbers {
		set |= 1 << n
	}
	return set
}

// numbers are the bits of a set, rising.
func numbers(set uint32) []int {
	list := []int{}
	for n := range 32 {
		if set>>n&1 == 1 {
			list = append(list, n)
		}
	}
	return list
}

func errText(err api.Errno) string {
	names := []string{"OK", "ErrNil", "ErrArg", "ErrLong", "ErrBytes", "ErrFull", "ErrNone", "ErrState"}
	if int(err) >= 0 && int(err) < len(names) {
		return names[err]
	}
	return fmt.Sprint("error ", int(err))
}

// call is something that is done to signals, and tells the answer as a text.
type call struct {
	name string
	do   func(s *signals.Signals) string
}

func send(thread, signal int, value int64) call {
	return call{fmt.Sprintf("Send(%d, %d, %d)", thread, signal, value), func(s *signals.Signals) string { return errText(s.Send(thread, signal, value)) }}
}

func setMask(thread int, set uint32) call {
	return call{fmt.Sprintf("SetMask(%d, %v)", thread, numbers(set)), func(s *signals.Signals) string {
		had, err := s.SetMask(thread, set)
		return fmt.Sprint(numbers(had), " ", errText(err))
	}}
}

func peek(thread int, within uint32) call {
	return call{fmt.Sprintf("Peek(%d, %v)", thread, numbers(within)), func(s *signals.Signals) string { return fmt.Sprint(s.Peek(thread, within)) }}
}

func next(thread int, within uint32) call {
	return call{fmt.Sprintf("Next(%d, %v)", thread, numbers(within)), func(s *signals.Signals) string { return fmt.Sprint(s.Next(thread, within)) }}
}

func clearOf(thread int) call {
	return call{fmt.Sprintf("Clear(%d)", thread), func(s *signals.Signals) string {
		n, err := s.Clear(thread)
		return fmt.Sprint(n, " ", errText(err))
	}}
}

// list is what All goes over.
func list(s *signals.Signals, thread int) []api.Signal {
	return slices.AppendSeq([]api.Signal{}, s.All(thread))
}

// stand is how signals stand, as a text: how many are queued, and of each thread that has any what it masks, and what
// All goes over.
func stand(s *signals.Signals) string {
	text := fmt.Sprint("used ", s.Used())
	for thread := range 17 {
		if mask, pending := s.Mask(thread), list(s, thread); mask != 0 || len(pending) > 0 {
			text += fmt.Sprintf("; %d: %v %v", thread, numbers(mask), pending)
		}
	}
	return text
}

// want does a call, and asks for that answer.
func want(t *testing.T, s *signals.Signals, c call, answer string) {
	t.Helper()
	if got := c.do(s); got != answer {
		t.Errorf("%s is %s, want %s", c.name, got, answer)
	}
}

// wantStand asks for how they stand, and that all looks say the same of it, of threads that there are and that there are not.
func wantStand(t *testing.T, what string, s *signals.Signals, text string) {
	t.Helper()
	if got := stand(s); got != text {
		t.Errorf("%s: they stand as\n%s, want\n%s", what, got, text)
	}
	queued := 0
	for thread := -1; thread <= 17; thread++ {
		pending, set, first := list(s, thread), uint32(0), "{0 0} false"
		for i, x := range pending {
			set |= 1 << x.Number
			if i == 0 {
				first = fmt.Sprint(x, true)
			}
			if x.Number > 15 {
				queued++
			}
		}
		if s.Pending(thread) != set || s.Open(thread) != set&^s.Mask(thread) {
			t.Errorf("%s: of thread %d are pending %v, and open %v, where All goes over %v, and it masks %v",
				what, thread, numbers(s.Pending(thread)), numbers(s.Open(thread)), pending, numbers(s.Mask(thread)))
		}
		want(t, s, peek(thread, all), first)
	}
	if s.Used() != queued {
		t.Errorf("%s: %d are used, and %d are queued", what, s.Used(), queued)
	}
}

func wantSame(t *testing.T, what string, a, b *signals.Signals, is bool) {
	t.Helper()
	if signals.Same(a, b) != is || signals.Same(b, a) != is {
		t.Errorf("%s: Same of\n%s and\n%s is %v, %v, want %v", what, stand(a), stand(b), signals.Same(a, b), signals.Same(b, a), is)
	}
}

// wantRefused does a call, asks for that answer, and that nothing has changed.
func wantRefused(t *testing.T, s *signals.Signals, c call, answer string) {
	t.Helper()
	was, text := s.Copy(), stand(s)
	want(t, s, c, answer)
	wantStand(t, c.name, s, text)
	wantSame(t, c.name, s, was, true)
}

// fresh is new ones.
func fresh(t *testing.T, threads, slots int) *signals.Signals {
	t.Helper()
	s, err := signals.New(threads, slots)
	if s == nil || err != api.OK {
		t.Fatalf("New(%d, %d) is %v, %s", threads, slots, s, errText(err))
	}
	return s
}

// after does calls to some, whatever they answer.
func after(s *signals.Signals, calls ...call) *signals.Signals {
	for _, c := range calls {
		c.do(s)
	}
	return s
}

// step is a call, its answer, and how the signals stand behind it.
type step struct {
	call   call
	answer string
	stands string
}

func wantSteps(t *testing.T, s *signals.Signals, steps ...step) {
	t.Helper()
	for i, x := range steps {
		want(t, s, x.call, x.answer)
		wantStand(t, fmt.Sprint("step ", i, ", ", x.call.name), s, x.stands)
	}
}

// P17.1 to P17.3
func TestTheChaptersExamples(t *testing.T) {
	s := fresh(t, 2, 2)
	wantSteps(t, s,
		step{send(0, 16, 7), "OK", "used 1; 0: [] [{16 7}]"},
		step{send(1, 16, 8), "OK", "used 2; 0: [] [{16 7}]; 1: [] [{16 8}]"},
		step{send(0, 17, 9), "ErrFull", "used 2; 0: [] [{16 7}]; 1: [] [{16 8}]"},
		step{send(0, 3, 5), "OK", "used 2; 0: [] [{3 0} {16 7}]; 1: [] [{16 8}]"},
		step{send(0, 0, 1), "ErrArg", "used 2; 0: [] [{3 0} {16 7}]; 1: [] [{16 8}]"},
		step{send(2, 3, 1), "ErrArg", "used 2; 0: [] [{3 0} {16 7}]; 1: [] [{16 8}]"},
	)
	if s.Pending(0) != of(3, 16) {
		t.Errorf("%v are pending", numbers(s.Pending(0)))
	}
	want(t, s, setMask(0, of(3, 0)), "[] OK")
	if s.Open(0) != of(16) {
		t.Errorf("%v are open", numbers(s.Open(0)))
	}
	want(t, s, peek(0, s.Open(0)), "{16 7} true")
	wantSteps(t, s,
		step{next(0, all), "{3 0} true", "used 2; 0: [3] [{16 7}]; 1: [] [{16 8}]"},
		step{next(0, all), "{16 7} true", "used 1; 0: [3] []; 1: [] [{16 8}]"},
		step{next(0, all), "{0 0} false", "used 1; 0: [3] []; 1: [] [{16 8}]"},
		step{send(0, 31, -1), "OK", "used 2; 0: [3] [{31 -1}]; 1: [] [{16 8}]"},
		step{send(0, 16, 1), "ErrFull", "used 2; 0: [3] [{31 -1}]; 1: [] [{16 8}]"},
		step{clearOf(0), "1 OK", "used 1; 1: [] [{16 8}]"},
	)
	if s.Mask(0) != 0 {
		t.Errorf("%v are masked", numbers(s.Mask(0)))
	}
}

// P17.1: as many threads and slots as there may be, and each number between: nothing is pending, all masks are empty.
func TestNewHasNothing(t *testing.T) {
	for threads := 1; threads <= 16; threads++ {
		for slots := 1; slots <= 32; slots++ {
			s := fresh(t, threads, slots)
			wantStand(t, fmt.Sprintf("New(%d, %d)", threads, slots), s, "used 0")
			for thread := range threads {
				want(t, s, next(thread, all), "{0 0} false")
				want(t, s, clearOf(thread), "0 OK")
				want(t, s, setMask(thread, 0), "[] OK")
			}
		}
	}
}

// P17.1: the threads are those from 0 on, as many as were said.
func TestThreadsAreAsManyAsWereSaid(t *testing.T) {
	for threads := 1; threads <= 16; threads++ {
		s := fresh(t, threads, 32)
		text := ""
		for thread := range threads {
			want(t, s, send(thread, 16+thread%16, int64(thread)), "OK")
			want(t, s, send(thread, 1+thread%15, 5), "OK")
			want(t, s, setMask(thread, of(31-thread)), "[] OK")
			text += fmt.Sprintf("; %d: [%d] [{%d 0} {%d %d}]", thread, 31-thread, 1+thread%15, 16+thread%16, thread)
		}
		for _, thread := range []int{-1, threads, threads + 1, 16} {
			wantRefused(t, s, send(thread, 1, 1), "ErrArg")
			wantRefused(t, s, send(thread, 16, 1), "ErrArg")
			wantRefused(t, s, setMask(thread, of(1)), "[] ErrArg")
			wantRefused(t, s, clearOf(thread), "0 ErrArg")
		}
		wantStand(t, "each thread has its own", s, fmt.Sprint("used ", threads, text))
	}
}

// P17.1, P17.5: as many are queued as there are slots, whatever their numbers and threads; once more is refused.
func TestSlotsAreAsManyAsWereSaid(t *testing.T) {
	for slots := 1; slots <= 32; slots++ {
		one, several := fresh(t, 1, slots), fresh(t, 16, slots)
		for i := range slots {
			want(t, one, send(0, 20, int64(i)), "OK")
			want(t, several, send(i%16, 16+i*5%16, int64(i)), "OK")
			if one.Used() != i+1 || several.Used() != i+1 {
				t.Errorf("%d and %d are used, want %d", one.Used(), several.Used(), i+1)
			}
		}
		for number := 16; number <= 31; number++ {
			wantRefused(t, one, send(0, number, 7), "ErrFull")
			for thread := range 16 {
				want(t, several, send(thread, number, 7), "ErrFull")
			}
		}
		if one.Used() != slots || several.Used() != slots {
			t.Errorf("%d and %d are used, want %d", one.Used(), several.Used(), slots)
		}
		for i := range slots {
			want(t, one, next(0, all), fmt.Sprintf("{20 %d} true", i))
			want(t, one, send(0, 20, int64(100+i)), "OK")
			wantRefused(t, one, send(0, 20, 7), "ErrFull")
		}
		want(t, one, next(0, all), "{20 100} true")
	}
}

// P17.1, P17.3: each signal, with values of all kinds; up to 15 the value is dropped.
func TestEachSignalWithEachValue(t *testing.T) {
	for number := 1; number <= 31; number++ {
		for _, thread := range []int{0, 1, 8, 15} {
			for _, value := range []int64{0, 1, -1, 77, math.MinInt64, math.MinInt64 + 1, math.MaxInt64 - 1, math.MaxInt64} {
				taken, used := fmt.Sprintf("{%d %d}", number, value), 1
				if number <= 15 {
					taken, used = fmt.Sprintf("{%d 0}", number), 0
				}
				s := fresh(t, 16, 1)
				wantSteps(t, s,
					step{send(thread, number, value), "OK", fmt.Sprintf("used %d; %d: [] [%s]", used, thread, taken)},
					step{peek(thread, of(number)), taken + " true", fmt.Sprintf("used %d; %d: [] [%s]", used, thread, taken)},
					step{peek(thread, all-of(number)), "{0 0} false", fmt.Sprintf("used %d; %d: [] [%s]", used, thread, taken)},
					step{next(thread, of(number)), taken + " true", "used 0"},
					step{next(thread, all), "{0 0} false", "used 0"},
				)
				wantSame(t, "taken", s, fresh(t, 16, 1), true)
			}
		}
	}
}

// P17.1, P17.3: up to 15 a signal that is pending, and is sent again, is pending once, without a value.
func TestAPlainSignalIsSentAgain(t *testing.T) {
	for number := 1; number <= 15; number++ {
		once, twice := fresh(t, 2, 1), fresh(t, 2, 1)
		want(t, once, send(1, number, 5), "OK")
		for _, value := range []int64{5, 6, 0, math.MinInt64, math.MaxInt64} {
			want(t, twice, send(1, number, value), "OK")
			wantStand(t, "sent again", twice, fmt.Sprintf("used 0; 1: [] [{%d 0}]", number))
			wantSame(t, "once and again", once, twice, true)
		}
		wantSteps(t, twice,
			step{next(1, all), fmt.Sprintf("{%d 0} true", number), "used 0"},
			step{next(1, all), "{0 0} false", "used 0"},
			step{send(1, number, 9), "OK", fmt.Sprintf("used 0; 1: [] [{%d 0}]", number)},
			step{clearOf(1), "1 OK", "used 0"},
		)
	}
}

// P17.1, P17.3, P17.5: from 16 on each that was sent is there, and those of one number come as they were sent.
func TestAQueuedSignalIsSentSeveralTimes(t *testing.T) {
	for number := 16; number <= 31; number++ {
		s := fresh(t, 2, 4)
		one := func(value int) string { return fmt.Sprintf("{%d %d}", number, value) }
		wantSteps(t, s,
			step{send(0, number, 9), "OK", "used 1; 0: [] [" + one(9) + "]"},
			step{send(0, number, 3), "OK", "used 2; 0: [] [" + one(9) + " " + one(3) + "]"},
			step{send(1, number, 5), "OK", "used 3; 0: [] [" + one(9) + " " + one(3) + "]; 1: [] [" + one(5) + "]"},
			step{send(0, number, 9), "OK", "used 4; 0: [] [" + one(9) + " " + one(3) + " " + one(9) + "]; 1: [] [" + one(5) + "]"},
			step{send(0, number, 1), "ErrFull", "used 4; 0: [] [" + one(9) + " " + one(3) + " " + one(9) + "]; 1: [] [" + one(5) + "]"},
			step{send(1, number, 1), "ErrFull", "used 4; 0: [] [" + one(9) + " " + one(3) + " " + one(9) + "]; 1: [] [" + one(5) + "]"},
			step{next(0, all), one(9) + " true", "used 3; 0: [] [" + one(3) + " " + one(9) + "]; 1: [] [" + one(5) + "]"},
			step{send(0, number, 4), "OK", "used 4; 0: [] [" + one(3) + " " + one(9) + " " + one(4) + "]; 1: [] [" + one(5) + "]"},
			step{next(0, all), one(3) + " true", "used 3; 0: [] [" + one(9) + " " + one(4) + "]; 1: [] [" + one(5) + "]"},
			step{next(1, all), one(5) + " true", "used 2; 0: [] [" + one(9) + " " + one(4) + "]"},
			step{next(1, all), "{0 0} false", "used 2; 0: [] [" + one(9) + " " + one(4) + "]"},
			step{next(0, all), one(9) + " true", "used 1; 0: [] [" + one(4) + "]"},
			step{next(0, all), one(4) + " true", "used 0"},
			step{next(0, all), "{0 0} false", "used 0"},
		)
	}
}

// P17.1, P17.3: a slot is free again behind Next and behind Clear, for any thread and number; not behind Peek.
func TestASlotIsFreeAgain(t *testing.T) {
	s := fresh(t, 3, 3)
	wantSteps(t, s,
		step{send(0, 16, 1), "OK", "used 1; 0: [] [{16 1}]"},
		step{send(1, 31, 2), "OK", "used 2; 0: [] [{16 1}]; 1: [] [{31 2}]"},
		step{send(1, 20, 3), "OK", "used 3; 0: [] [{16 1}]; 1: [] [{20 3} {31 2}]"},
		step{peek(1, all), "{20 3} true", "used 3; 0: [] [{16 1}]; 1: [] [{20 3} {31 2}]"},
		step{send(2, 25, 4), "ErrFull", "used 3; 0: [] [{16 1}]; 1: [] [{20 3} {31 2}]"},
		step{next(0, all), "{16 1} true", "used 2; 1: [] [{20 3} {31 2}]"},
		step{send(2, 25, 4), "OK", "used 3; 1: [] [{20 3} {31 2}]; 2: [] [{25 4}]"},
		step{send(2, 25, 5), "ErrFull", "used 3; 1: [] [{20 3} {31 2}]; 2: [] [{25 4}]"},
		step{clearOf(1), "2 OK", "used 1; 2: [] [{25 4}]"},
		step{send(2, 25, 5), "OK", "used 2; 2: [] [{25 4} {25 5}]"},
		step{send(0, 30, 6), "OK", "used 3; 0: [] [{30 6}]; 2: [] [{25 4} {25 5}]"},
		step{send(1, 16, 7), "ErrFull", "used 3; 0: [] [{30 6}]; 2: [] [{25 4} {25 5}]"},
		step{clearOf(1), "0 OK", "used 3; 0: [] [{30 6}]; 2: [] [{25 4} {25 5}]"},
		step{send(1, 16, 7), "ErrFull", "used 3; 0: [] [{30 6}]; 2: [] [{25 4} {25 5}]"},
	)
}

// P17.1: up to 15 signals need no slot: they are sent, and taken, while all slots are used.
func TestPlainSignalsWhileAllSlotsAreUsed(t *testing.T) {
	s := fresh(t, 2, 1)
	want(t, s, send(0, 16, 5), "OK")
	text := ""
	for number := 1; number <= 15; number++ {
		want(t, s, send(0, number, 9), "OK")
		want(t, s, send(1, number, 9), "OK")
		text += fmt.Sprintf("{%d 0} ", number)
		wantStand(t, "plain ones", s, "used 1; 0: [] ["+text+"{16 5}]; 1: [] ["+text[:len(text)-1]+"]")
		wantRefused(t, s, send(1, 16, 5), "ErrFull")
	}
	for number := 1; number <= 15; number++ {
		want(t, s, next(1, all), fmt.Sprintf("{%d 0} true", number))
		wantRefused(t, s, send(1, 16, 5), "ErrFull")
	}
	want(t, s, clearOf(0), "16 OK")
	wantStand(t, "cleared", s, "used 0")
}

// P17.3: Next takes the lowest one first, in whatever order they came; of one number the one that came first.
func TestNextTakesTheLowestOne(t *testing.T) {
	for start := range 31 {
		for _, stride := range []int{1, 2, 3, 5, 12, 30} {
			s := fresh(t, 1, 32)
			for i := range 62 {
				number := 1 + (start+i*stride)%31
				want(t, s, send(0, number, int64(i)), "OK")
			}
			for number := 1; number <= 31; number++ {
				// Where it came: in the first and in the second round.
				var came []int
				for i := range 62 {
					if (start+i*stride)%31 == number-1 {
						came = append(came, i)
					}
				}
				if number <= 15 {
					came = []int{0}
				}
				for _, value := range came {
					want(t, s, peek(0, all), fmt.Sprintf("{%d %d} true", number, value))
					want(t, s, next(0, all), fmt.Sprintf("{%d %d} true", number, value))
				}
			}
			want(t, s, next(0, all), "{0 0} false")
		}
	}
}

// P17.3: within a set that leaves out the lowest one, and others.
func TestPeekAndNextWithinASet(t *testing.T) {
	start := func() *signals.Signals {
		return after(fresh(t, 2, 9), send(0, 16, 1), send(0, 31, 2), send(0, 15, 3), send(0, 16, 4), send(0, 1, 5), send(0, 20, 6), send(1, 2, 7), send(1, 17, 8))
	}
	for _, x := range []struct {
		within uint32
		answer string
	}{
		{all, "{1 0} true"},
		{each, "{1 0} true"},
		{of(1), "{1 0} true"},
		{all - of(1), "{15 0} true"},
		{all - of(1, 15), "{16 1} true"},
		{all - of(1, 15, 16), "{20 6} true"},
		{of(0, 31), "{31 2} true"},
		{of(31), "{31 2} true"},
		{of(31, 20), "{20 6} true"},
		{of(16, 31, 2, 17), "{16 1} true"},
		{0, "{0 0} false"},
		{of(0), "{0 0} false"},
		{of(2, 17), "{0 0} false"},
		{all - of(1, 15, 16, 20, 31), "{0 0} false"},
	} {
		s := start()
		wantRefused(t, s, peek(0, x.within), x.answer)
		if x.answer == "{0 0} false" {
			wantRefused(t, s, next(0, x.within), x.answer)
			continue
		}
		want(t, s, next(0, x.within), x.answer)
		if signals.Same(s, start()) {
			t.Errorf("Next within %v has taken nothing", numbers(x.within))
		}
	}
	wantSteps(t, start(),
		step{next(0, of(16, 20)), "{16 1} true", "used 4; 0: [] [{1 0} {15 0} {16 4} {20 6} {31 2}]; 1: [] [{2 0} {17 8}]"},
		step{next(0, of(16, 20)), "{16 4} true", "used 3; 0: [] [{1 0} {15 0} {20 6} {31 2}]; 1: [] [{2 0} {17 8}]"},
		step{next(0, of(16, 20)), "{20 6} true", "used 2; 0: [] [{1 0} {15 0} {31 2}]; 1: [] [{2 0} {17 8}]"},
		step{next(0, of(16, 20)), "{0 0} false", "used 2; 0: [] [{1 0} {15 0} {31 2}]; 1: [] [{2 0} {17 8}]"},
		step{next(0, of(15, 2)), "{15 0} true", "used 2; 0: [] [{1 0} {31 2}]; 1: [] [{2 0} {17 8}]"},
		step{next(0, all-of(1)), "{31 2} true", "used 1; 0: [] [{1 0}]; 1: [] [{2 0} {17 8}]"},
		step{next(0, of(0, 1)), "{1 0} true", "used 1; 1: [] [{2 0} {17 8}]"},
	)
}

// P17.3: each signal is met by the set of it alone, and by no other one.
func TestEachSignalWithinEachSet(t *testing.T) {
	s := fresh(t, 1, 16)
	for number := 1; number <= 31; number++ {
		want(t, s, send(0, number, int64(-number)), "OK")
	}
	for number := 1; number <= 31; number++ {
		value := -number
		if number <= 15 {
			value = 0
		}
		answer := fmt.Sprintf("{%d %d} true", number, value)
		want(t, s, peek(0, of(number)), answer)
		want(t, s, peek(0, of(number, 0)), answer)
		want(t, s, peek(0, all<<number), answer)
		c := s.Copy()
		want(t, c, next(0, of(number)), answer)
		want(t, c, next(0, of(number)), "{0 0} false")
		if c.Pending(0) != each-of(number) {
			t.Errorf("behind Next of %d are pending %v", number, numbers(c.Pending(0)))
		}
	}
}
