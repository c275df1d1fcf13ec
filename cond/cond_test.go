package cond_test

import (
	"fmt"
	"math"
	"testing"

	"metronome/api"
	"metronome/cond"
)

func errText(err api.Errno) string {
	names := []string{"OK", "ErrNil", "ErrArg", "ErrLong", "ErrBytes", "ErrFull", "ErrNone", "ErrState"}
	if int(err) >= 0 && int(err) < len(names) {
		return names[err]
	}
	return fmt.Sprint("error ", int(err))
}

// listText is a list as a text; nil and empty ones are one.
func listText(list []int) string {
	return fmt.Sprint(append([]int{}, list...))
}

// call is something that is done to a condition, and tells the answer as a text.
type call struct {
	name string
	do   func(c *cond.Cond) string
}

func wait(thread, prio, mutex int) call {
	return call{fmt.Sprintf("Wait(%d, %d, %d)", thread, prio, mutex), func(c *cond.Cond) string { return errText(c.Wait(thread, prio, mutex)) }}
}

func leave(thread int) call {
	return call{fmt.Sprintf("Leave(%d)", thread), func(c *cond.Cond) string { return errText(c.Leave(thread)) }}
}

func change(thread, prio int) call {
	return call{fmt.Sprintf("Change(%d, %d)", thread, prio), func(c *cond.Cond) string { return errText(c.Change(thread, prio)) }}
}

func signal() call {
	return call{"Signal()", func(c *cond.Cond) string { return fmt.Sprint(c.Signal()) }}
}

func broadcast() call {
	return call{"Broadcast()", func(c *cond.Cond) string { return listText(c.Broadcast()) }}
}

// stand is how one stands, as a text: the mutex, or free, and who waits.
func stand(c *cond.Cond) string {
	mutex, ok := c.Mutex()
	if !ok {
		// What is told beside false must be 0: else it is to be seen here.
		if mutex != 0 {
			return fmt.Sprint("false beside ", mutex)
		}
		return "free " + listText(c.List())
	}
	return fmt.Sprint(mutex, " ", listText(c.List()))
}

// want does a call, and asks for that answer.
func want(t *testing.T, c *cond.Cond, x call, answer string) {
	t.Helper()
	if got := x.do(c); got != answer {
		t.Errorf("%s is %s, want %s", x.name, got, answer)
	}
}

// wantStand asks for how it stands, and that all looks say the same of it.
func wantStand(t *testing.T, what string, c *cond.Cond, text string) {
	t.Helper()
	list := c.List()
	if got := stand(c); got != text || c.Len() != len(list) {
		t.Errorf("%s: it stands as %s, and %d wait, want %s", what, got, c.Len(), text)
	}
	waits := map[int]bool{}
	for _, thread := range list {
		waits[thread] = true
	}
	for thread := range 16 {
		if c.Has(thread) != waits[thread] {
			t.Errorf("%s: Has(%d) is %v, and %v wait", what, thread, c.Has(thread), list)
		}
	}
}

func wantSame(t *testing.T, what string, a, b *cond.Cond, is bool) {
	t.Helper()
	if cond.Same(a, b) != is || cond.Same(b, a) != is {
		t.Errorf("%s: Same of %s and %s is %v, %v, want %v", what, stand(a), stand(b), cond.Same(a, b), cond.Same(b, a), is)
	}
}

// wantRefused does a call, asks for that answer, and that nothing has changed.
func wantRefused(t *testing.T, c *cond.Cond, x call, answer string) {
	t.Helper()
	was, text := c.Copy(), stand(c)
	want(t, c, x, answer)
	wantStand(t, x.name, c, text)
	wantSame(t, x.name, c, was, true)
}

// made is a new condition to which calls were done, whatever they answered.
func made(calls ...call) *cond.Cond {
	return after(cond.New(), calls...)
}

// after does calls to one, whatever they answer.
func after(c *cond.Cond, calls ...call) *cond.Cond {
	for _, x := range calls {
		x.do(c)
	}
	return c
}

// step is a call, its answer, and how the condition stands behind it.
type step struct {
	call   call
	answer string
	stands string
}

func wantSteps(t *testing.T, c *cond.Cond, steps ...step) {
	t.Helper()
	for i, s := range steps {
		want(t, c, s.call, s.answer)
		wantStand(t, fmt.Sprint("step ", i, ", ", s.call.name), c, s.stands)
	}
}

// wantWokenAsListed asks that Signal wakes those who wait in the order of List, and then nobody.
func wantWokenAsListed(t *testing.T, c *cond.Cond) {
	t.Helper()
	for _, thread := range c.List() {
		want(t, c, signal(), fmt.Sprint(thread, " true"))
	}
	want(t, c, signal(), "0 false")
	wantStand(t, "all were woken", c, "free []")
}

// P16.1, P16.2, P16.3
func TestTheChaptersCondition(t *testing.T) {
	wantSteps(t, cond.New(),
		step{wait(1, 5, 3), "OK", "3 [1]"},
		step{wait(2, 9, 3), "OK", "3 [2 1]"},
		step{wait(3, 1, 4), "ErrState", "3 [2 1]"},
		step{wait(1, 5, 3), "ErrState", "3 [2 1]"},
		step{wait(4, 1, -1), "ErrArg", "3 [2 1]"},
		step{signal(), "2 true", "3 [1]"},
		step{wait(3, 7, 3), "OK", "3 [3 1]"},
		step{broadcast(), "[3 1]", "free []"},
		step{signal(), "0 false", "free []"},
	)
}

// P16.1, P16.2, P16.3: nobody waits.
func TestANewCondition(t *testing.T) {
	wantSteps(t, cond.New(),
		step{signal(), "0 false", "free []"},
		step{broadcast(), "[]", "free []"},
		step{leave(0), "ErrNone", "free []"},
		step{change(0, 1), "ErrNone", "free []"},
	)
	a, b := cond.New(), cond.New()
	wantSame(t, "two new ones", a, b, true)
	after(a, wait(1, 5, 3))
	wantStand(t, "the other one", b, "free []")
	wantSame(t, "one for which somebody waits", a, b, false)
}

// P16.1, P16.2: each thread, each priority, and mutexes up to the greatest number.
func TestOneWaitsAndIsWoken(t *testing.T) {
	for thread := range 16 {
		for prio := 1; prio <= 31; prio++ {
			for _, mutex := range []int{0, 1, 7, 8, 15, 31, 1 << 32, math.MaxInt - 1, math.MaxInt} {
				stands := fmt.Sprintf("%d [%d]", mutex, thread)
				wantSteps(t, cond.New(),
					step{wait(thread, prio, mutex), "OK", stands},
					step{signal(), fmt.Sprint(thread, " true"), "free []"},
					step{wait(thread, prio, mutex), "OK", stands},
					step{broadcast(), fmt.Sprintf("[%d]", thread), "free []"},
					step{wait(thread, prio, mutex), "OK", stands},
					step{leave(thread), "OK", "free []"},
				)
			}
		}
	}
}

// P16.1, P16.4: the first one names the mutex, and the others must name the same.
func TestTheFirstOneNamesTheMutex(t *testing.T) {
	for _, mutex := range []int{0, 1, 5, math.MaxInt} {
		c := made(wait(9, 5, mutex))
		for _, other := range []int{0, 1, 2, 4, 5, 6, math.MaxInt - 1, math.MaxInt} {
			if other != mutex {
				wantRefused(t, c, wait(1, 5, other), "ErrState")
				wantRefused(t, c, wait(1, 31, other), "ErrState")
			}
		}
		wantSteps(t, c,
			step{wait(1, 31, mutex), "OK", fmt.Sprint(mutex, " [1 9]")},
			step{wait(2, 1, mutex), "OK", fmt.Sprint(mutex, " [1 9 2]")},
		)
	}
}

// P16.1: as many threads as there may be, and each that comes again is refused.
func TestAllThreadsWait(t *testing.T) {
	c := cond.New()
	for thread := range 16 {
		want(t, c, wait(thread, 5, 0), "OK")
	}
	wantStand(t, "all wait", c, "0 [0 1 2 3 4 5 6 7 8 9 10 11 12 13 14 15]")
	for thread := range 16 {
		for _, mutex := range []int{0, 1, math.MaxInt} {
			wantRefused(t, c, wait(thread, 5, mutex), "ErrState")
			wantRefused(t, c, wait(thread, 31, mutex), "ErrState")
		}
	}
	wantSteps(t, c.Copy(), step{broadcast(), "[0 1 2 3 4 5 6 7 8 9 10 11 12 13 14 15]", "free []"})
	wantWokenAsListed(t, c)
}

// P16.2: of one priority, who has waited longest is woken first.
func TestSignalWakesOfOnePriorityWhoCameFirst(t *testing.T) {
	c := cond.New()
	for i := range 16 {
		want(t, c, wait((i*7+3)%16, 5, 2), "OK")
	}
	wantStand(t, "all wait", c, "2 [3 10 1 8 15 6 13 4 11 2 9 0 7 14 5 12]")
	wantSteps(t, c.Copy(), step{broadcast(), "[3 10 1 8 15 6 13 4 11 2 9 0 7 14 5 12]", "free []"})
	for i := range 16 {
		want(t, c, signal(), fmt.Sprint((i*7+3)%16, " true"))
	}
	wantSteps(t, c, step{signal(), "0 false", "free []"})
}

// P16.2: of several priorities, the greatest ones are woken first, whoever came first.
func TestSignalWakesTheGreatestPriorityFirst(t *testing.T) {
	rising, falling := cond.New(), cond.New()
	for thread := range 16 {
		want(t, rising, wait(thread, 2*thread+1, 0), "OK")
		want(t, falling, wait(thread, 31-2*thread, 0), "OK")
	}
	for i := range 16 {
		want(t, rising, signal(), fmt.Sprint(15-i, " true"))
		want(t, falling, signal(), fmt.Sprint(i, " true"))
	}
	wantSteps(t, made(wait(4, 1, 6), wait(9, 31, 6), wait(0, 1, 6), wait(15, 31, 6), wait(2, 16, 6)),
		step{signal(), "9 true", "6 [15 2 4 0]"},
		step{signal(), "15 true", "6 [2 4 0]"},
		step{signal(), "2 true", "6 [4 0]"},
		step{wait(9, 1, 6), "OK", "6 [4 0 9]"},
		step{signal(), "4 true", "6 [0 9]"},
		step{signal(), "0 true", "6 [9]"},
		step{signal(), "9 true", "free []"},
		step{signal(), "0 false", "free []"},
		step{signal(), "0 false", "free []"},
	)
}

// P16.2: what nobody waited for is not kept for the next one.
func TestWhatWakesNobodyIsNotKept(t *testing.T) {
	wantSteps(t, cond.New(),
		step{signal(), "0 false", "free []"},
		step{broadcast(), "[]", "free []"},
		step{wait(0, 1, 0), "OK", "0 [0]"},
		step{wait(1, 1, 0), "OK", "0 [0 1]"},
		step{signal(), "0 true", "0 [1]"},
		step{broadcast(), "[1]", "free []"},
		step{broadcast(), "[]", "free []"},
		step{wait(1, 1, 0), "OK", "0 [1]"},
	)
}

// P16.2: the order is that of List, by priorities and by who came first.
func TestBroadcastWakesAllInOrder(t *testing.T) {
	wantSteps(t, made(wait(3, 5, 8), wait(1, 5, 8), wait(2, 9, 8), wait(0, 4, 8), wait(4, 9, 8), wait(5, 31, 8), wait(6, 1, 8)),
		step{broadcast(), "[5 2 4 3 1 0 6]", "free []"},
		step{broadcast(), "[]", "free []"},
		step{wait(6, 1, 8), "OK", "8 [6]"},
		step{wait(3, 1, 8), "OK", "8 [6 3]"},
		step{broadcast(), "[6 3]", "free []"},
	)
}

// P16.4: whoever leaves nobody behind, any mutex may be named then.
func TestAnotherMutexBehindTheLastOne(t *testing.T) {
	for _, gone := range []call{signal(), broadcast(), leave(1)} {
		for _, mutex := range []int{0, 3, 4, math.MaxInt} {
			c := made(wait(1, 5, 3), gone)
			wantStand(t, gone.name, c, "free []")
			wantSteps(t, c,
				step{wait(2, 5, mutex), "OK", fmt.Sprint(mutex, " [2]")},
				step{wait(1, 5, mutex), "OK", fmt.Sprint(mutex, " [2 1]")},
			)
			wantRefused(t, c, wait(3, 5, mutex/2+1), "ErrState")
		}
	}
	c := cond.New()
	for i := range 50 {
		mutex := i * 13 % 7
		gone := []call{signal(), broadcast(), leave(i % 16)}[i%3]
		want(t, c, wait(i%16, 1+i%31, mutex), "OK")
		wantStand(t, "round", c, fmt.Sprintf("%d [%d]", mutex, i%16))
		gone.do(c)
		wantStand(t, gone.name, c, "free []")
	}
}

// P16.4: as long as one waits the mutex stays, also behind the one that named it.
func TestNoOtherMutexWhileOneWaits(t *testing.T) {
	for _, gone := range []call{signal(), leave(1), leave(2), leave(3), change(1, 31), change(3, 1)} {
		c := made(wait(1, 9, 3), wait(2, 5, 3), wait(3, 7, 3), gone)
		for _, mutex := range []int{0, 2, 4, math.MaxInt} {
			wantRefused(t, c, wait(4, 5, mutex), "ErrState")
			wantRefused(t, c, wait(1, 5, mutex), "ErrState")
		}
		want(t, c, wait(4, 5, 3), "OK")
	}
	wantSteps(t, made(wait(1, 9, 3), wait(2, 5, 3), wait(3, 7, 3)),
		step{signal(), "1 true", "3 [3 2]"},
		step{wait(1, 9, 4), "ErrState", "3 [3 2]"},
		step{leave(3), "OK", "3 [2]"},
		step{wait(3, 9, 0), "ErrState", "3 [2]"},
		step{leave(2), "OK", "free []"},
		step{wait(3, 9, 0), "OK", "0 [3]"},
		step{wait(1, 9, 3), "ErrState", "0 [3]"},
	)
}

// P16.1: each one of many leaves, the first, one between, and the last.
func TestLeaveOfEachOne(t *testing.T) {
	for gone := range 15 {
		c := cond.New()
		var others []int
		for thread := range 15 {
			want(t, c, wait(thread, 1+(14-thread)/4, 6), "OK")
			if thread != gone {
				others = append(others, thread)
			}
		}
		wantSteps(t, c, step{leave(gone), "OK", fmt.Sprint("6 ", others)})
		for _, thread := range []int{gone, 15} {
			wantRefused(t, c, leave(thread), "ErrNone")
			wantRefused(t, c, change(thread, 5), "ErrNone")
		}
		wantWokenAsListed(t, c)
	}
}

// P16.1: one that left, or was woken, and comes again has waited from then on.
func TestWhoLeftComesAgain(t *testing.T) {
	wantSteps(t, made(wait(1, 5, 3), wait(2, 5, 3)),
		step{leave(1), "OK", "3 [2]"},
		step{wait(1, 5, 3), "OK", "3 [2 1]"},
		step{signal(), "2 true", "3 [1]"},
		step{leave(2), "ErrNone", "3 [1]"},
		step{change(2, 5), "ErrNone", "3 [1]"},
		step{wait(2, 5, 3), "OK", "3 [1 2]"},
		step{broadcast(), "[1 2]", "free []"},
		step{leave(1), "ErrNone", "free []"},
		step{wait(2, 5, 3), "OK", "3 [2]"},
		step{wait(1, 5, 3), "OK", "3 [2 1]"},
	)
}

// P16.1, P16.2: to a higher, a lower and the same priority; it has waited as long as before.
func TestChangeOfEachOne(t *testing.T) {
	for _, r := range []struct {
		change call
		order  string
	}{
		{change(0, 7), "[0 1 2 3 4 5]"},
		{change(0, 31), "[0 1 2 3 4 5]"},
		{change(0, 5), "[1 0 2 3 4 5]"},
		{change(0, 6), "[1 0 2 3 4 5]"},
		{change(0, 4), "[1 2 3 0 4 5]"},
		{change(0, 3), "[1 2 3 0 4 5]"},
		{change(0, 2), "[1 2 3 4 5 0]"},
		{change(1, 7), "[0 1 2 3 4 5]"},
		{change(1, 8), "[1 0 2 3 4 5]"},
		{change(1, 5), "[0 1 2 3 4 5]"},
		{change(1, 4), "[0 2 3 1 4 5]"},
		{change(2, 5), "[0 1 2 3 4 5]"},
		{change(2, 6), "[0 1 2 3 4 5]"},
		{change(2, 7), "[0 1 2 3 4 5]"},
		{change(2, 8), "[2 0 1 3 4 5]"},
		{change(2, 3), "[0 1 3 2 4 5]"},
		{change(3, 5), "[0 1 2 3 4 5]"},
		{change(3, 6), "[0 1 3 2 4 5]"},
		{change(3, 7), "[0 1 3 2 4 5]"},
		{change(3, 1), "[0 1 2 4 5 3]"},
		{change(4, 3), "[0 1 2 3 4 5]"},
		{change(4, 5), "[0 1 2 3 4 5]"},
		{change(4, 7), "[0 1 4 2 3 5]"},
		{change(5, 3), "[0 1 2 3 4 5]"},
		{change(5, 31), "[5 0 1 2 3 4]"},
		{change(5, 1), "[0 1 2 3 4 5]"},
	} {
		c := made(wait(0, 7, 1), wait(1, 7, 1), wait(2, 5, 1), wait(3, 5, 1), wait(4, 3, 1), wait(5, 3, 1))
		wantSteps(t, c, step{r.change, "OK", "1 " + r.order})
		wantSteps(t, c.Copy(), step{broadcast(), r.order, "free []"})
		wantWokenAsListed(t, c)
	}
}

// P16.1: there and back it stands where it stood: among those of its priority, how long one has waited is all.
func TestChangeThereAndBack(t *testing.T) {
	c := made(wait(3, 5, 2), wait(1, 5, 2), wait(2, 5, 2))
	was := c.Copy()
	for thread := 1; thread <= 3; thread++ {
		for prio := 1; prio <= 31; prio++ {
			want(t, c, change(thread, prio), "OK")
			wantSame(t, "there", c, was, prio == 5)
			wantSteps(t, c, step{change(thread, 5), "OK", "2 [3 1 2]"})
			wantSame(t, "back", c, was, true)
		}
	}
}
