package sem_test

import (
	"fmt"
	"math"
	"testing"

	"metronome/api"
	"metronome/sem"
)

// thing is a semaphore or a barrier, for what is asked of both alike.
type thing interface {
	Leave(thread int) api.Errno
	Change(thread, prio int) api.Errno
	Len() int
	List() []int
	wait(thread, prio int) string
	number() int
	another() thing
	same(other thing) bool
}

type semaphore struct{ *sem.Sem }

func (s semaphore) wait(thread, prio int) string {
	got, err := s.Wait(thread, prio)
	return fmt.Sprint(got, " ", errText(err))
}

func (s semaphore) number() int { return s.Value() }

func (s semaphore) another() thing { return semaphore{s.Copy()} }

func (s semaphore) same(other thing) bool { return sem.Same(s.Sem, other.(semaphore).Sem) }

type barrier struct{ *sem.Barrier }

func (b barrier) wait(thread, prio int) string {
	goOn, err := b.Wait(thread, prio)
	return listText(goOn) + " " + errText(err)
}

func (b barrier) number() int { return b.Count() }

func (b barrier) another() thing { return barrier{b.Copy()} }

func (b barrier) same(other thing) bool { return sem.SameBarrier(b.Barrier, other.(barrier).Barrier) }

func errText(err api.Errno) string {
	names := []string{"OK", "ErrNil", "ErrArg", "ErrLong", "ErrBytes", "ErrFull", "ErrNone", "ErrState"}
	if int(err) >= 0 && int(err) < len(names) {
		return names[err]
	}
	return fmt.Sprint("error ", int(err))
}

// listText is a list as a text; nil and empty ones are one.
func listText(list []int) string {
	return fmt.Sprint(append([]int{}, list...))
}

// noThreads are numbers that are no threads.
func noThreads() []int {
	return []int{-1, -2, -15, -16, -17, 16, 17, 31, 32, 256, 257, 1 << 32, 1<<32 + 1, -1 << 32, math.MinInt, math.MinInt + 1, math.MaxInt}
}

// noPrios are numbers that are no priorities.
func noPrios() []int {
	return []int{0, -1, -2, -5, -31, -32, 32, 33, 63, 64, 69, 256, 261, 1 << 32, 1<<32 + 5, -1 << 32, math.MinInt, math.MinInt + 5, math.MaxInt}
}

// someSem is a semaphore of that value.
func someSem(t *testing.T, value int) thing {
	t.Helper()
	s, err := sem.New(value)
	if err != api.OK || s == nil {
		t.Fatalf("New(%d): %v, %s", value, s, errText(err))
	}
	return semaphore{s}
}

// someBarrier is a barrier of that count.
func someBarrier(t *testing.T, count int) thing {
	t.Helper()
	b, err := sem.NewBarrier(count)
	if err != api.OK || b == nil {
		t.Fatalf("NewBarrier(%d): %v, %s", count, b, errText(err))
	}
	return barrier{b}
}

// call is something that is done to a semaphore or a barrier, and tells the answer as a text.
type call struct {
	name string
	do   func(x thing) string
}

func wait(thread, prio int) call {
	return call{fmt.Sprintf("Wait(%d, %d)", thread, prio), func(x thing) string { return x.wait(thread, prio) }}
}

func leave(thread int) call {
	return call{fmt.Sprintf("Leave(%d)", thread), func(x thing) string { return errText(x.Leave(thread)) }}
}

func change(thread, prio int) call {
	return call{fmt.Sprintf("Change(%d, %d)", thread, prio), func(x thing) string { return errText(x.Change(thread, prio)) }}
}

// try is a call of a semaphore alone.
func try() call {
	return call{"Try()", func(x thing) string { return fmt.Sprint(x.(semaphore).Try()) }}
}

// post is a call of a semaphore alone.
func post() call {
	return call{"Post()", func(x thing) string {
		woken, err := x.(semaphore).Post()
		return fmt.Sprint(woken, " ", errText(err))
	}}
}

// stand is how one stands, as a text: its value or count, and who waits.
func stand(x thing) string {
	return fmt.Sprint(x.number(), " ", listText(x.List()))
}

// want does a call, and asks for that answer.
func want(t *testing.T, x thing, c call, answer string) {
	t.Helper()
	if got := c.do(x); got != answer {
		t.Errorf("%s is %s, want %s", c.name, got, answer)
	}
}

// wantStand asks for how it stands.
func wantStand(t *testing.T, what string, x thing, text string) {
	t.Helper()
	if got := stand(x); got != text || x.Len() != len(x.List()) {
		t.Errorf("%s: it stands as %s, and %d wait, want %s", what, got, x.Len(), text)
	}
}

func wantSame(t *testing.T, what string, a, b thing, is bool) {
	t.Helper()
	if a.same(b) != is || b.same(a) != is {
		t.Errorf("%s: Same of %s and %s is %v, %v, want %v", what, stand(a), stand(b), a.same(b), b.same(a), is)
	}
}

// wantRefused does a call, asks for that answer, and that nothing has changed.
func wantRefused(t *testing.T, x thing, c call, answer string) {
	t.Helper()
	was, text := x.another(), stand(x)
	want(t, x, c, answer)
	wantStand(t, c.name, x, text)
	wantSame(t, c.name, x, was, true)
}

// after does calls to one, whatever they answer.
func after(x thing, calls ...call) thing {
	for _, c := range calls {
		c.do(x)
	}
	return x
}

// step is a call, its answer, and how the one it is done to stands behind it.
type step struct {
	call   call
	answer string
	stands string
}

func wantSteps(t *testing.T, x thing, steps ...step) {
	t.Helper()
	for i, s := range steps {
		want(t, x, s.call, s.answer)
		wantStand(t, fmt.Sprint("step ", i, ", ", s.call.name), x, s.stands)
	}
}

// P14.1, P14.3
func TestTheChaptersSemaphore(t *testing.T) {
	wantSteps(t, someSem(t, 1),
		step{wait(1, 5), "true OK", "0 []"},
		step{wait(2, 5), "false OK", "0 [2]"},
		step{wait(3, 9), "false OK", "0 [3 2]"},
		step{wait(2, 5), "false ErrState", "0 [3 2]"},
		step{post(), "3 OK", "0 [2]"},
		step{change(2, 1), "OK", "0 [2]"},
		step{post(), "2 OK", "0 []"},
		step{post(), "-1 OK", "1 []"},
	)
}

// P14.1, P14.3
func TestNewHasEachValueThatMayBe(t *testing.T) {
	for value := 0; value <= 32767; value++ {
		wantStand(t, "New", someSem(t, value), fmt.Sprint(value, " []"))
	}
}

// P14.1
func TestNewRefusesOtherValues(t *testing.T) {
	for _, value := range []int{-1, -2, -32767, -32768, 32768, 32769, 65535, 65536, 1 << 32, 1<<32 + 1, -1 << 32, math.MinInt, math.MinInt + 1, math.MaxInt} {
		if s, err := sem.New(value); s != nil || err != api.ErrArg {
			t.Errorf("New(%d): %v, %s", value, s, errText(err))
		}
	}
}

// P14.1: the value is one less, and nobody waits.
func TestWaitAndTryGetWhatThereIs(t *testing.T) {
	for _, value := range []int{1, 2, 3, 16, 17, 32766, 32767} {
		less := fmt.Sprint(value-1, " []")
		for thread := range 16 {
			for prio := 1; prio <= 31; prio++ {
				wantSteps(t, someSem(t, value), step{wait(thread, prio), "true OK", less})
			}
		}
		wantSteps(t, someSem(t, value), step{try(), "true", less})
	}
}

// P14.1: one thread may get it as often as it likes.
func TestAllOfTheValueIsGot(t *testing.T) {
	byWait, byTry := someSem(t, 32767), someSem(t, 32767)
	for left := 32766; left >= 0; left-- {
		want(t, byWait, wait(3, 5), "true OK")
		want(t, byTry, try(), "true")
		if byWait.number() != left || byTry.number() != left {
			t.Fatalf("%d, %d, want %d", byWait.number(), byTry.number(), left)
		}
	}
	wantRefused(t, byTry, try(), "false")
	wantSteps(t, byWait, step{wait(3, 5), "false OK", "0 [3]"})
}

// P14.1
func TestAtTheValueNoughtOneWaitsAndTryDoesNot(t *testing.T) {
	for thread := range 16 {
		for prio := 1; prio <= 31; prio++ {
			s := someSem(t, 0)
			wantRefused(t, s, try(), "false")
			wantSteps(t, s, step{wait(thread, prio), "false OK", fmt.Sprintf("0 [%d]", thread)})
			wantRefused(t, s, try(), "false")
			wantSteps(t, s, step{post(), fmt.Sprint(thread, " OK"), "0 []"})
		}
	}
}

// P14.1: what was posted is got by the next one.
func TestWhatIsPostedWhereNobodyWaitsIsGotLater(t *testing.T) {
	wantSteps(t, someSem(t, 0),
		step{post(), "-1 OK", "1 []"},
		step{post(), "-1 OK", "2 []"},
		step{try(), "true", "1 []"},
		step{wait(7, 1), "true OK", "0 []"},
		step{wait(7, 1), "false OK", "0 [7]"},
		step{post(), "7 OK", "0 []"},
		step{post(), "-1 OK", "1 []"},
	)
}

// P14.1: up to MaxCount and no further.
func TestPostUpToTheGreatestValue(t *testing.T) {
	s := someSem(t, 0)
	for value := 1; value <= 32767; value++ {
		want(t, s, post(), "-1 OK")
		if s.number() != value {
			t.Fatalf("the value is %d, want %d", s.number(), value)
		}
	}
	wantRefused(t, s, post(), "-1 ErrFull")
	wantSteps(t, s,
		step{post(), "-1 ErrFull", "32767 []"},
		step{try(), "true", "32766 []"},
		step{post(), "-1 OK", "32767 []"},
		step{post(), "-1 ErrFull", "32767 []"},
		step{wait(0, 1), "true OK", "32766 []"},
		step{post(), "-1 OK", "32767 []"},
	)
}

// P14.1, P14.4: of one priority, who has waited longest is woken first.
func TestPostWakesOfOnePriorityWhoCameFirst(t *testing.T) {
	s := someSem(t, 0)
	for i := range 16 {
		want(t, s, wait((i*7+3)%16, 5), "false OK")
	}
	wantStand(t, "all wait", s, "0 [3 10 1 8 15 6 13 4 11 2 9 0 7 14 5 12]")
	for i := range 16 {
		want(t, s, post(), fmt.Sprint((i*7+3)%16, " OK"))
	}
	wantSteps(t, s, step{post(), "-1 OK", "1 []"})
}

// P14.1, P14.4: of several priorities, the greatest ones are woken first, whoever came first.
func TestPostWakesTheGreatestPriorityFirst(t *testing.T) {
	rising, falling := someSem(t, 0), someSem(t, 0)
	for thread := range 16 {
		want(t, rising, wait(thread, 2*thread+1), "false OK")
		want(t, falling, wait(thread, 31-2*thread), "false OK")
	}
	for i := range 16 {
		want(t, rising, post(), fmt.Sprint(15-i, " OK"))
		want(t, falling, post(), fmt.Sprint(i, " OK"))
	}
	mixed := after(someSem(t, 0), wait(4, 1), wait(9, 31), wait(0, 1), wait(15, 31), wait(2, 16))
	wantSteps(t, mixed,
		step{post(), "9 OK", "0 [15 2 4 0]"},
		step{post(), "15 OK", "0 [2 4 0]"},
		step{post(), "2 OK", "0 [4 0]"},
		step{wait(9, 1), "false OK", "0 [4 0 9]"},
		step{post(), "4 OK", "0 [0 9]"},
		step{post(), "0 OK", "0 [9]"},
		step{post(), "9 OK", "0 []"},
	)
}

// P14.1: one that left is not woken, and gets nothing.
func TestWhoLeftASemaphoreIsNotWoken(t *testing.T) {
	wantSteps(t, after(someSem(t, 0), wait(1, 5), wait(2, 5), wait(3, 9)),
		step{leave(3), "OK", "0 [1 2]"},
		step{leave(3), "ErrNone", "0 [1 2]"},
		step{leave(2), "OK", "0 [1]"},
		step{post(), "1 OK", "0 []"},
		step{leave(1), "ErrNone", "0 []"},
		step{change(1, 5), "ErrNone", "0 []"},
		step{post(), "-1 OK", "1 []"},
	)
}

// P14.1: one that left and comes again has waited from then on.
func TestWhoLeftASemaphoreComesAgain(t *testing.T) {
	wantSteps(t, after(someSem(t, 0), wait(1, 5), wait(2, 5)),
		step{leave(1), "OK", "0 [2]"},
		step{wait(1, 5), "false OK", "0 [2 1]"},
		step{post(), "2 OK", "0 [1]"},
		step{wait(2, 5), "false OK", "0 [1 2]"},
		step{leave(1), "OK", "0 [2]"},
		step{leave(2), "OK", "0 []"},
		step{post(), "-1 OK", "1 []"},
		step{wait(2, 5), "true OK", "0 []"},
	)
}
