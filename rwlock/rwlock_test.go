package rwlock_test

import (
	"fmt"
	"math"
	"slices"
	"strings"
	"testing"

	"metronome/api"
	"metronome/rwlock"
)

func errText(err api.Errno) string {
	names := []string{"OK", "ErrNil", "ErrArg", "ErrLong", "ErrBytes", "ErrFull", "ErrNone", "ErrState"}
	if int(err) >= 0 && int(err) < len(names) {
		return names[err]
	}
	return fmt.Sprint("error ", int(err))
}

// listText is a list as a text; nil and empty ones are one.
func listText(list []int) string {
	return fmt.Sprint(append([]int{}, list...))
}

// noThreads are numbers that are no threads.
func noThreads() []int {
	return []int{-1, -2, -15, -16, -17, 16, 17, 31, 32, 256, 257, 1 << 32, 1<<32 + 1, -1 << 32, math.MinInt, math.MinInt + 1, math.MaxInt}
}

// noPrios are numbers that are no priorities.
func noPrios() []int {
	return []int{0, -1, -2, -5, -31, -32, 32, 33, 63, 64, 69, 256, 261, 1 << 32, 1<<32 + 5, -1 << 32, math.MinInt, math.MinInt + 5, math.MaxInt}
}

// call is something that is done to a lock, and tells the answer as a text.
type call struct {
	name string
	do   func(l *rwlock.Lock) string
}

// coming is a call of Read, Write, TryRead or TryWrite.
func coming(name string, do func(l *rwlock.Lock, thread, prio int) (bool, api.Errno), thread, prio int) call {
	return call{fmt.Sprintf("%s(%d, %d)", name, thread, prio), func(l *rwlock.Lock) string {
		got, err := do(l, thread, prio)
		return fmt.Sprint(got, " ", errText(err))
	}}
}

func read(thread, prio int) call { return coming("Read", (*rwlock.Lock).Read, thread, prio) }

func write(thread, prio int) call { return coming("Write", (*rwlock.Lock).Write, thread, prio) }

func tryRead(thread, prio int) call { return coming("TryRead", (*rwlock.Lock).TryRead, thread, prio) }

func tryWrite(thread, prio int) call {
	return coming("TryWrite", (*rwlock.Lock).TryWrite, thread, prio)
}

// comings are all four of them.
func comings(thread, prio int) []call {
	return []call{read(thread, prio), write(thread, prio), tryRead(thread, prio), tryWrite(thread, prio)}
}

// going is a call of Unlock, Leave or Change.
func going(name string, do func(l *rwlock.Lock) ([]int, api.Errno)) call {
	return call{name, func(l *rwlock.Lock) string {
		in, err := do(l)
		return listText(in) + " " + errText(err)
	}}
}

func unlock(thread int) call {
	return going(fmt.Sprintf("Unlock(%d)", thread), func(l *rwlock.Lock) ([]int, api.Errno) { return l.Unlock(thread) })
}

func leave(thread int) call {
	return going(fmt.Sprintf("Leave(%d)", thread), func(l *rwlock.Lock) ([]int, api.Errno) { return l.Leave(thread) })
}

func change(thread, prio int) call {
	return going(fmt.Sprintf("Change(%d, %d)", thread, prio), func(l *rwlock.Lock) ([]int, api.Errno) { return l.Change(thread, prio) })
}

// holders is who holds it, as a text: "free", "write 2", or "1*3 4*1", where thread 1 reads three times, and 4 once.
func holders(l *rwlock.Lock) string {
	var all []string
	if thread, ok := l.Writer(); ok {
		all = append(all, fmt.Sprint("write ", thread))
	} else if thread != 0 {
		all = append(all, fmt.Sprint("no writer is ", thread))
	}
	for thread := range 16 {
		if n := l.Reads(thread); n != 0 {
			all = append(all, fmt.Sprintf("%d*%d", thread, n))
		}
	}
	if len(all) == 0 {
		return "free"
	}
	return strings.Join(all, " ")
}

// stand is how a lock stands, as a text: who holds it, who waits to read, and who waits to write.
func stand(l *rwlock.Lock) string {
	return holders(l) + " " + listText(l.Readers()) + " " + listText(l.Writers())
}

// want does a call, and asks for that answer.
func want(t *testing.T, l *rwlock.Lock, c call, answer string) {
	t.Helper()
	if got := c.do(l); got != answer {
		t.Errorf("%s is %s, want %s", c.name, got, answer)
	}
}

// wantStand asks for how it stands, and that all looks tell of one lock.
func wantStand(t *testing.T, what string, l *rwlock.Lock, text string) {
	t.Helper()
	if got := stand(l); got != text {
		t.Errorf("%s: it stands as %s, want %s", what, got, text)
	}
	if l.Held() != (holders(l) != "free") {
		t.Errorf("%s: %s, and Held is %v", what, stand(l), l.Held())
	}
	for thread := range 16 {
		reader, writer := slices.Contains(l.Readers(), thread), slices.Contains(l.Writers(), thread)
		if toWrite, is := l.Waiting(thread); toWrite != writer || is != (reader || writer) || reader && writer {
			t.Errorf("%s: %s, and Waiting(%d) is %v, %v", what, stand(l), thread, toWrite, is)
		}
	}
}

func wantSame(t *testing.T, what string, a, b *rwlock.Lock, is bool) {
	t.Helper()
	if rwlock.Same(a, b) != is || rwlock.Same(b, a) != is {
		t.Errorf("%s: Same of %s and %s is %v, %v, want %v", what, stand(a), stand(b), rwlock.Same(a, b), rwlock.Same(b, a), is)
	}
}

// wantUnchanged does a call, asks for that answer, and that nothing has changed.
func wantUnchanged(t *testing.T, l *rwlock.Lock, c call, answer string) {
	t.Helper()
	was, text := l.Copy(), stand(l)
	want(t, l, c, answer)
	wantStand(t, c.name, l, text)
	wantSame(t, c.name, l, was, true)
}

// made is a new lock to which calls were done, whatever they answered.
func made(calls ...call) *rwlock.Lock {
	return after(rwlock.New(), calls...)
}

// after does calls to one, whatever they answer.
func after(l *rwlock.Lock, calls ...call) *rwlock.Lock {
	for _, c := range calls {
		c.do(l)
	}
	return l
}

// step is a call, its answer, and how the lock stands behind it.
type step struct {
	call   call
	answer string
	stands string
}

func wantSteps(t *testing.T, l *rwlock.Lock, steps ...step) {
	t.Helper()
	for i, s := range steps {
		want(t, l, s.call, s.answer)
		wantStand(t, fmt.Sprint("step ", i, ", ", s.call.name), l, s.stands)
	}
}

// P15.1, P15.2, P15.3
func TestTheChaptersLock(t *testing.T) {
	wantSteps(t, made(),
		step{read(1, 5), "true OK", "1*1 [] []"},
		step{read(1, 5), "true OK", "1*2 [] []"},
		step{write(2, 5), "false OK", "1*2 [] [2]"},
		step{read(3, 5), "false OK", "1*2 [3] [2]"},
		step{read(4, 6), "true OK", "1*2 4*1 [3] [2]"},
		step{read(1, 5), "true OK", "1*3 4*1 [3] [2]"},
		step{write(1, 5), "false ErrState", "1*3 4*1 [3] [2]"},
		step{write(2, 5), "false ErrState", "1*3 4*1 [3] [2]"},
		step{unlock(9), "[] ErrNone", "1*3 4*1 [3] [2]"},
		step{unlock(4), "[] OK", "1*3 [3] [2]"},
		step{leave(2), "[3] OK", "1*3 3*1 [] []"},
		step{unlock(1), "[] OK", "1*2 3*1 [] []"},
		step{unlock(1), "[] OK", "1*1 3*1 [] []"},
		step{unlock(1), "[] OK", "3*1 [] []"},
		step{write(2, 5), "false OK", "3*1 [] [2]"},
		step{unlock(3), "[2] OK", "write 2 [] []"},
		step{change(2, 1), "[] ErrNone", "write 2 [] []"},
	)
}

// P15.1, P15.3: nobody holds it: each thread of each priority gets it, to read and to write.
func TestALockThatNobodyHolds(t *testing.T) {
	wantStand(t, "New", rwlock.New(), "free [] []")
	for thread := range 16 {
		toRead, toWrite := fmt.Sprintf("%d*1 [] []", thread), fmt.Sprintf("write %d [] []", thread)
		for prio := 1; prio <= 31; prio++ {
			wantSteps(t, made(), step{read(thread, prio), "true OK", toRead})
			wantSteps(t, made(), step{tryRead(thread, prio), "true OK", toRead})
			wantSteps(t, made(), step{write(thread, prio), "true OK", toWrite})
			wantSteps(t, made(), step{tryWrite(thread, prio), "true OK", toWrite})
		}
	}
}

// P15.1: one holds it to write: all others wait, whatever their priorities, and who tries does not.
func TestALockThatOneHoldsToWrite(t *testing.T) {
	for writer := range 16 {
		for _, prio := range []int{1, 5, 6, 31} {
			other := (writer + 3) % 16
			l := made(write(writer, 5))
			wantUnchanged(t, l, tryRead(other, prio), "false OK")
			wantUnchanged(t, l, tryWrite(other, prio), "false OK")
			wantSteps(t, l.Copy(), step{read(other, prio), "false OK", fmt.Sprintf("write %d [%d] []", writer, other)})
			wantSteps(t, l.Copy(), step{write(other, prio), "false OK", fmt.Sprintf("write %d [] [%d]", writer, other)})
		}
	}
}

// P15.1: some hold it to read: others may read, too, and nobody may write.
func TestALockThatSomeHoldToRead(t *testing.T) {
	l, held := made(), ""
	for thread := range 15 {
		want(t, l, read(thread, 1+2*thread), "true OK")
		held += fmt.Sprintf("%d*1 ", thread)
		wantStand(t, "one more", l, held+"[] []")
		for _, prio := range []int{1, 15, 31} {
			wantUnchanged(t, l, tryWrite(15, prio), "false OK")
			wantSteps(t, l.Copy(), step{write(15, prio), "false OK", held + "[] [15]"})
			wantSteps(t, l.Copy(), step{read(15, prio), "true OK", held + "15*1 [] []"})
			wantSteps(t, l.Copy(), step{tryRead(15, prio), "true OK", held + "15*1 [] []"})
		}
	}
}

// P15.1: writers of a lesser priority let a reader pass, those of the same and of a greater one do not.
func TestReadWhereWritersWait(t *testing.T) {
	for waiting := 1; waiting <= 31; waiting++ {
		for prio := 1; prio <= 31; prio++ {
			l := made(read(1, 1), write(2, waiting))
			if prio > waiting {
				wantSteps(t, l.Copy(), step{read(3, prio), "true OK", "1*1 3*1 [] [2]"})
				wantSteps(t, l.Copy(), step{tryRead(3, prio), "true OK", "1*1 3*1 [] [2]"})
				continue
			}
			wantUnchanged(t, l, tryRead(3, prio), "false OK")
			wantSteps(t, l, step{read(3, prio), "false OK", "1*1 [3] [2]"})
			wantUnchanged(t, l, tryRead(4, prio), "false OK")
		}
	}
}

// P15.1: of several that wait to write the greatest one counts, whoever came first.
func TestReadWhereWritersOfSeveralPrioritiesWait(t *testing.T) {
	for _, l := range []*rwlock.Lock{
		made(read(1, 1), write(2, 3), write(3, 7), write(4, 5)),
		made(read(1, 1), write(3, 7), write(2, 3), write(4, 5)),
		made(read(1, 1), write(4, 5), write(2, 3), write(3, 7)),
	} {
		for _, prio := range []int{1, 2, 3, 4, 5, 6, 7} {
			wantUnchanged(t, l, tryRead(5, prio), "false OK")
			wantSteps(t, l.Copy(), step{read(5, prio), "false OK", "1*1 [5] [3 4 2]"})
		}
		for _, prio := range []int{8, 9, 31} {
			wantSteps(t, l.Copy(), step{tryRead(5, prio), "true OK", "1*1 5*1 [] [3 4 2]"})
			wantSteps(t, l.Copy(), step{read(5, prio), "true OK", "1*1 5*1 [] [3 4 2]"})
		}
	}
}

// P15.1: that others wait to read is nothing to a reader; and that writers wait is nothing to a writer.
func TestWhoWaitsForTheSameIsNothingToOne(t *testing.T) {
	wantSteps(t, made(read(1, 5), write(2, 5), read(3, 5), read(4, 3)),
		step{read(5, 6), "true OK", "1*1 5*1 [3 4] [2]"},
		step{tryRead(6, 31), "true OK", "1*1 5*1 6*1 [3 4] [2]"},
		step{read(7, 4), "false OK", "1*1 5*1 6*1 [3 7 4] [2]"},
		step{write(8, 6), "false OK", "1*1 5*1 6*1 [3 7 4] [8 2]"},
	)
}

// P15.1: who reads already may read once more, also with the least priority, and where the greatest waits to write.
func TestOneReadsOnceMore(t *testing.T) {
	for prio := 1; prio <= 31; prio++ {
		for waiting := 1; waiting <= 31; waiting++ {
			wantSteps(t, made(read(0, prio), write(2, waiting), read(3, 1)),
				step{read(0, prio), "true OK", "0*2 [3] [2]"},
				step{tryRead(0, prio), "true OK", "0*3 [3] [2]"},
				step{read(0, 1), "true OK", "0*4 [3] [2]"},
			)
		}
	}
}

// P15.1: it is the one that reads already that may, not another.
func TestThatAnotherReadsAlreadyIsNothingToOne(t *testing.T) {
	l := made(read(0, 5), read(0, 5), read(1, 5), write(2, 9), read(0, 1))
	wantStand(t, "two read", l, "0*3 1*1 [] [2]")
	wantUnchanged(t, l, tryRead(3, 9), "false OK")
	wantSteps(t, l,
		step{unlock(1), "[] OK", "0*3 [] [2]"},
		step{read(1, 9), "false OK", "0*3 [1] [2]"},
	)
}

// P15.1: as often as may be, and once more is refused; by Read and by TryRead alike.
func TestOneReadsAsOftenAsMayBe(t *testing.T) {
	l := made()
	for n := 1; n <= 32767; n++ {
		c := []call{read(3, 5), tryRead(3, 5)}[n%2]
		if got := c.do(l); got != "true OK" || l.Reads(3) != n {
			t.Fatalf("%s is %s, and it reads %d times, want %d", c.name, got, l.Reads(3), n)
		}
	}
	wantSteps(t, l,
		step{read(4, 5), "true OK", "3*32767 4*1 [] []"},
		step{write(5, 31), "false OK", "3*32767 4*1 [] [5]"},
		step{read(4, 1), "true OK", "3*32767 4*2 [] [5]"},
	)
	for _, prio := range []int{1, 5, 31} {
		wantUnchanged(t, l, read(3, prio), "false ErrFull")
		wantUnchanged(t, l, tryRead(3, prio), "false ErrFull")
		wantUnchanged(t, l, write(3, prio), "false ErrState")
		wantUnchanged(t, l, tryWrite(3, prio), "false ErrState")
	}
	wantUnchanged(t, l, read(3, 0), "false ErrArg")
	wantUnchanged(t, l, tryRead(3, 32), "false ErrArg")
	wantSteps(t, l,
		step{unlock(3), "[] OK", "3*32766 4*2 [] [5]"},
		step{read(3, 1), "true OK", "3*32767 4*2 [] [5]"},
		step{tryRead(3, 1), "false ErrFull", "3*32767 4*2 [] [5]"},
		step{unlock(4), "[] OK", "3*32767 4*1 [] [5]"},
		step{unlock(4), "[] OK", "3*32767 [] [5]"},
	)
	for n := 32766; n >= 1; n-- {
		if got := unlock(3).do(l); got != "[] OK" || l.Reads(3) != n {
			t.Fatalf("Unlock is %s, and it reads %d times, want %d", got, l.Reads(3), n)
		}
	}
	wantSteps(t, l, step{unlock(3), "[5] OK", "write 5 [] []"})
}

// P15.1: a writer's priority is nothing where somebody holds it; it waits for the last reader.
func TestWriteWaitsForAllReaders(t *testing.T) {
	for _, prio := range []int{1, 5, 31} {
		wantSteps(t, made(read(1, 5), read(2, 5), read(2, 5)),
			step{tryWrite(3, prio), "false OK", "1*1 2*2 [] []"},
			step{write(3, prio), "false OK", "1*1 2*2 [] [3]"},
			step{unlock(2), "[] OK", "1*1 2*1 [] [3]"},
			step{tryWrite(4, prio), "false OK", "1*1 2*1 [] [3]"},
			step{unlock(1), "[] OK", "2*1 [] [3]"},
			step{unlock(2), "[3] OK", "write 3 [] []"},
			step{unlock(3), "[] OK", "free [] []"},
			step{tryWrite(4, prio), "true OK", "write 4 [] []"},
		)
	}
}

// P15.1, P15.3: those who wait stand by falling priorities, of one priority who came first ahead, in two lists.
func TestTheOrderOfThoseWhoWait(t *testing.T) {
	wantSteps(t, made(write(0, 5)),
		step{read(3, 5), "false OK", "write 0 [3] []"},
		step{write(4, 7), "false OK", "write 0 [3] [4]"},
		step{read(1, 5), "false OK", "write 0 [3 1] [4]"},
		step{write(5, 7), "false OK", "write 0 [3 1] [4 5]"},
		step{read(2, 31), "false OK", "write 0 [2 3 1] [4 5]"},
		step{write(6, 31), "false OK", "write 0 [2 3 1] [6 4 5]"},
		step{read(7, 1), "false OK", "write 0 [2 3 1 7] [6 4 5]"},
		step{write(8, 1), "false OK", "write 0 [2 3 1 7] [6 4 5 8]"},
		step{read(9, 6), "false OK", "write 0 [2 9 3 1 7] [6 4 5 8]"},
		step{write(10, 7), "false OK", "write 0 [2 9 3 1 7] [6 4 5 10 8]"},
	)
}

// P15.1, P15.2: as many threads as may be: one writes, the others wait, or all read.
func TestAsManyThreadsAsMayBe(t *testing.T) {
	readers, writers, all := made(write(15, 5)), made(write(15, 5)), made()
	for thread := range 15 {
		want(t, readers, read(thread, 5), "false OK")
		want(t, writers, write(thread, 5), "false OK")
	}
	want(t, readers, unlock(15), "[0 1 2 3 4 5 6 7 8 9 10 11 12 13 14] OK")
	for thread := range 15 {
		want(t, writers, unlock((thread+15)%16), fmt.Sprintf("[%d] OK", thread))
	}
	wantStand(t, "the last one", writers, "write 14 [] []")
	for thread := range 16 {
		want(t, all, read(thread, 31-thread), "true OK")
	}
	for thread := range 16 {
		wantUnchanged(t, all, write(thread, 31), "false ErrState")
		wantUnchanged(t, all, tryWrite(thread, 31), "false ErrState")
	}
	for thread := range 16 {
		want(t, all, unlock(thread), "[] OK")
	}
	wantStand(t, "all are gone", all, "free [] []")
	wantSame(t, "all are gone", all, made(), true)
}
