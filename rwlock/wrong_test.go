package rwlock_test

import (
	"fmt"
	"slices"
	"testing"

	"metronome/api"
	"metronome/rwlock"
)

// scenes are locks of many kinds, of which no two are the same; the threads in them are 0 to 6.
func scenes() []*rwlock.Lock {
	return []*rwlock.Lock{
		made(),
		made(write(0, 5)),
		made(write(1, 5)),
		made(read(0, 5)),
		made(read(0, 5), read(0, 5)),
		made(read(0, 5), read(1, 5), read(2, 5), read(1, 5)),
		made(write(0, 5), read(1, 5)),
		made(write(0, 5), write(1, 5)),
		made(read(0, 5), write(1, 5)),
		made(read(0, 5), write(1, 5), read(2, 5)),
		made(write(0, 5), read(1, 5), read(2, 5), read(3, 9), write(4, 5), write(5, 5), write(6, 9)),
		made(write(0, 5), read(2, 5), read(1, 5), read(3, 9), write(5, 5), write(4, 5), write(6, 9)),
		made(read(0, 5), read(0, 5), read(3, 5), write(4, 9), read(1, 5), read(2, 9), write(5, 3), write(6, 3)),
	}
}

// wrongComings are calls with a thread or a priority that may not be, or with both.
func wrongComings() []call {
	var all []call
	for _, thread := range noThreads() {
		for _, prio := range []int{1, 5, 31, 0, thread} {
			all = append(all, comings(thread, prio)...)
		}
	}
	for _, prio := range noPrios() {
		for _, thread := range []int{0, 1, 2, 3, 4, 5, 6, 7, 15} {
			all = append(all, comings(thread, prio)...)
		}
	}
	return all
}

// wrongGoings are calls of Unlock, Leave and Change with what may not be.
func wrongGoings() []call {
	var all []call
	for _, thread := range noThreads() {
		all = append(all, unlock(thread), leave(thread))
		for _, prio := range []int{1, 5, 31, 0, thread} {
			all = append(all, change(thread, prio))
		}
	}
	for _, prio := range noPrios() {
		for _, thread := range []int{0, 1, 2, 3, 4, 5, 6, 7, 15} {
			all = append(all, change(thread, prio))
		}
	}
	return all
}

// P15.1, P15.2: ahead of whatever else could be told of the thread.
func TestWhatMayNotBeIsRefused(t *testing.T) {
	for _, l := range scenes() {
		for _, c := range wrongComings() {
			wantUnchanged(t, l, c, "false ErrArg")
		}
		for _, c := range wrongGoings() {
			wantUnchanged(t, l, c, "[] ErrArg")
		}
	}
}

// P15.1: one that waits, or writes, and comes again; one that reads, and would write; also with another priority.
func TestWhoComesAgain(t *testing.T) {
	for _, l := range scenes() {
		writer, held := l.Writer()
		for thread := range 16 {
			_, waits := l.Waiting(thread)
			for _, prio := range []int{1, 5, 6, 9, 31} {
				if waits || held && thread == writer {
					wantUnchanged(t, l, read(thread, prio), "false ErrState")
					wantUnchanged(t, l, tryRead(thread, prio), "false ErrState")
				}
				if waits || held && thread == writer || l.Reads(thread) > 0 {
					wantUnchanged(t, l, write(thread, prio), "false ErrState")
					wantUnchanged(t, l, tryWrite(thread, prio), "false ErrState")
				}
			}
		}
	}
}

// P15.2: who does not hold it does not unlock it; who does not wait neither leaves nor changes, also if it holds it.
func TestWhoDoesNotHoldItAndWhoDoesNotWait(t *testing.T) {
	for _, l := range scenes() {
		writer, held := l.Writer()
		for thread := range 16 {
			if !(held && thread == writer) && l.Reads(thread) == 0 {
				wantUnchanged(t, l, unlock(thread), "[] ErrNone")
			}
			if _, waits := l.Waiting(thread); !waits {
				wantUnchanged(t, l, leave(thread), "[] ErrNone")
				for _, prio := range []int{1, 5, 9, 31} {
					wantUnchanged(t, l, change(thread, prio), "[] ErrNone")
				}
			}
		}
	}
}

// P15.1: who tries and does not get it does not wait, and changes nothing.
func TestWhoTriesNeverWaits(t *testing.T) {
	tried := 0
	for _, l := range scenes() {
		for thread := 7; thread < 16; thread++ {
			for prio := 1; prio <= 31; prio++ {
				for _, c := range []call{tryRead(thread, prio), tryWrite(thread, prio)} {
					if c.do(l.Copy()) == "false OK" {
						wantUnchanged(t, l, c, "false OK")
						tried++
					}
				}
			}
		}
	}
	if tried < 9*31*len(scenes()) {
		t.Errorf("%d tried for nothing", tried)
	}
}

// noLocks are nil and zero ones.
func noLocks() []*rwlock.Lock {
	return []*rwlock.Lock{nil, {}}
}

// P15.1, P15.2, P15.3: a nil and a zero one refuse whatever they are given, and have nothing.
func TestNilAndZeroOnes(t *testing.T) {
	for _, l := range noLocks() {
		came, went := wrongComings(), wrongGoings()
		for _, thread := range []int{0, 1, 5, 15} {
			for _, prio := range []int{1, 5, 31} {
				came = append(came, comings(thread, prio)...)
				went = append(went, change(thread, prio))
			}
			went = append(went, unlock(thread), leave(thread))
		}
		for _, c := range came {
			want(t, l, c, "false ErrNil")
		}
		for _, c := range went {
			want(t, l, c, "[] ErrNil")
		}
		wantStand(t, "none", l, "free [] []")
		wantLooksOf(t, l, append(noThreads(), 0, 1, 15))
	}
}

// wantLooksOf asks that these threads, which neither hold it nor wait, have nothing of it.
func wantLooksOf(t *testing.T, l *rwlock.Lock, threads []int) {
	t.Helper()
	for _, thread := range threads {
		toWrite, is := l.Waiting(thread)
		if toWrite || is || l.Reads(thread) != 0 {
			t.Errorf("%s: Waiting(%d) is %v, %v, and Reads %d", stand(l), thread, toWrite, is, l.Reads(thread))
		}
	}
}

// P15.3: looks take any number for a thread, and say that it neither waits nor reads.
func TestLooksOfThreadsThatMayNotBe(t *testing.T) {
	for _, l := range scenes() {
		wantLooksOf(t, l, append(noThreads(), 7, 15))
	}
}

// P15.1, P15.2: what was refused has not made anything of it.
func TestAZeroOneStaysZero(t *testing.T) {
	l := &rwlock.Lock{}
	after(l, append(comings(1, 5), unlock(1), leave(1), change(1, 5), unlock(0), leave(0), change(0, 5))...)
	for _, other := range noLocks() {
		wantSame(t, "a zero one", l, other, true)
	}
	if l.Copy() != nil {
		t.Error("a zero one became one")
	}
}

// P15.3
func TestCopyAndSameOfNilAndZeroOnes(t *testing.T) {
	for i, l := range noLocks() {
		if l.Copy() != nil {
			t.Errorf("Copy of none (%d) is one", i)
		}
		for j, other := range noLocks() {
			wantSame(t, fmt.Sprint("none ", i, " and none ", j), l, other, true)
		}
		for _, one := range scenes() {
			wantSame(t, fmt.Sprint("none ", i, " and one"), l, one, false)
		}
	}
}

// P15.3: what Readers and Writers answer is nobody else's.
func TestListsAreNobodyElses(t *testing.T) {
	l := made(write(0, 5), read(1, 5), read(2, 6), read(3, 7), write(4, 5), write(5, 6), write(6, 7))
	for _, look := range []func(*rwlock.Lock) []int{(*rwlock.Lock).Readers, (*rwlock.Lock).Writers} {
		list := look(l)
		clear(list[:cap(list)])
		wantStand(t, "a list is cleared", l, "write 0 [3 2 1] [6 5 4]")
	}
	readers, writers := l.Readers(), l.Writers()
	after(l, leave(2), change(1, 31), read(7, 9), leave(5), change(4, 31), write(8, 9))
	wantStand(t, "behind it", l, "write 0 [1 7 3] [4 8 6]")
	if listText(readers) != "[3 2 1]" || listText(writers) != "[6 5 4]" {
		t.Errorf("the lists became %v, %v", readers, writers)
	}
}

// P15.2: neither the lock nor a copy, nor what is let in behind it, has anything of what was answered.
func TestWhoWasLetInIsNobodyElses(t *testing.T) {
	for _, x := range []struct {
		lock *rwlock.Lock
		do   func(l *rwlock.Lock) ([]int, api.Errno)
		in   string
	}{
		{made(write(0, 5), read(1, 5), read(2, 6), read(3, 7)), func(l *rwlock.Lock) ([]int, api.Errno) { return l.Unlock(0) }, "[3 2 1]"},
		{made(read(0, 5), write(4, 9), read(1, 5), read(2, 6), read(3, 7)), func(l *rwlock.Lock) ([]int, api.Errno) { return l.Leave(4) }, "[3 2 1]"},
		{made(read(0, 5), write(4, 9), read(1, 5), read(2, 6), read(3, 7)), func(l *rwlock.Lock) ([]int, api.Errno) { return l.Change(4, 4) }, "[3 2 1]"},
	} {
		other := x.lock.Copy()
		first, err := x.do(x.lock)
		if err != api.OK || listText(first) != x.in {
			t.Fatalf("%v, %s, want %s", first, errText(err), x.in)
		}
		text := stand(x.lock)
		second, _ := x.do(other)
		clear(first[:cap(first)])
		wantStand(t, "the answer is cleared", x.lock, text)
		wantStand(t, "the answer is cleared", other, text)
		after(x.lock, unlock(0), leave(4), unlock(1), unlock(2), unlock(3), write(5, 5), read(6, 5), read(7, 5), unlock(5))
		after(other, unlock(0), leave(4), unlock(1), unlock(2), unlock(3), write(5, 5), read(6, 5), read(7, 5), unlock(5))
		if listText(second) != x.in {
			t.Errorf("the answer became %v", second)
		}
		wantStand(t, "behind it", x.lock, "6*1 7*1 [] []")
		wantSame(t, "behind it", x.lock, other, true)
	}
}

// P15.3
func TestLookingChangesNothing(t *testing.T) {
	for _, l := range scenes() {
		was, text := l.Copy(), stand(l)
		for range 3 {
			l.Writer()
			l.Held()
			l.Readers()
			l.Writers()
			l.Copy()
			for _, thread := range append(noThreads(), 0, 1, 2, 3, 4, 5, 6, 7, 15) {
				l.Reads(thread)
				l.Waiting(thread)
			}
			rwlock.Same(l, was)
			rwlock.Same(was, l)
			wantStand(t, "looking", l, text)
			wantSame(t, "looking", l, was, true)
		}
	}
}

// doings are calls of which each one changes some scene or other.
func doings() []call {
	var all []call
	for thread := range 8 {
		all = append(all, comings(thread, 7)...)
		all = append(all, unlock(thread), leave(thread), change(thread, 1), change(thread, 7), change(thread, 31))
	}
	return all
}

// P15.3: whatever is done to one of both, the other one stays, and does as it would have done.
func TestACopyGoesOnApart(t *testing.T) {
	for _, l := range scenes() {
		text := stand(l)
		for _, c := range doings() {
			a, b := l.Copy(), l.Copy()
			wantStand(t, "a copy", a, text)
			wantSame(t, "copies", a, b, true)
			answer := c.do(a)
			wantStand(t, c.name+" to a copy", l, text)
			wantStand(t, c.name+" to another copy", b, text)
			wantSame(t, c.name+" to a copy", l, b, true)
			want(t, b, c, answer)
			wantSame(t, c.name+" to both", a, b, true)
			for _, d := range doings() {
				e, f := a.Copy(), b.Copy()
				want(t, e, d, d.do(f))
				wantSame(t, c.name+", "+d.name, e, f, true)
			}
		}
	}
}

// P15.3: what is done to the one that was copied is nothing to the copy.
func TestTheCopiedOneGoesOnApart(t *testing.T) {
	l := made(read(0, 5), read(0, 5), write(1, 5), write(2, 6), read(3, 5), read(4, 6))
	other := l.Copy()
	after(l, change(1, 31), leave(2), unlock(0), read(5, 3), unlock(0), unlock(1), unlock(4), unlock(3), unlock(5), write(9, 9))
	wantStand(t, "the one", l, "write 9 [] []")
	wantSteps(t, other,
		step{read(0, 1), "true OK", "0*3 [4 3] [2 1]"},
		step{leave(2), "[4] OK", "0*3 4*1 [3] [1]"},
		step{leave(1), "[3] OK", "0*3 3*1 4*1 [] []"},
	)
	wantStand(t, "the one", l, "write 9 [] []")
}

// P15.3: they differ in one thing alone; each is the same as one that was made as it was.
func TestSameTellsApart(t *testing.T) {
	groups := map[string][][]call{
		"who holds it": {
			{}, {write(0, 5)}, {write(1, 5)}, {write(15, 5)}, {read(0, 5)}, {read(1, 5)}, {read(15, 5)},
			{read(0, 5), read(1, 5)}, {read(0, 5), read(15, 5)}, {read(0, 5), read(1, 5), read(15, 5)},
		},
		"how often": {
			{read(1, 5)}, {read(1, 5), read(1, 5)}, {read(1, 5), read(1, 5), read(1, 5)},
			{read(1, 5), read(2, 5)}, {read(1, 5), read(2, 5), read(2, 5)}, {read(1, 5), read(1, 5), read(2, 5)},
		},
	}
	for name, hold := range map[string][]call{"written": {write(0, 5)}, "read": {read(0, 5), write(15, 31)}} {
		for wanted, come := range map[string]func(thread, prio int) call{"read": read, "write": write} {
			with := func(calls ...call) []call { return slices.Concat(hold, calls) }
			what := name + ", waits to " + wanted + ", "
			groups[what+"who"] = [][]call{
				with(), with(come(1, 5)), with(come(2, 5)), with(come(1, 5), come(2, 5)), with(come(1, 5), come(3, 5)),
			}
			groups[what+"priorities"] = [][]call{with(come(1, 5)), with(come(1, 6)), with(come(1, 1)), with(come(1, 31))}
			groups[what+"priorities that leave the order"] = [][]call{
				with(come(1, 6), come(2, 5)), with(come(1, 7), come(2, 5)), with(come(1, 6), come(2, 4)),
			}
			groups[what+"who came first"] = [][]call{with(come(1, 5), come(2, 5)), with(come(2, 5), come(1, 5))}
			groups[what+"who came first, of an order that does not tell it"] = [][]call{
				with(come(1, 5), come(2, 6)), with(come(2, 6), come(1, 5)),
			}
		}
		groups[name+", what is wanted"] = [][]call{
			slices.Concat(hold, []call{read(1, 5)}), slices.Concat(hold, []call{write(1, 5)}),
			slices.Concat(hold, []call{read(1, 5), write(2, 5)}), slices.Concat(hold, []call{write(1, 5), read(2, 5)}),
		}
	}
	for name, group := range groups {
		for i, a := range group {
			for j, b := range group {
				wantSame(t, fmt.Sprint(name, " ", i, " ", j), made(a...), made(b...), i == j)
			}
		}
	}
}

// P15.3: how they came to it is nothing to it; nor is who of a reader and a writer came first.
func TestSameOfTwoThatCameThereByUnlikeCalls(t *testing.T) {
	for i, p := range [][2]*rwlock.Lock{
		{made(), made(read(1, 5), unlock(1))},
		{made(), made(read(1, 5), read(1, 5), unlock(1), unlock(1))},
		{made(), made(write(1, 5), read(2, 5), unlock(1), unlock(2))},
		{made(), made(write(-1, 5), read(1, 0), tryWrite(16, 1), unlock(3), leave(3), change(3, 3))},
		{made(write(1, 5)), made(write(1, 9))},
		{made(write(1, 5)), made(tryWrite(1, 1))},
		{made(write(1, 5)), made(read(0, 5), write(1, 5), unlock(0))},
		{made(write(1, 5)), made(write(1, 5), read(2, 5), leave(2), write(2, 5), leave(2))},
		{made(read(1, 5)), made(tryRead(1, 31))},
		{made(read(1, 5)), made(read(1, 5), read(1, 5), unlock(1))},
		{made(read(1, 5), read(2, 5)), made(read(2, 7), read(1, 1))},
		{made(read(1, 5), read(2, 5)), made(write(3, 5), read(2, 7), read(1, 1), unlock(3))},
		{made(read(1, 5), read(2, 5)), made(read(1, 5), write(3, 9), read(2, 7), change(2, 10), leave(3))},
		{made(write(0, 5), read(1, 5), write(2, 5)), made(write(0, 5), write(2, 5), read(1, 5))},
		{made(write(0, 5), read(1, 5), read(2, 7)), made(write(0, 5), read(2, 7), read(1, 5), leave(2), read(2, 7))},
		{made(write(0, 5), read(1, 5), read(2, 7)), made(write(0, 5), read(1, 8), read(2, 4), write(3, 3), change(2, 7), leave(3), change(1, 5))},
		{made(write(0, 5), write(1, 5), write(2, 7)), made(write(0, 5), write(2, 7), write(1, 5), leave(2), tryWrite(2, 7), write(2, 7))},
		{made(write(0, 5), write(1, 5)), made(write(0, 5), read(1, 5), leave(1), write(1, 9), change(1, 5))},
		{made(read(0, 5), write(1, 5), read(2, 5)), made(read(0, 5), write(1, 5), read(2, 5), read(0, 1), read(3, 6), unlock(3), unlock(0))},
	} {
		wantSame(t, fmt.Sprint("pair ", i), p[0], p[1], true)
		for _, c := range doings() {
			a, b := p[0].Copy(), p[1].Copy()
			want(t, a, c, c.do(b))
			wantSame(t, fmt.Sprint("pair ", i, ", ", c.name), a, b, true)
		}
	}
}

// P15.3: one is the same as itself, and as no other of these.
func TestSameOfAllScenes(t *testing.T) {
	all := scenes()
	for i, a := range all {
		for j, b := range all {
			wantSame(t, fmt.Sprint(i, " ", j), a, b, i == j)
		}
	}
}
