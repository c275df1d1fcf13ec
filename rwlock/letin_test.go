package rwlock_test

import (
	"fmt"
	"testing"

	"metronome/rwlock"
)

// P15.2: a writer unlocks, and nobody, one and many are let in.
func TestUnlockOfAWriter(t *testing.T) {
	for _, x := range []struct {
		wait   []call
		in     string
		stands string
	}{
		{nil, "[]", "free [] []"},
		{[]call{read(1, 5)}, "[1]", "1*1 [] []"},
		{[]call{write(1, 5)}, "[1]", "write 1 [] []"},
		{[]call{read(1, 5), read(2, 5)}, "[1 2]", "1*1 2*1 [] []"},
		{[]call{read(2, 3), read(1, 5), read(4, 31), read(3, 5)}, "[4 1 3 2]", "1*1 2*1 3*1 4*1 [] []"},
		{[]call{write(2, 5), write(1, 5)}, "[2]", "write 2 [] [1]"},
		{[]call{write(2, 5), write(1, 6)}, "[1]", "write 1 [] [2]"},
	} {
		wantSteps(t, after(made(write(0, 5)), x.wait...), step{unlock(0), x.in + " OK", x.stands})
	}
}

// P15.2: a writer goes ahead of readers of its priority or a lesser one, whoever came first; readers of a greater one ahead of it.
func TestAWriterAndReadersOfEachPriority(t *testing.T) {
	for reader := 1; reader <= 31; reader++ {
		for writer := 1; writer <= 31; writer++ {
			for _, l := range []*rwlock.Lock{
				made(write(0, 5), read(1, reader), write(2, writer)),
				made(write(0, 5), write(2, writer), read(1, reader)),
			} {
				if reader > writer {
					wantSteps(t, l,
						step{unlock(0), "[1] OK", "1*1 [] [2]"},
						step{unlock(1), "[2] OK", "write 2 [] []"})
					continue
				}
				wantSteps(t, l,
					step{unlock(0), "[2] OK", "write 2 [1] []"},
					step{unlock(2), "[1] OK", "1*1 [] []"})
			}
		}
	}
}

// P15.2: readers of a greater priority than all who wait to write are let in one behind the other; the others wait on.
func TestReadersAreLetInAheadOfAWriter(t *testing.T) {
	l := made(write(0, 5), read(1, 5), read(2, 6), read(3, 9), read(4, 4), read(5, 6), write(6, 5), write(7, 3))
	wantSteps(t, l,
		step{unlock(0), "[3 2 5] OK", "2*1 3*1 5*1 [1 4] [6 7]"},
		step{unlock(2), "[] OK", "3*1 5*1 [1 4] [6 7]"},
		step{unlock(5), "[] OK", "3*1 [1 4] [6 7]"},
		step{unlock(3), "[6] OK", "write 6 [1 4] [7]"},
		step{unlock(6), "[1 4] OK", "1*1 4*1 [] [7]"},
		step{unlock(4), "[] OK", "1*1 [] [7]"},
		step{unlock(1), "[7] OK", "write 7 [] []"},
		step{unlock(7), "[] OK", "free [] []"},
	)
}

// P15.2: writers and readers by turns, as their priorities are.
func TestWritersAndReadersByTurns(t *testing.T) {
	l := made(write(0, 1), write(1, 9), read(2, 8), write(3, 7), read(4, 6), write(5, 5))
	wantSteps(t, l,
		step{unlock(0), "[1] OK", "write 1 [2 4] [3 5]"},
		step{unlock(1), "[2] OK", "2*1 [4] [3 5]"},
		step{unlock(2), "[3] OK", "write 3 [4] [5]"},
		step{unlock(3), "[4] OK", "4*1 [] [5]"},
		step{unlock(4), "[5] OK", "write 5 [] []"},
	)
}

// P15.2: a reader that holds it several times holds it once less each time; the last one of all lets in.
func TestUnlockOfReaders(t *testing.T) {
	wantSteps(t, made(read(1, 5), read(1, 5), read(2, 5), write(3, 9), read(4, 9)),
		step{unlock(1), "[] OK", "1*1 2*1 [4] [3]"},
		step{unlock(1), "[] OK", "2*1 [4] [3]"},
		step{unlock(1), "[] ErrNone", "2*1 [4] [3]"},
		step{unlock(2), "[3] OK", "write 3 [4] []"},
		step{unlock(2), "[] ErrNone", "write 3 [4] []"},
		step{unlock(3), "[4] OK", "4*1 [] []"},
		step{unlock(3), "[] ErrNone", "4*1 [] []"},
		step{unlock(4), "[] OK", "free [] []"},
		step{unlock(4), "[] ErrNone", "free [] []"},
	)
}

// P15.2: who is let in holds it once, and may read once more; a writer that is let in holds it to write.
func TestWhoIsLetInHoldsIt(t *testing.T) {
	wantSteps(t, made(write(0, 5), read(1, 5), read(2, 5)),
		step{unlock(0), "[1 2] OK", "1*1 2*1 [] []"},
		step{write(0, 31), "false OK", "1*1 2*1 [] [0]"},
		step{read(1, 1), "true OK", "1*2 2*1 [] [0]"},
		step{leave(1), "[] ErrNone", "1*2 2*1 [] [0]"},
		step{change(2, 5), "[] ErrNone", "1*2 2*1 [] [0]"},
		step{write(1, 5), "false ErrState", "1*2 2*1 [] [0]"},
		step{unlock(2), "[] OK", "1*2 [] [0]"},
		step{unlock(1), "[] OK", "1*1 [] [0]"},
		step{unlock(1), "[0] OK", "write 0 [] []"},
		step{leave(0), "[] ErrNone", "write 0 [] []"},
		step{change(0, 5), "[] ErrNone", "write 0 [] []"},
		step{read(0, 5), "false ErrState", "write 0 [] []"},
		step{write(0, 5), "false ErrState", "write 0 [] []"},
	)
}

// P15.2: who waits to read and leaves lets nobody in.
func TestLeaveOfOneThatWaitsToRead(t *testing.T) {
	wantSteps(t, made(write(0, 5), read(1, 9), read(2, 5), write(3, 7), read(4, 5)),
		step{leave(2), "[] OK", "write 0 [1 4] [3]"},
		step{leave(2), "[] ErrNone", "write 0 [1 4] [3]"},
		step{leave(1), "[] OK", "write 0 [4] [3]"},
		step{unlock(0), "[3] OK", "write 3 [4] []"},
		step{leave(4), "[] OK", "write 3 [] []"},
		step{unlock(3), "[] OK", "free [] []"},
	)
	wantSteps(t, made(read(0, 5), write(1, 5), read(2, 5), read(3, 4)),
		step{leave(2), "[] OK", "0*1 [3] [1]"},
		step{leave(3), "[] OK", "0*1 [] [1]"},
		step{read(2, 6), "true OK", "0*1 2*1 [] [1]"},
	)
}

// P15.2: who waits to write and leaves lets in whom it kept out alone: the readers above the next writer.
func TestLeaveOfOneThatWaitsToWrite(t *testing.T) {
	scene := func() *rwlock.Lock {
		return made(read(0, 5), write(1, 9), write(2, 6), write(3, 6), read(4, 9), read(5, 7), read(6, 6), read(7, 7), read(8, 5))
	}
	wantStand(t, "the scene", scene(), "0*1 [4 5 7 6 8] [1 2 3]")
	wantSteps(t, scene(),
		step{leave(2), "[] OK", "0*1 [4 5 7 6 8] [1 3]"},
		step{leave(1), "[4 5 7] OK", "0*1 4*1 5*1 7*1 [6 8] [3]"},
		step{leave(3), "[6 8] OK", "0*1 4*1 5*1 6*1 7*1 8*1 [] []"},
	)
	wantSteps(t, scene(),
		step{leave(1), "[4 5 7] OK", "0*1 4*1 5*1 7*1 [6 8] [2 3]"},
		step{leave(3), "[] OK", "0*1 4*1 5*1 7*1 [6 8] [2]"},
		step{leave(2), "[6 8] OK", "0*1 4*1 5*1 6*1 7*1 8*1 [] []"},
	)
}

// P15.2: while one holds it to write nobody is let in by who leaves.
func TestLeaveWhereOneHoldsItToWrite(t *testing.T) {
	for gone := 1; gone <= 4; gone++ {
		l := made(write(0, 5), write(1, 9), read(2, 8), write(3, 7), read(4, 6))
		want(t, l, leave(gone), "[] OK")
		wantUnchanged(t, l, leave(gone), "[] ErrNone")
		wantUnchanged(t, l, change(gone, 5), "[] ErrNone")
		wantUnchanged(t, l, leave(0), "[] ErrNone")
	}
}

// P15.2: one that left and comes again has waited from then on.
func TestWhoLeftComesAgain(t *testing.T) {
	wantSteps(t, made(write(0, 5), read(1, 5), read(2, 5), write(3, 4), write(4, 4)),
		step{leave(1), "[] OK", "write 0 [2] [3 4]"},
		step{read(1, 5), "false OK", "write 0 [2 1] [3 4]"},
		step{leave(3), "[] OK", "write 0 [2 1] [4]"},
		step{write(3, 4), "false OK", "write 0 [2 1] [4 3]"},
		step{leave(2), "[] OK", "write 0 [1] [4 3]"},
		step{write(2, 4), "false OK", "write 0 [1] [4 3 2]"},
		step{leave(4), "[] OK", "write 0 [1] [3 2]"},
		step{read(4, 5), "false OK", "write 0 [1 4] [3 2]"},
	)
}

// P15.2: one that waits to read changes: above all who wait to write it is let in, itself alone; else it waits on.
func TestChangeOfOneThatWaitsToRead(t *testing.T) {
	for prio := 1; prio <= 31; prio++ {
		l := made(read(0, 5), write(1, 7), write(2, 9), read(3, 9), read(4, 2), read(5, 5))
		if prio > 9 {
			wantSteps(t, l, step{change(5, prio), "[5] OK", "0*1 5*1 [3 4] [2 1]"})
			wantSteps(t, l, step{change(5, prio), "[] ErrNone", "0*1 5*1 [3 4] [2 1]"})
			continue
		}
		order := "[3 5 4]"
		if prio <= 2 { // of the priority 2, too: 4 came ahead of it
			order = "[3 4 5]"
		}
		wantSteps(t, l, step{change(5, prio), "[] OK", "0*1 " + order + " [2 1]"})
	}
}

// P15.2: one that waits to write changes: readers that are above all who wait to write then are let in.
func TestChangeOfOneThatWaitsToWrite(t *testing.T) {
	for _, x := range []struct {
		change call
		in     string
		stands string
	}{
		{change(1, 9), "[]", "0*1 [3 4 5] [1 2]"},
		{change(1, 31), "[]", "0*1 [3 4 5] [1 2]"},
		{change(1, 8), "[]", "0*1 [3 4 5] [1 2]"},
		{change(1, 7), "[3]", "0*1 3*1 [4 5] [1 2]"},
		{change(1, 6), "[3]", "0*1 3*1 [4 5] [1 2]"},
		{change(1, 5), "[3 4]", "0*1 3*1 4*1 [5] [1 2]"},
		{change(1, 4), "[3 4]", "0*1 3*1 4*1 [5] [1 2]"},
		{change(1, 3), "[3 4]", "0*1 3*1 4*1 [5] [2 1]"},
		{change(1, 1), "[3 4]", "0*1 3*1 4*1 [5] [2 1]"},
		{change(2, 4), "[]", "0*1 [3 4 5] [1 2]"},
		{change(2, 1), "[]", "0*1 [3 4 5] [1 2]"},
		{change(2, 9), "[]", "0*1 [3 4 5] [1 2]"},
		{change(2, 10), "[]", "0*1 [3 4 5] [2 1]"},
	} {
		l := made(read(0, 5), write(1, 9), write(2, 4), read(3, 8), read(4, 6), read(5, 4))
		wantSteps(t, l, step{x.change, x.in + " OK", x.stands})
	}
}

// P15.2: one waits to write, and many to read: its least priority lets in all above it.
func TestChangeLetsInManyOneBehindTheOther(t *testing.T) {
	l := made(read(0, 5), write(15, 31))
	for thread := 1; thread <= 14; thread++ {
		want(t, l, read(thread, 1+thread/2), "false OK")
	}
	wantSteps(t, l,
		step{change(15, 7), "[14] OK", "0*1 14*1 [12 13 10 11 8 9 6 7 4 5 2 3 1] [15]"},
		step{change(15, 5), "[12 13 10 11] OK", "0*1 10*1 11*1 12*1 13*1 14*1 [8 9 6 7 4 5 2 3 1] [15]"},
		step{change(15, 1), "[8 9 6 7 4 5 2 3] OK", "0*1 2*1 3*1 4*1 5*1 6*1 7*1 8*1 9*1 10*1 11*1 12*1 13*1 14*1 [1] [15]"},
		step{leave(15), "[1] OK", "0*1 1*1 2*1 3*1 4*1 5*1 6*1 7*1 8*1 9*1 10*1 11*1 12*1 13*1 14*1 [] []"},
	)
}

// P15.2: a change counts at the next unlock: who is first then goes first; and it has waited as long as before.
func TestChangeWhereOneHoldsItToWrite(t *testing.T) {
	scene := func() *rwlock.Lock {
		return made(write(0, 5), read(1, 5), read(2, 5), read(3, 5), write(4, 5), write(5, 5), write(6, 5))
	}
	for _, x := range []struct {
		change         call
		waits, in, end string
	}{
		{change(2, 5), "[1 2 3] [4 5 6]", "[4]", "write 4 [1 2 3] [5 6]"},
		{change(2, 6), "[2 1 3] [4 5 6]", "[2]", "2*1 [1 3] [4 5 6]"},
		{change(2, 4), "[1 3 2] [4 5 6]", "[4]", "write 4 [1 3 2] [5 6]"},
		{change(5, 5), "[1 2 3] [4 5 6]", "[4]", "write 4 [1 2 3] [5 6]"},
		{change(5, 6), "[1 2 3] [5 4 6]", "[5]", "write 5 [1 2 3] [4 6]"},
		{change(5, 4), "[1 2 3] [4 6 5]", "[4]", "write 4 [1 2 3] [6 5]"},
	} {
		wantSteps(t, scene(),
			step{x.change, "[] OK", "write 0 " + x.waits},
			step{unlock(0), x.in + " OK", x.end})
	}
}

// P15.2: there and back it stands where it stood.
func TestChangeThereAndBack(t *testing.T) {
	l := made(write(0, 5), read(3, 5), read(1, 5), read(2, 5), write(6, 5), write(4, 5), write(5, 5))
	was := l.Copy()
	for thread := 1; thread <= 6; thread++ {
		for prio := 1; prio <= 31; prio++ {
			want(t, l, change(thread, prio), "[] OK")
			wantSame(t, "there", l, was, prio == 5)
			want(t, l, change(thread, 5), "[] OK")
			wantStand(t, "back", l, "write 0 [3 1 2] [6 4 5]")
			wantSame(t, "back", l, was, true)
		}
	}
}

// P15.2: each of many leaves, the first, one between and the last; the others keep their places.
func TestLeaveOfEachOne(t *testing.T) {
	for gone := 1; gone <= 15; gone++ {
		for wanted, come := range map[string]func(thread, prio int) call{"read": read, "write": write} {
			l := made(write(0, 5))
			var others []int
			for thread := 1; thread <= 15; thread++ {
				want(t, l, come(thread, 1+(15-thread)/4), "false OK")
				if thread != gone {
					others = append(others, thread)
				}
			}
			text := fmt.Sprint("write 0 ", others, " []")
			if wanted == "write" {
				text = fmt.Sprint("write 0 [] ", others)
			}
			wantSteps(t, l, step{leave(gone), "[] OK", text})
		}
	}
}

// P15.2: what is done to one lock is nothing to another.
func TestTwoAreApart(t *testing.T) {
	a, b := made(), made()
	want(t, a, write(1, 5), "true OK")
	wantStand(t, "the other one", b, "free [] []")
	want(t, b, unlock(1), "[] ErrNone")
	want(t, b, read(1, 5), "true OK")
	want(t, a, read(2, 5), "false OK")
	want(t, b, leave(2), "[] ErrNone")
	want(t, b, change(2, 5), "[] ErrNone")
	want(t, b, write(2, 5), "false OK")
	want(t, a, unlock(1), "[2] OK")
	wantStand(t, "the one", a, "2*1 [] []")
	wantStand(t, "the other one", b, "1*1 [] [2]")
}
