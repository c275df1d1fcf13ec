package mqueue_test

import (
	"math"
	"testing"

	"metronome/api"
	"metronome/mqueue"
)

// scenes are queues of many kinds, of which no two are the same; the threads in them are 0 to 5.
func scenes(t *testing.T) []*mqueue.Queue {
	t.Helper()
	return []*mqueue.Queue{
		fresh(t, 1),
		fresh(t, 2),
		fresh(t, 32),
		fresh(t, 2, send(0, 5, 1, 1)),
		fresh(t, 2, send(0, 5, 1, 0)),
		fresh(t, 2, send(0, 5, 0, 1)),
		fresh(t, 2, send(0, 5, 1, 1), send(0, 5, 2, 1)),
		fresh(t, 2, send(0, 5, 2, 1), send(0, 5, 1, 1)),
		fresh(t, 1, send(0, 5, 1, 1), send(0, 5, 2, 2)),
		fresh(t, 1, send(0, 5, 1, 1), send(1, 5, 2, 2)),
		fresh(t, 1, receive(0, 5)),
		fresh(t, 1, receive(1, 5)),
		full(t),
		empty(t),
		some(t),
	}
}

// none are a nil one and a zero one.
func none() []*mqueue.Queue {
	return []*mqueue.Queue{nil, {}}
}

// wrongPassings are calls of Send and Receive with one or several of what may not be.
func wrongPassings() []call {
	var all []call
	for _, thread := range noThreads() {
		for _, prio := range []int{1, 5, 31, 0, thread} {
			all = append(all, receive(thread, prio), send(thread, prio, 7, 0), send(thread, prio, 7, 31), send(thread, prio, 7, 32), send(thread, prio, 7, thread))
		}
	}
	for _, thread := range []int{0, 1, 2, 3, 4, 5, 15} {
		for _, prio := range noPrios() {
			all = append(all, receive(thread, prio), send(thread, prio, 7, 0), send(thread, prio, 7, 31), send(thread, prio, 7, prio))
			if prio != 0 {
				all = append(all, send(thread, 1, 7, prio), send(thread, 31, 7, prio))
			}
		}
	}
	return all
}

// wrongGoings are calls of Leave and Change with what may not be.
func wrongGoings() []call {
	var all []call
	for _, thread := range noThreads() {
		all = append(all, leave(thread))
		for _, prio := range []int{1, 5, 31, 0, thread} {
			all = append(all, change(thread, prio))
		}
	}
	for _, prio := range noPrios() {
		for _, thread := range []int{0, 1, 2, 3, 4, 5, 15} {
			all = append(all, change(thread, prio))
		}
	}
	return all
}

// P18.1, P18.2, P18.3: ahead of whatever else could be told of the thread.
func TestWhatMayNotBeIsRefused(t *testing.T) {
	for _, q := range scenes(t) {
		for _, c := range wrongPassings() {
			wantUnchanged(t, q, c, refused("ErrArg"))
		}
		for _, c := range wrongGoings() {
			wantUnchanged(t, q, c, "ErrArg")
		}
	}
}

// P18.1, P18.2: one that waits, to send or to receive, also with another priority or message.
func TestWhoWaitsAlready(t *testing.T) {
	waiting := 0
	for _, q := range scenes(t) {
		for thread := range 16 {
			if _, is := q.Waiting(thread); !is {
				continue
			}
			waiting++
			for _, prio := range []int{1, 5, 9, 31} {
				wantUnchanged(t, q, receive(thread, prio), refused("ErrState"))
				for _, of := range []int{0, 5, 31} {
					wantUnchanged(t, q, send(thread, prio, math.MinInt64, of), refused("ErrState"))
				}
			}
		}
	}
	if waiting != 13 {
		t.Errorf("%d wait, want 13", waiting)
	}
}

// P18.3: one that does not wait, also if it sent or received what is there.
func TestWhoDoesNotWait(t *testing.T) {
	for _, q := range scenes(t) {
		for thread := range 16 {
			if _, is := q.Waiting(thread); is {
				continue
			}
			wantUnchanged(t, q, leave(thread), "ErrNone")
			for _, prio := range []int{1, 5, 9, 31} {
				wantUnchanged(t, q, change(thread, prio), "ErrNone")
			}
		}
	}
}

// P18.1, P18.2, P18.3, P18.4: a nil and a zero one refuse whatever they are given, and have nothing.
func TestNilAndZeroOnes(t *testing.T) {
	for _, q := range none() {
		for _, c := range append(wrongPassings(), send(0, 1, 7, 0), send(15, 31, 7, 31), send(1, 5, math.MaxInt64, 5), receive(0, 1), receive(15, 31)) {
			want(t, q, c, refused("ErrNil"))
		}
		for _, c := range append(wrongGoings(), leave(0), leave(15), change(0, 1), change(15, 31)) {
			want(t, q, c, "ErrNil")
		}
		wantStand(t, "none", q, "[] 0 [] []")
		if q.Len() != 0 || q.Room() != 0 || q.Full() || len(q.Senders()) != 0 || len(q.Receivers()) != 0 || q.Copy() != nil {
			t.Errorf("of none Len is %d, Room %d, Full %v, Copy %v", q.Len(), q.Room(), q.Full(), q.Copy())
		}
		for _, thread := range append(noThreads(), 0, 1, 15) {
			if toSend, is := q.Waiting(thread); toSend || is {
				t.Errorf("of none Waiting(%d) is %v, %v", thread, toSend, is)
			}
		}
		if q.All() == nil {
			t.Fatal("nobody can range over All of none")
		}
		for x := range q.All() {
			t.Errorf("of none All goes over %v", x)
		}
	}
}

// P18.1, P18.2: what was refused has not made anything of it.
func TestAZeroOneStaysZero(t *testing.T) {
	q := after(&mqueue.Queue{}, send(0, 5, 1, 1), receive(0, 5), send(-1, 0, 1, -1), leave(0), change(0, 1), receive(1, 5))
	for _, other := range none() {
		wantSame(t, "a zero one", q, other, true)
	}
	if q.Copy() != nil {
		t.Error("a zero one became one")
	}
}

// P18.4
func TestSameOfNilAndZeroOnes(t *testing.T) {
	for _, q := range none() {
		for _, other := range none() {
			wantSame(t, "none and none", q, other, true)
		}
		for _, one := range scenes(t) {
			wantSame(t, "none and one", q, one, false)
		}
	}
}

// P18.1: New that is refused makes none, which refuses whatever comes.
func TestWhatIsRefusedIsNone(t *testing.T) {
	for _, room := range []int{0, 33, math.MinInt, math.MaxInt} {
		q, err := mqueue.New(room)
		if err != api.ErrArg {
			t.Errorf("New(%d) is %s", room, errText(err))
		}
		want(t, q, send(0, 5, 1, 1), refused("ErrNil"))
		want(t, q, receive(0, 5), refused("ErrNil"))
	}
}
