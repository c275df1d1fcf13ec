package mqueue_test

import (
	"slices"
	"testing"

	"metronome/api"
	"metronome/mqueue"
)

// some is one with messages of several priorities, and one that waits to send.
func some(t *testing.T) *mqueue.Queue {
	t.Helper()
	return fresh(t, 5, send(0, 1, 1, 5), send(0, 1, 2, 31), send(0, 1, 3, 0), send(0, 1, 4, 5), send(0, 1, 5, 31), send(1, 7, 6, 9))
}

// ofSome is what All goes over of some.
func ofSome() []api.Message {
	return []api.Message{m(2, 31), m(5, 31), m(1, 5), m(4, 5), m(3, 0)}
}

func wantList(t *testing.T, what string, got, list []api.Message) {
	t.Helper()
	if !slices.Equal(got, list) {
		t.Errorf("%s: %v, want %v", what, got, list)
	}
}

// P18.4: in the order in which they are received, which changes nothing; what waits to be sent is not among them.
func TestAllGoesOverWhatReceiveTakes(t *testing.T) {
	q := some(t)
	wantList(t, "All", list(q), ofSome())
	wantSame(t, "behind All", q, some(t), true)
	want(t, q, leave(1), "OK")
	for _, one := range list(q) {
		want(t, q, receive(9, 1), "done "+text(one)+" -1 OK")
	}
	wantList(t, "All of none", list(q), nil)
}

// P18.4: it may be left at any time, and gone through again, the same one and a new one.
func TestAllMayBeLeftAndGoneThroughAgain(t *testing.T) {
	q := some(t)
	over := q.All()
	for most := range len(ofSome()) + 1 {
		var got []api.Message
		for x := range over {
			if len(got) == most {
				break
			}
			got = append(got, x)
		}
		wantList(t, "left early", got, ofSome()[:most])
		wantList(t, "again", slices.Collect(over), ofSome())
		wantList(t, "a new one", list(q), ofSome())
	}
	n := 0
	for range over {
		for range over {
			n++
		}
	}
	if n != 25 {
		t.Errorf("one within the other comes to %d, want 25", n)
	}
}

// P18.4: as they are when it begins: one that was had ahead of a change goes over what is there behind it.
func TestAllHadAheadOfAChange(t *testing.T) {
	for _, x := range []struct {
		change call
		behind []api.Message
	}{
		{receive(9, 1), []api.Message{m(5, 31), m(6, 9), m(1, 5), m(4, 5), m(3, 0)}},
		{leave(1), ofSome()},
		{change(1, 31), ofSome()},
		{send(2, 1, 7, 31), ofSome()},
		{send(1, 1, 7, 31), ofSome()},
	} {
		q := some(t)
		over := q.All()
		x.change.do(q)
		wantList(t, "behind "+x.change.name, slices.Collect(over), x.behind)
		wantList(t, "again", slices.Collect(over), x.behind)
		wantSame(t, "All changes nothing", q, after(some(t), x.change), true)
	}
}

// P18.4: each going over begins anew, though what is gone over was had once.
func TestAllBeginsAnewEachTime(t *testing.T) {
	q := fresh(t, 2)
	over := q.All()
	wantList(t, "nothing yet", slices.Collect(over), nil)
	after(q, send(0, 1, 1, 5))
	wantList(t, "sent", slices.Collect(over), []api.Message{m(1, 5)})
	after(q, send(0, 1, 2, 6))
	wantList(t, "sent again", slices.Collect(over), []api.Message{m(2, 6), m(1, 5)})
	for x := range over {
		want(t, q, receive(1, 1), "done "+text(x)+" -1 OK")
		wantList(t, "one within the other", slices.Collect(over), list(q))
	}
	wantList(t, "received", slices.Collect(over), nil)
}

// P18.4: what is sent and received by the way is not seen by it, but by the next one.
func TestAllWhileItIsChangedByTheWay(t *testing.T) {
	q := some(t)
	var got []api.Message
	for x := range q.All() {
		if len(got) == 0 {
			after(q, receive(9, 1), receive(9, 1), receive(9, 1), send(2, 1, 8, 31), send(2, 1, 9, 30))
		}
		got = append(got, x)
	}
	wantList(t, "changed by the way", got, ofSome())
	wantList(t, "the next one", list(q), []api.Message{m(8, 31), m(9, 30), m(1, 5), m(4, 5), m(3, 0)})
}

// P18.4: what was answered is the caller's: it neither changes with the queue, nor the queue with it.
func TestAnswersAreNobodyElses(t *testing.T) {
	q := full(t)
	for _, look := range []func(*mqueue.Queue) []int{(*mqueue.Queue).Senders, (*mqueue.Queue).Receivers} {
		threads := look(q)
		clear(threads[:cap(threads)])
		threads = look(empty(t))
		clear(threads[:cap(threads)])
	}
	for x := range q.All() {
		x.Value, x.Prio = 0, 0
	}
	got := list(q)
	clear(got[:cap(got)])
	wantSame(t, "behind it", q, full(t), true)
	senders := q.Senders()
	after(q, leave(2), change(3, 31), send(5, 31, 5, 5), receive(9, 1))
	if !slices.Equal(senders, []int{2, 4, 1, 3}) {
		t.Errorf("Senders became %v", senders)
	}
	e := empty(t)
	receivers := e.Receivers()
	after(e, leave(2), change(3, 31), receive(5, 31), send(9, 1, 1, 1))
	if !slices.Equal(receivers, []int{2, 4, 1, 3}) {
		t.Errorf("Receivers became %v", receivers)
	}
}

// P18.4: of those that wait none, one and many, and of those that do not.
func TestWaitingAndWhoWaits(t *testing.T) {
	for _, x := range []struct {
		q                *mqueue.Queue
		sends, receives  []int
		messages, isFull bool
	}{
		{fresh(t, 1), nil, nil, false, false},
		{fresh(t, 2, send(0, 5, 1, 1)), nil, nil, true, false},
		{fresh(t, 1, send(0, 5, 1, 1)), nil, nil, true, true},
		{fresh(t, 1, send(0, 5, 1, 1), send(0, 5, 1, 1)), []int{0}, nil, true, true},
		{fresh(t, 1, send(0, 5, 1, 1), send(15, 5, 1, 1)), []int{15}, nil, true, true},
		{fresh(t, 1, receive(0, 5)), nil, []int{0}, false, false},
		{fresh(t, 1, receive(15, 5)), nil, []int{15}, false, false},
		{full(t), []int{2, 4, 1, 3}, nil, true, true},
		{empty(t), nil, []int{2, 4, 1, 3}, false, false},
	} {
		if !slices.Equal(x.q.Senders(), x.sends) || !slices.Equal(x.q.Receivers(), x.receives) {
			t.Errorf("%s: %v send, %v receive", stand(x.q), x.q.Senders(), x.q.Receivers())
		}
		if (x.q.Len() > 0) != x.messages || x.q.Full() != x.isFull {
			t.Errorf("%s: Len is %d, Full %v", stand(x.q), x.q.Len(), x.q.Full())
		}
		for thread := range 16 {
			sends, receives := slices.Contains(x.sends, thread), slices.Contains(x.receives, thread)
			if toSend, is := x.q.Waiting(thread); toSend != sends || is != (sends || receives) {
				t.Errorf("%s: Waiting(%d) is %v, %v", stand(x.q), thread, toSend, is)
			}
		}
		for _, thread := range noThreads() {
			if toSend, is := x.q.Waiting(thread); toSend || is {
				t.Errorf("%s: Waiting(%d) is %v, %v", stand(x.q), thread, toSend, is)
			}
		}
	}
}

// P18.4
func TestLookingChangesNothing(t *testing.T) {
	for _, q := range scenes(t) {
		was, stands := q.Copy(), stand(q)
		for range 3 {
			q.Len()
			q.Room()
			q.Full()
			q.Senders()
			q.Receivers()
			q.Copy()
			for _, thread := range append(noThreads(), 0, 1, 2, 3, 4, 5, 15) {
				q.Waiting(thread)
			}
			for range q.All() {
			}
			mqueue.Same(q, was)
			mqueue.Same(was, q)
		}
		wantStand(t, "looked at", q, stands)
		wantSame(t, "looked at", q, was, true)
	}
}
