package mqueue_test

import (
	"fmt"
	"testing"

	"metronome/mqueue"
)

// full is one with room for 2 messages, and four that wait to send, of two priorities.
func full(t *testing.T) *mqueue.Queue {
	t.Helper()
	return fresh(t, 2, send(0, 1, 1, 4), send(0, 1, 2, 4), send(1, 5, 10, 0), send(2, 9, 20, 31), send(3, 5, 30, 4), send(4, 9, 40, 4))
}

// empty is one with room for 2 messages, and four that wait to receive, of two priorities.
func empty(t *testing.T) *mqueue.Queue {
	t.Helper()
	return fresh(t, 2, receive(1, 5), receive(2, 9), receive(3, 5), receive(4, 9))
}

// P18.3: each of those that wait to send; its message is gone with it, and the others stay in their order, with theirs.
func TestASenderLeaves(t *testing.T) {
	wantStand(t, "full", full(t), "[1:4 2:4] 0 [2=20:31 4=40:4 1=10:0 3=30:4] []")
	for _, x := range []struct {
		thread int
		stands string
	}{
		{1, "[1:4 2:4] 0 [2=20:31 4=40:4 3=30:4] []"},
		{2, "[1:4 2:4] 0 [4=40:4 1=10:0 3=30:4] []"},
		{3, "[1:4 2:4] 0 [2=20:31 4=40:4 1=10:0] []"},
		{4, "[1:4 2:4] 0 [2=20:31 1=10:0 3=30:4] []"},
	} {
		q := full(t)
		wantSteps(t, q, step{leave(x.thread), "OK", x.stands})
		wantUnchanged(t, q, leave(x.thread), "ErrNone")
		wantUnchanged(t, q, change(x.thread, 5), "ErrNone")
	}
	wantSteps(t, full(t),
		step{leave(2), "OK", "[1:4 2:4] 0 [4=40:4 1=10:0 3=30:4] []"},
		step{leave(4), "OK", "[1:4 2:4] 0 [1=10:0 3=30:4] []"},
		step{receive(9, 1), "done 1:4 1 OK", "[2:4 10:0] 0 [3=30:4] []"},
		step{leave(3), "OK", "[2:4 10:0] 0 [] []"},
		step{receive(9, 1), "done 2:4 -1 OK", "[10:0] 1 [] []"},
		step{receive(9, 1), "done 10:0 -1 OK", "[] 2 [] []"},
		step{receive(9, 1), "waits 0:0 -1 OK", "[] 2 [] [9]"},
	)
}

// P18.3: one that left and sends again waits behind the others, and what it sends then is what it sends.
func TestASenderLeavesAndSendsAgain(t *testing.T) {
	wantSteps(t, full(t),
		step{leave(2), "OK", "[1:4 2:4] 0 [4=40:4 1=10:0 3=30:4] []"},
		step{send(2, 9, 21, 7), "waits 21:7 -1 OK", "[1:4 2:4] 0 [4=40:4 2=21:7 1=10:0 3=30:4] []"},
		step{leave(1), "OK", "[1:4 2:4] 0 [4=40:4 2=21:7 3=30:4] []"},
		step{receive(1, 1), "done 1:4 4 OK", "[2:4 40:4] 0 [2=21:7 3=30:4] []"},
		step{receive(1, 1), "done 2:4 2 OK", "[21:7 40:4] 0 [3=30:4] []"},
	)
}

// P18.3: each of those that wait to receive.
func TestAReceiverLeaves(t *testing.T) {
	wantStand(t, "empty", empty(t), "[] 2 [] [2 4 1 3]")
	for _, x := range []struct {
		thread int
		stands string
	}{
		{1, "[] 2 [] [2 4 3]"},
		{2, "[] 2 [] [4 1 3]"},
		{3, "[] 2 [] [2 4 1]"},
		{4, "[] 2 [] [2 1 3]"},
	} {
		q := empty(t)
		wantSteps(t, q, step{leave(x.thread), "OK", x.stands})
		wantUnchanged(t, q, leave(x.thread), "ErrNone")
		wantUnchanged(t, q, change(x.thread, 5), "ErrNone")
	}
	wantSteps(t, empty(t),
		step{leave(2), "OK", "[] 2 [] [4 1 3]"},
		step{send(9, 1, 5, 5), "done 5:5 4 OK", "[] 2 [] [1 3]"},
		step{receive(2, 5), "waits 0:0 -1 OK", "[] 2 [] [1 3 2]"},
		step{leave(1), "OK", "[] 2 [] [3 2]"},
		step{leave(3), "OK", "[] 2 [] [2]"},
		step{leave(2), "OK", "[] 2 [] []"},
		step{send(9, 1, 6, 6), "done 6:6 -1 OK", "[6:6] 1 [] []"},
	)
}

// P18.3: a sender's priority, up, down and back: it has waited as long as ahead, and its message stays its own.
func TestASenderChanges(t *testing.T) {
	wantSteps(t, full(t),
		step{change(1, 9), "OK", "[1:4 2:4] 0 [1=10:0 2=20:31 4=40:4 3=30:4] []"},
		step{change(3, 9), "OK", "[1:4 2:4] 0 [1=10:0 2=20:31 3=30:4 4=40:4] []"},
		step{change(2, 5), "OK", "[1:4 2:4] 0 [1=10:0 3=30:4 4=40:4 2=20:31] []"},
		step{change(2, 5), "OK", "[1:4 2:4] 0 [1=10:0 3=30:4 4=40:4 2=20:31] []"},
		step{change(4, 31), "OK", "[1:4 2:4] 0 [4=40:4 1=10:0 3=30:4 2=20:31] []"},
		step{change(1, 1), "OK", "[1:4 2:4] 0 [4=40:4 3=30:4 2=20:31 1=10:0] []"},
		step{change(1, 5), "OK", "[1:4 2:4] 0 [4=40:4 3=30:4 1=10:0 2=20:31] []"},
		step{receive(9, 1), "done 1:4 4 OK", "[2:4 40:4] 0 [3=30:4 1=10:0 2=20:31] []"},
		step{change(2, 6), "OK", "[2:4 40:4] 0 [3=30:4 2=20:31 1=10:0] []"},
		step{receive(9, 1), "done 2:4 3 OK", "[40:4 30:4] 0 [2=20:31 1=10:0] []"},
		step{receive(9, 1), "done 40:4 2 OK", "[20:31 30:4] 0 [1=10:0] []"},
	)
}

// P18.3: a receiver's priority, in the same ways.
func TestAReceiverChanges(t *testing.T) {
	wantSteps(t, empty(t),
		step{change(1, 9), "OK", "[] 2 [] [1 2 4 3]"},
		step{change(3, 9), "OK", "[] 2 [] [1 2 3 4]"},
		step{change(2, 5), "OK", "[] 2 [] [1 3 4 2]"},
		step{change(4, 31), "OK", "[] 2 [] [4 1 3 2]"},
		step{change(1, 1), "OK", "[] 2 [] [4 3 2 1]"},
		step{change(1, 5), "OK", "[] 2 [] [4 3 1 2]"},
		step{send(9, 1, 5, 5), "done 5:5 4 OK", "[] 2 [] [3 1 2]"},
		step{change(2, 10), "OK", "[] 2 [] [2 3 1]"},
		step{send(9, 1, 6, 6), "done 6:6 2 OK", "[] 2 [] [3 1]"},
	)
}

// P18.3: each priority that may be is taken, of the first thread and of the last one.
func TestEachPriorityThatMayBe(t *testing.T) {
	for prio := 1; prio <= 31; prio++ {
		for _, x := range []struct {
			q       *mqueue.Queue
			falling string
			order   []string
		}{
			{fresh(t, 1, send(5, 1, 1, 1), send(15, 16, 2, 2), send(0, 16, 3, 3)), "[1:1] 0 [15=2:2 0=3:3] []", []string{"[1:1] 0 [0=3:3 15=2:2] []", "[1:1] 0 [15=2:2 0=3:3] []"}},
			{fresh(t, 1, receive(15, 16), receive(0, 16)), "[] 1 [] [15 0]", []string{"[] 1 [] [0 15]", "[] 1 [] [15 0]"}},
		} {
			wantStand(t, "ahead", x.q, x.falling)
			first := x.q.Copy()
			stands := x.order[1]
			if prio < 16 {
				stands = x.order[0]
			}
			wantSteps(t, first, step{change(15, prio), "OK", stands})
			stands = x.order[1]
			if prio > 16 {
				stands = x.order[0]
			}
			wantSteps(t, x.q, step{change(0, prio), "OK", stands})
		}
	}
}

// P18.3: Change and Leave do nothing to the messages, though these have priorities, too.
func TestWhoWaitsIsNothingToTheMessages(t *testing.T) {
	q := fresh(t, 4, send(1, 1, 1, 3), send(1, 1, 2, 5), send(1, 1, 3, 3), send(1, 1, 4, 5), send(1, 1, 5, 31), send(2, 31, 6, 0))
	for _, c := range []call{change(1, 31), change(2, 1), leave(2), leave(1)} {
		want(t, q, c, "OK")
		if got := fmt.Sprint(list(q)); got != "[{2 5} {4 5} {1 3} {3 3}]" {
			t.Errorf("behind %s there are %s", c.name, got)
		}
	}
}
