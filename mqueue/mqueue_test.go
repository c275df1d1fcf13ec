package mqueue_test

import (
	"fmt"
	"math"
	"slices"
	"strings"
	"testing"

	"metronome/api"
	"metronome/mqueue"
)

func errText(err api.Errno) string {
	names := []string{"OK", "ErrNil", "ErrArg", "ErrLong", "ErrBytes", "ErrFull", "ErrNone", "ErrState"}
	if int(err) >= 0 && int(err) < len(names) {
		return names[err]
	}
	return fmt.Sprint("error ", int(err))
}

func m(value int64, prio int) api.Message { return api.Message{Value: value, Prio: prio} }

// text is a message as a text: 7:31 is the value 7 with the priority 31.
func text(m api.Message) string { return fmt.Sprint(m.Value, ":", m.Prio) }

// noThreads are numbers that are no threads.
func noThreads() []int {
	return []int{-1, -2, -15, -16, -17, 16, 17, 31, 32, 256, 257, 1 << 32, 1<<32 + 1, -1 << 32, math.MinInt, math.MinInt + 1, math.MaxInt}
}

// noPrios are numbers that are no priorities of threads; but for 0 they are none of messages.
func noPrios() []int {
	return []int{0, -1, -2, -5, -31, -32, 32, 33, 63, 64, 69, 256, 261, 1 << 32, 1<<32 + 5, -1 << 32, math.MinInt, math.MinInt + 5, math.MaxInt}
}

// call is something that is done to a queue, and tells the answer as a text.
type call struct {
	name string
	do   func(q *mqueue.Queue) string
}

// passing is a call of Send or Receive: "done 7:31 4 OK", "waits 7:31 -1 OK".
func passing(name string, do func(q *mqueue.Queue) (api.Passed, api.Errno)) call {
	return call{name, func(q *mqueue.Queue) string {
		p, err := do(q)
		done := "waits"
		if p.Done {
			done = "done"
		}
		return fmt.Sprint(done, " ", text(p.Message), " ", p.Other, " ", errText(err))
	}}
}

// refused is what Send and Receive answer beside an error.
func refused(err string) string { return "waits 0:0 0 " + err }

func send(thread, prio int, value int64, of int) call {
	return passing(fmt.Sprintf("Send(%d, %d, %d:%d)", thread, prio, value, of), func(q *mqueue.Queue) (api.Passed, api.Errno) {
		return q.Send(thread, prio, m(value, of))
	})
}

func receive(thread, prio int) call {
	return passing(fmt.Sprintf("Receive(%d, %d)", thread, prio), func(q *mqueue.Queue) (api.Passed, api.Errno) {
		return q.Receive(thread, prio)
	})
}

func leave(thread int) call {
	return call{fmt.Sprintf("Leave(%d)", thread), func(q *mqueue.Queue) string { return errText(q.Leave(thread)) }}
}

func change(thread, prio int) call {
	return call{fmt.Sprintf("Change(%d, %d)", thread, prio), func(q *mqueue.Queue) string { return errText(q.Change(thread, prio)) }}
}

// fresh is a new queue with that room, to which calls were done, whatever they answered.
func fresh(t *testing.T, room int, calls ...call) *mqueue.Queue {
	t.Helper()
	q, err := mqueue.New(room)
	if q == nil || err != api.OK {
		t.Fatalf("New(%d) is %v, %s", room, q, errText(err))
	}
	return after(q, calls...)
}

// after does calls to one, whatever they answer.
func after(q *mqueue.Queue, calls ...call) *mqueue.Queue {
	for _, c := range calls {
		c.do(q)
	}
	return q
}

// list is what All goes over.
func list(q *mqueue.Queue) []api.Message {
	return slices.AppendSeq([]api.Message{}, q.All())
}

// toSend is what one that waits to send has to send: what a copy has more, in which it waits alone, when it is let in.
func toSend(q *mqueue.Queue, thread int) string {
	c := q.Copy()
	for _, other := range q.Senders() {
		if other != thread {
			c.Leave(other)
		}
	}
	c.Receive((thread+1)%16, 1)
	more := list(c)
	for _, had := range list(q)[1:] {
		at := slices.Index(more, had)
		if at < 0 {
			return "nothing, and " + text(had) + " is gone"
		}
		more = slices.Delete(more, at, at+1)
	}
	if len(more) != 1 {
		return fmt.Sprint(more)
	}
	return text(more[0])
}

// stand is how a queue stands, as a text: the messages, the room, who waits to send, with what, and who waits to receive.
func stand(q *mqueue.Queue) string {
	messages, senders := []string{}, []string{}
	for _, m := range list(q) {
		messages = append(messages, text(m))
	}
	for _, thread := range q.Senders() {
		senders = append(senders, fmt.Sprint(thread, "=", toSend(q, thread)))
	}
	return fmt.Sprint(messages, " ", q.Room(), " ", senders, " ", append([]int{}, q.Receivers()...))
}

// want does a call, and asks for that answer.
func want(t *testing.T, q *mqueue.Queue, c call, answer string) {
	t.Helper()
	if got := c.do(q); got != answer {
		t.Errorf("%s is %s, want %s", c.name, got, answer)
	}
}

// wantStand asks for how it stands, that all looks tell of one queue, and that nobody waits for what is there.
func wantStand(t *testing.T, what string, q *mqueue.Queue, stands string) {
	t.Helper()
	if got := stand(q); got != stands {
		t.Errorf("%s: it stands as %s, want %s", what, got, stands)
	}
	messages, senders, receivers := list(q), q.Senders(), q.Receivers()
	if q.Len() != len(messages) || q.Full() != (q.Copy() != nil && q.Room() == 0) {
		t.Errorf("%s: %s, and Len is %d, Full %v", what, stand(q), q.Len(), q.Full())
	}
	if len(senders) > 0 && !q.Full() || len(receivers) > 0 && len(messages) > 0 {
		t.Errorf("%s: %s, and somebody waits for what is there", what, stand(q))
	}
	for thread := range 16 {
		sends, receives := slices.Contains(senders, thread), slices.Contains(receivers, thread)
		if toSend, is := q.Waiting(thread); toSend != sends || is != (sends || receives) || sends && receives {
			t.Errorf("%s: %s, and Waiting(%d) is %v, %v", what, stand(q), thread, toSend, is)
		}
	}
}

func wantSame(t *testing.T, what string, a, b *mqueue.Queue, is bool) {
	t.Helper()
	if mqueue.Same(a, b) != is || mqueue.Same(b, a) != is {
		t.Errorf("%s: Same of %s and %s is %v, %v, want %v", what, stand(a), stand(b), mqueue.Same(a, b), mqueue.Same(b, a), is)
	}
}

// wantUnchanged does a call, asks for that answer, and that nothing has changed.
func wantUnchanged(t *testing.T, q *mqueue.Queue, c call, answer string) {
	t.Helper()
	was, stands := q.Copy(), stand(q)
	want(t, q, c, answer)
	wantStand(t, c.name, q, stands)
	wantSame(t, c.name, q, was, true)
}

// step is a call, its answer, and how the queue stands behind it.
type step struct {
	call   call
	answer string
	stands string
}

func wantSteps(t *testing.T, q *mqueue.Queue, steps ...step) {
	t.Helper()
	for i, s := range steps {
		want(t, q, s.call, s.answer)
		wantStand(t, fmt.Sprint("step ", i, ", ", s.call.name), q, s.stands)
	}
}

// P18.1, P18.2, P18.3, P18.4
func TestTheChaptersQueue(t *testing.T) {
	q := fresh(t, 1)
	wantSteps(t, q,
		step{receive(1, 5), "waits 0:0 -1 OK", "[] 1 [] [1]"},
		step{receive(2, 9), "waits 0:0 -1 OK", "[] 1 [] [2 1]"},
		step{send(3, 1, 7, 0), "done 7:0 2 OK", "[] 1 [] [1]"},
		step{leave(1), "OK", "[] 1 [] []"},
		step{send(3, 1, 7, 0), "done 7:0 -1 OK", "[7:0] 0 [] []"},
		step{send(4, 1, 8, 31), "waits 8:31 -1 OK", "[7:0] 0 [4=8:31] []"},
		step{send(4, 1, 8, 0), refused("ErrState"), "[7:0] 0 [4=8:31] []"},
		step{send(5, 1, 9, 32), refused("ErrArg"), "[7:0] 0 [4=8:31] []"},
		step{receive(1, 5), "done 7:0 4 OK", "[8:31] 0 [] []"},
		step{receive(1, 5), "done 8:31 -1 OK", "[] 1 [] []"},
	)
	if q.Len() != 0 || q.Room() != 1 {
		t.Errorf("Len is %d, Room %d", q.Len(), q.Room())
	}
}

// P18.1: each room that may be, and none else.
func TestNew(t *testing.T) {
	for room := 1; room <= 32; room++ {
		wantStand(t, "New", fresh(t, room), fmt.Sprint("[] ", room, " [] []"))
	}
	for _, room := range []int{0, -1, -2, -31, -32, -33, 33, 34, 64, 256, 257, 1 << 32, 1<<32 + 1, 1<<32 + 32, -1 << 32, math.MinInt, math.MinInt + 1, math.MaxInt} {
		if q, err := mqueue.New(room); q != nil || err != api.ErrArg {
			t.Errorf("New(%d) is %v, %s", room, q, errText(err))
		}
	}
}

// P18.1, P18.4: as many messages as there is room for, and one more; each thread and priority may send.
func TestSendTillItIsFull(t *testing.T) {
	for room := 1; room <= 32; room++ {
		q := fresh(t, room)
		for n := range room {
			want(t, q, send(n%16, 1+n%31, int64(n), 5), fmt.Sprintf("done %d:5 -1 OK", n))
			if q.Len() != n+1 || q.Room() != room-n-1 || q.Full() != (n+1 == room) {
				t.Errorf("of %d are %d in it: Len %d, Room %d, Full %v", room, n+1, q.Len(), q.Room(), q.Full())
			}
		}
		want(t, q, send(3, 5, 100, 5), "waits 100:5 -1 OK")
		if q.Len() != room || q.Room() != 0 || !q.Full() || fmt.Sprint(q.Senders()) != "[3]" {
			t.Errorf("full is %s", stand(q))
		}
		for n := range room {
			other := -1
			if n == 0 {
				other = 3
			}
			want(t, q, receive(15, 31), fmt.Sprintf("done %d:5 %d OK", n, other))
		}
		want(t, q, receive(15, 31), "done 100:5 -1 OK")
		wantStand(t, "all is received", q, fmt.Sprint("[] ", room, " [] []"))
	}
}

// P18.1, P18.2: each priority of a message that may be, each thread's that may be, and the values at the ends.
func TestWhatMayBeSent(t *testing.T) {
	for of := 0; of <= 31; of++ {
		for _, value := range []int64{0, 1, -1, 1 << 32, math.MinInt64, math.MaxInt64} {
			for _, thread := range []int{0, 1, 15} {
				for _, prio := range []int{1, 5, 31} {
					one := text(m(value, of))
					wantSteps(t, fresh(t, 1),
						step{send(thread, prio, value, of), "done " + one + " -1 OK", "[" + one + "] 0 [] []"},
						step{send(thread, prio, value, of), "waits " + one + " -1 OK", fmt.Sprintf("[%s] 0 [%d=%s] []", one, thread, one)},
						step{receive(14, prio), fmt.Sprintf("done %s %d OK", one, thread), "[" + one + "] 0 [] []"},
						step{receive(thread, prio), "done " + one + " -1 OK", "[] 1 [] []"},
						step{receive(thread, prio), "waits 0:0 -1 OK", fmt.Sprintf("[] 1 [] [%d]", thread)},
						step{send(14, prio, value, of), fmt.Sprintf("done %s %d OK", one, thread), "[] 1 [] []"},
					)
				}
			}
		}
	}
}

// orderOf are messages' priorities, and the values in the order in which they stand, where the first one sent is 0.
type orderOf struct {
	name  string
	prios []int
	stand []int64
}

func orders() []orderOf {
	return []orderOf{
		{"of one priority", []int{3, 3, 3, 3}, []int64{0, 1, 2, 3}},
		{"of the least one", []int{0, 0, 0}, []int64{0, 1, 2}},
		{"of the greatest one", []int{31, 31, 31}, []int64{0, 1, 2}},
		{"rising", []int{0, 1, 2, 30, 31}, []int64{4, 3, 2, 1, 0}},
		{"falling", []int{31, 30, 2, 1, 0}, []int64{0, 1, 2, 3, 4}},
		{"mixed", []int{5, 31, 0, 5, 6, 4, 31}, []int64{1, 6, 4, 0, 3, 5, 2}},
		{"by turns", []int{1, 3, 1, 3}, []int64{1, 3, 0, 2}},
		{"two of each, rising", []int{1, 1, 2, 2, 3, 3}, []int64{4, 5, 2, 3, 0, 1}},
		{"a great one behind many", []int{2, 2, 2, 9}, []int64{3, 0, 1, 2}},
		{"a small one ahead of many", []int{1, 2, 2, 2}, []int64{1, 2, 3, 0}},
	}
}

// P18.1, P18.2: by falling priorities, of one priority who came first ahead; threads' priorities are nothing to it.
func TestTheOrderOfMessages(t *testing.T) {
	for _, x := range orders() {
		for _, by := range []func(i int) int{func(i int) int { return 5 }, func(i int) int { return 1 + i }, func(i int) int { return 31 - i }} {
			q := fresh(t, 32)
			for i, of := range x.prios {
				want(t, q, send(i, by(i), int64(i), of), fmt.Sprintf("done %d:%d -1 OK", i, of))
			}
			var stood []int64
			for _, m := range list(q) {
				stood = append(stood, m.Value)
			}
			if !slices.Equal(stood, x.stand) {
				t.Errorf("%s: they stand as %v, want %v", x.name, stood, x.stand)
			}
			for _, value := range x.stand {
				want(t, q, receive(0, 1), fmt.Sprintf("done %d:%d -1 OK", value, x.prios[value]))
			}
		}
	}
}

// P18.1: all 32 priorities, put in from both ends.
func TestTheOrderOfAllPriorities(t *testing.T) {
	q := fresh(t, 32)
	for i := range 16 {
		after(q, send(0, 1, 1, i), send(0, 1, 1, 31-i))
	}
	for of := 31; of >= 0; of-- {
		want(t, q, receive(1, 1), fmt.Sprintf("done 1:%d -1 OK", of))
	}
}

// P18.1: what is sent where somebody waits to receive never stands in the queue, and the first one of the order has it.
func TestWhoGetsWhatIsSent(t *testing.T) {
	wantSteps(t, fresh(t, 2, receive(3, 5), receive(1, 5), receive(2, 9), receive(0, 1), receive(15, 31), receive(4, 9)),
		step{send(9, 1, 10, 0), "done 10:0 15 OK", "[] 2 [] [2 4 3 1 0]"},
		step{send(9, 31, 11, 31), "done 11:31 2 OK", "[] 2 [] [4 3 1 0]"},
		step{send(15, 31, 12, 31), "done 12:31 4 OK", "[] 2 [] [3 1 0]"},
		step{receive(2, 5), "waits 0:0 -1 OK", "[] 2 [] [3 1 2 0]"},
		step{send(9, 1, 13, 5), "done 13:5 3 OK", "[] 2 [] [1 2 0]"},
		step{send(9, 1, 13, 5), "done 13:5 1 OK", "[] 2 [] [2 0]"},
		step{send(9, 1, 14, 5), "done 14:5 2 OK", "[] 2 [] [0]"},
		step{send(2, 1, 15, 5), "done 15:5 0 OK", "[] 2 [] []"},
		step{send(2, 1, 16, 5), "done 16:5 -1 OK", "[16:5] 1 [] []"},
	)
}

// P18.2: who is let in is the first one of the order of threads, whatever the messages are; each stands where its
// message's priority lets it, behind those of its own that came into the queue ahead.
func TestWhoIsLetIn(t *testing.T) {
	wantSteps(t, fresh(t, 3, send(0, 1, 1, 5), send(0, 1, 2, 9), send(0, 1, 3, 2)),
		step{send(1, 5, 10, 31), "waits 10:31 -1 OK", "[2:9 1:5 3:2] 0 [1=10:31] []"},
		step{send(2, 9, 11, 0), "waits 11:0 -1 OK", "[2:9 1:5 3:2] 0 [2=11:0 1=10:31] []"},
		step{send(3, 9, 12, 5), "waits 12:5 -1 OK", "[2:9 1:5 3:2] 0 [2=11:0 3=12:5 1=10:31] []"},
		step{send(4, 5, 13, 31), "waits 13:31 -1 OK", "[2:9 1:5 3:2] 0 [2=11:0 3=12:5 1=10:31 4=13:31] []"},
		step{receive(9, 1), "done 2:9 2 OK", "[1:5 3:2 11:0] 0 [3=12:5 1=10:31 4=13:31] []"},
		step{send(2, 31, 14, 2), "waits 14:2 -1 OK", "[1:5 3:2 11:0] 0 [2=14:2 3=12:5 1=10:31 4=13:31] []"},
		step{receive(9, 1), "done 1:5 2 OK", "[3:2 14:2 11:0] 0 [3=12:5 1=10:31 4=13:31] []"},
		step{receive(9, 1), "done 3:2 3 OK", "[12:5 14:2 11:0] 0 [1=10:31 4=13:31] []"},
		step{receive(9, 1), "done 12:5 1 OK", "[10:31 14:2 11:0] 0 [4=13:31] []"},
		step{receive(9, 1), "done 10:31 4 OK", "[13:31 14:2 11:0] 0 [] []"},
		step{receive(9, 1), "done 13:31 -1 OK", "[14:2 11:0] 1 [] []"},
		step{receive(9, 1), "done 14:2 -1 OK", "[11:0] 2 [] []"},
		step{receive(9, 1), "done 11:0 -1 OK", "[] 3 [] []"},
		step{receive(9, 1), "waits 0:0 -1 OK", "[] 3 [] [9]"},
	)
}

// P18.2: the one that is taken was in the queue, though what waits to be sent is ahead of all by its priority.
func TestWhatWaitsToBeSentIsNotYetInTheQueue(t *testing.T) {
	for of := 0; of <= 31; of++ {
		for room := 1; room <= 3; room++ {
			q := fresh(t, room)
			for n := range room {
				after(q, send(0, 1, int64(n), 4))
			}
			after(q, send(1, 31, 50, of))
			want(t, q, receive(2, 1), "done 0:4 1 OK")
			var left []api.Message
			for n := 1; n < room; n++ {
				left = append(left, m(int64(n), 4))
			}
			if of > 4 {
				left = slices.Insert(left, 0, m(50, of))
			} else {
				left = append(left, m(50, of))
			}
			if !slices.Equal(list(q), left) {
				t.Errorf("room %d: %v, want %v", room, list(q), left)
			}
		}
	}
}

// P18.1, P18.2: of one priority the messages of those that waited to send come behind those that came into the queue
// while they waited, for it is then that they come into it.
func TestWhoIsLetInComesBehindThoseInTheQueue(t *testing.T) {
	wantSteps(t, fresh(t, 2, send(0, 1, 1, 5), send(0, 1, 2, 5), send(3, 1, 30, 5), send(4, 2, 40, 5)),
		step{receive(9, 1), "done 1:5 4 OK", "[2:5 40:5] 0 [3=30:5] []"},
		step{receive(9, 1), "done 2:5 3 OK", "[40:5 30:5] 0 [] []"},
		step{receive(9, 1), "done 40:5 -1 OK", "[30:5] 1 [] []"},
		step{send(5, 1, 50, 5), "done 50:5 -1 OK", "[30:5 50:5] 0 [] []"},
	)
}

// P18.1, P18.2: a thread that waits neither sends nor receives; when it waits no more, it does.
func TestAThreadThatWaitsDoesNothingElse(t *testing.T) {
	q := fresh(t, 1, send(0, 5, 1, 1), send(0, 5, 2, 2))
	for _, prio := range []int{1, 5, 31} {
		wantUnchanged(t, q, send(0, prio, 9, 9), refused("ErrState"))
		wantUnchanged(t, q, receive(0, prio), refused("ErrState"))
	}
	wantSteps(t, q,
		step{receive(1, 5), "done 1:1 0 OK", "[2:2] 0 [] []"},
		step{send(0, 5, 3, 3), "waits 3:3 -1 OK", "[2:2] 0 [0=3:3] []"},
		step{leave(0), "OK", "[2:2] 0 [] []"},
		step{receive(0, 5), "done 2:2 -1 OK", "[] 1 [] []"},
		step{receive(0, 5), "waits 0:0 -1 OK", "[] 1 [] [0]"},
	)
	for _, prio := range []int{1, 5, 31} {
		wantUnchanged(t, q, send(0, prio, 9, 9), refused("ErrState"))
		wantUnchanged(t, q, receive(0, prio), refused("ErrState"))
	}
	wantSteps(t, q,
		step{send(1, 5, 4, 4), "done 4:4 0 OK", "[] 1 [] []"},
		step{receive(0, 5), "waits 0:0 -1 OK", "[] 1 [] [0]"},
		step{leave(0), "OK", "[] 1 [] []"},
		step{send(0, 5, 5, 5), "done 5:5 -1 OK", "[5:5] 0 [] []"},
	)
}

// P18.1, P18.2, P18.4: as many that wait as there are threads.
func TestAllThreadsWait(t *testing.T) {
	senders, receivers := fresh(t, 1, send(0, 1, 100, 0)), fresh(t, 1)
	var order []string
	for thread := range 16 {
		want(t, senders, send(thread, 31-thread, int64(thread), thread), fmt.Sprintf("waits %d:%d -1 OK", thread, thread))
		want(t, receivers, receive(thread, 31-thread), "waits 0:0 -1 OK")
		order = append(order, fmt.Sprint(thread))
	}
	if all := "[" + strings.Join(order, " ") + "]"; fmt.Sprint(senders.Senders()) != all || fmt.Sprint(receivers.Receivers()) != all {
		t.Errorf("%v send, %v receive", senders.Senders(), receivers.Receivers())
	}
	for thread := range 16 {
		wantUnchanged(t, senders, send(thread, 1, 1, 1), refused("ErrState"))
		wantUnchanged(t, senders, receive(thread, 1), refused("ErrState"))
		wantUnchanged(t, receivers, send(thread, 1, 1, 1), refused("ErrState"))
		wantUnchanged(t, receivers, receive(thread, 1), refused("ErrState"))
	}
	want(t, senders, leave(15), "OK")
	want(t, senders, receive(15, 1), "done 100:0 0 OK")
	for thread := 1; thread < 15; thread++ {
		want(t, senders, receive(15, 1), fmt.Sprintf("done %d:%d %d OK", thread-1, thread-1, thread))
	}
	want(t, senders, receive(15, 1), "done 14:14 -1 OK")
	wantStand(t, "all are let in", senders, "[] 1 [] []")
	want(t, receivers, leave(15), "OK")
	for thread := range 15 {
		want(t, receivers, send(15, 1, 7, 7), fmt.Sprintf("done 7:7 %d OK", thread))
	}
	wantStand(t, "all have got", receivers, "[] 1 [] []")
}
