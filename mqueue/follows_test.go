package mqueue_test

import (
	"fmt"
	"math/rand"
	"slices"
	"strings"
	"testing"

	"metronome/api"
	"metronome/mqueue"
)

// held is a message that is in the queue, and when it came into it.
type held struct {
	m    api.Message
	came int
}

// waiter is one that waits, and since when.
type waiter struct {
	thread, prio int
	sends        bool
	m            api.Message
	came         int
}

// model is a queue by the chapter's words alone: what it has stands in no order, but knows when it came.
type model struct {
	room, now int
	messages  []held
	waiting   []waiter
}

func (d *model) copy() *model {
	return &model{room: d.room, now: d.now, messages: slices.Clone(d.messages), waiting: slices.Clone(d.waiting)}
}

// inOrder are the messages, the first one ahead.
func (d *model) inOrder() []held {
	sorted := slices.Clone(d.messages)
	slices.SortFunc(sorted, func(a, b held) int {
		if a.m.Prio != b.m.Prio {
			return b.m.Prio - a.m.Prio
		}
		return a.came - b.came
	})
	return sorted
}

// those are who waits to send, or to receive, the first one ahead.
func (d *model) those(send bool) []waiter {
	sorted := slices.DeleteFunc(slices.Clone(d.waiting), func(w waiter) bool { return w.sends != send })
	slices.SortFunc(sorted, func(a, b waiter) int {
		if a.prio != b.prio {
			return b.prio - a.prio
		}
		return a.came - b.came
	})
	return sorted
}

func (d *model) waits(thread int) bool {
	return slices.ContainsFunc(d.waiting, func(w waiter) bool { return w.thread == thread })
}

func (d *model) drop(thread int) {
	d.waiting = slices.DeleteFunc(d.waiting, func(w waiter) bool { return w.thread == thread })
}

func (d *model) put(m api.Message) {
	d.now++
	d.messages = append(d.messages, held{m, d.now})
}

func (d *model) wait(w waiter) {
	d.now++
	w.came = d.now
	d.waiting = append(d.waiting, w)
}

func within(n, least, most int) bool { return n >= least && n <= most }

func (d *model) send(thread, prio int, m api.Message) string {
	switch {
	case !within(thread, 0, 15) || !within(prio, 1, 31) || !within(m.Prio, 0, 31):
		return refused("ErrArg")
	case d.waits(thread):
		return refused("ErrState")
	}
	if receivers := d.those(false); len(receivers) > 0 {
		d.drop(receivers[0].thread)
		return fmt.Sprint("done ", text(m), " ", receivers[0].thread, " OK")
	}
	if len(d.messages) < d.room {
		d.put(m)
		return "done " + text(m) + " -1 OK"
	}
	d.wait(waiter{thread: thread, prio: prio, sends: true, m: m})
	return "waits " + text(m) + " -1 OK"
}

func (d *model) receive(thread, prio int) string {
	switch {
	case !within(thread, 0, 15) || !within(prio, 1, 31):
		return refused("ErrArg")
	case d.waits(thread):
		return refused("ErrState")
	case len(d.messages) == 0:
		d.wait(waiter{thread: thread, prio: prio})
		return "waits 0:0 -1 OK"
	}
	first := d.inOrder()[0]
	d.messages = slices.DeleteFunc(d.messages, func(x held) bool { return x.came == first.came })
	other := -1
	if senders := d.those(true); len(senders) > 0 {
		other = senders[0].thread
		d.drop(other)
		d.put(senders[0].m)
	}
	return fmt.Sprint("done ", text(first.m), " ", other, " OK")
}

func (d *model) leave(thread int) string {
	switch {
	case !within(thread, 0, 15):
		return "ErrArg"
	case !d.waits(thread):
		return "ErrNone"
	}
	d.drop(thread)
	return "OK"
}

func (d *model) change(thread, prio int) string {
	switch {
	case !within(thread, 0, 15) || !within(prio, 1, 31):
		return "ErrArg"
	case !d.waits(thread):
		return "ErrNone"
	}
	for i := range d.waiting {
		if d.waiting[i].thread == thread {
			d.waiting[i].prio = prio
		}
	}
	return "OK"
}

// stand is what stand tells of a queue.
func (d *model) stand() string {
	messages, senders, receivers := []string{}, []string{}, []int{}
	for _, x := range d.inOrder() {
		messages = append(messages, text(x.m))
	}
	for _, w := range d.those(true) {
		senders = append(senders, fmt.Sprint(w.thread, "=", text(w.m)))
	}
	for _, w := range d.those(false) {
		receivers = append(receivers, w.thread)
	}
	return fmt.Sprint(messages, " ", d.room-len(d.messages), " ", senders, " ", receivers)
}

// whole is all that Same looks at: how it stands, with priorities, and who came first.
func (d *model) whole() string {
	var came []string
	for _, w := range d.waiting {
		came = append(came, fmt.Sprint(w.thread, "*", w.prio))
	}
	return fmt.Sprint(d.room, " ", d.stand(), " ", strings.Join(came, " "))
}

// both is a call, and what the model says of it.
type both struct {
	call
	model func(d *model) string
}

func sendBoth(thread, prio int, value int64, of int) both {
	return both{send(thread, prio, value, of), func(d *model) string { return d.send(thread, prio, m(value, of)) }}
}

func receiveBoth(thread, prio int) both {
	return both{receive(thread, prio), func(d *model) string { return d.receive(thread, prio) }}
}

func leaveBoth(thread int) both {
	return both{leave(thread), func(d *model) string { return d.leave(thread) }}
}

func changeBoth(thread, prio int) both {
	return both{change(thread, prio), func(d *model) string { return d.change(thread, prio) }}
}

// pair is a queue, and its model.
type pair struct {
	q *mqueue.Queue
	d *model
}

func newPair(t *testing.T, room int) pair {
	t.Helper()
	return pair{fresh(t, room), &model{room: room}}
}

func (p pair) copy() pair { return pair{p.q.Copy(), p.d.copy()} }

// wantBoth does a call to both, and asks that they answer and stand alike.
func wantBoth(t *testing.T, b both, p pair) {
	t.Helper()
	was := p.d.whole()
	got, answer := b.do(p.q), b.model(p.d)
	if got != answer {
		t.Errorf("%s of %s: %s, want %s", b.name, was, got, answer)
	}
	wantStand(t, b.name+" of "+was, p.q, p.d.stand())
}

// fewCalls are calls by few threads of two priorities, with three messages, and some that may not be.
func fewCalls(threads int) []both {
	calls := []both{sendBoth(-1, 1, 1, 1), sendBoth(0, 0, 1, 1), sendBoth(0, 1, 1, 32), receiveBoth(16, 1), receiveBoth(0, 32), leaveBoth(-1), leaveBoth(15), changeBoth(15, 1), changeBoth(0, 0)}
	for thread := range threads {
		calls = append(calls, leaveBoth(thread))
		for _, prio := range []int{1, 31} {
			calls = append(calls, receiveBoth(thread, prio), changeBoth(thread, prio))
			calls = append(calls, sendBoth(thread, prio, 1, 0), sendBoth(thread, prio, 2, 0), sendBoth(thread, prio, 1, 31))
		}
	}
	return calls
}

// rows is how many rows there are of some of the threads, each of which stands in one of so many ways.
func rows(threads, ways int) int {
	if threads == 0 {
		return 1
	}
	return 1 + threads*ways*rows(threads-1, ways)
}

// statesOf is how many states there are: where it is empty, those who wait to receive have one of 2 priorities; where it
// is full, those who wait to send have one of 2 priorities, and of 3 messages; messages of the lesser priority are 2, in
// any order, those of the greater one are alike.
func statesOf(room, threads int) int {
	states, kinds := rows(threads, 2), 1
	for range room - 1 {
		kinds = 2*kinds + 1
		states += kinds
	}
	return states + (2*kinds+1)*rows(threads, 2*3)
}

// P18.1 to P18.5: each state to which few threads come, and in it each call.
func TestEachCallInEachStateThatThereIs(t *testing.T) {
	for _, x := range []struct{ room, threads int }{{1, 3}, {2, 2}, {3, 2}, {5, 1}} {
		calls := fewCalls(x.threads)
		start := newPair(t, x.room)
		todo := []pair{start}
		seen := map[string]*mqueue.Queue{start.d.whole(): start.q.Copy()}
		for len(todo) > 0 && !t.Failed() {
			at := todo[0]
			todo = todo[1:]
			for _, b := range calls {
				p := at.copy()
				wantBoth(t, b, p)
				name := p.d.whole()
				if first := seen[name]; first != nil {
					wantSame(t, name, p.q, first, true)
				} else {
					seen[name] = p.q.Copy()
					todo = append(todo, p)
				}
			}
		}
		if states := statesOf(x.room, x.threads); len(seen) != states && !t.Failed() {
			t.Errorf("room %d, %d threads: %d states were seen, want %d", x.room, x.threads, len(seen), states)
		}
	}
}

// someBoth is any call of few or many threads; now and then with what may not be.
func someBoth(r *rand.Rand, threads, sends int) both {
	thread, prio, of := r.Intn(threads), 1+r.Intn(31), r.Intn(32)
	if few := r.Intn(2); few == 0 {
		prio, of = []int{1, 5, 31}[r.Intn(3)], []int{0, 5, 31}[r.Intn(3)]
	}
	switch r.Intn(60) {
	case 0:
		thread = r.Intn(40) - 12
	case 1:
		prio = r.Intn(60) - 15
	case 2:
		of = r.Intn(60) - 15
	}
	switch n := r.Intn(20); {
	case n < sends:
		return sendBoth(thread, prio, r.Int63n(9)-4, of)
	case n < 16:
		return receiveBoth(thread, prio)
	case n < 18:
		return leaveBoth(thread)
	}
	return changeBoth(thread, prio)
}

// P18.1 to P18.5: long rows of calls, with little and much room, where more send, where more receive, and by turns.
func TestItDoesAsTheChapterSays(t *testing.T) {
	r := rand.New(rand.NewSource(18))
	for _, room := range []int{1, 2, 7, 32} {
		for _, threads := range []int{1, 3, 16} {
			p := newPair(t, room)
			senders, receivers, full := 0, 0, 0
			for i := range 2000 {
				wantBoth(t, someBoth(r, threads, []int{8, 13, 3}[i/100%3]), p)
				senders, receivers = max(senders, len(p.q.Senders())), max(receivers, len(p.q.Receivers()))
				if p.q.Full() {
					full++
				}
				if t.Failed() {
					return
				}
			}
			if some := min(threads, 5); senders < some || receivers < some || full == 0 {
				t.Errorf("room %d, %d threads: at most %d waited to send, %d to receive, and %d times it was full", room, threads, senders, receivers, full)
			}
		}
	}
}

// P18.4: of two that go on apart Same says what their models say.
func TestSameDoesAsTheChapterSays(t *testing.T) {
	r := rand.New(rand.NewSource(19))
	same, rounds := 0, 0
	little := fewCalls(2)
	for range 300 {
		p, q := newPair(t, 1), newPair(t, 1)
		for range 40 {
			wantBoth(t, little[r.Intn(len(little))], p)
			wantBoth(t, little[r.Intn(len(little))], q)
			is := p.d.whole() == q.d.whole()
			wantSame(t, "a step", p.q, q.q, is)
			if rounds++; is {
				same++
			}
		}
	}
	if same < rounds/100 || same > rounds/2 {
		t.Errorf("%d of %d were the same", same, rounds)
	}
}

// P18.4: copies that were taken by the way stay as they were, and go on as the one would have.
func TestCopiesStayAsTheyWere(t *testing.T) {
	r := rand.New(rand.NewSource(20))
	p := newPair(t, 3)
	var copies []pair
	for i := range 300 {
		wantBoth(t, someBoth(r, 5, []int{13, 3}[i/50%2]), p)
		copies = append(copies, p.copy())
	}
	for _, c := range copies {
		wantStand(t, "a copy", c.q, c.d.stand())
		for range 20 {
			wantBoth(t, someBoth(r, 5, 8), c)
		}
	}
}

// sentOnes are messages that were sent, none of which has the value of another one.
type sentOnes struct {
	// waiting is what those that wait to send have to send.
	waiting map[int]api.Message
	// lines are the messages in the queue, by their priorities, who came first ahead.
	lines [32][]api.Message
	// got is how often each was received, or left with its sender, by its value.
	got map[int64]int
}

// first is the one that is received next, and takes it.
func (s *sentOnes) first() api.Message {
	for of := 31; of >= 0; of-- {
		if line := s.lines[of]; len(line) > 0 {
			s.lines[of] = line[1:]
			return line[0]
		}
	}
	return api.Message{}
}

// sent does a call of Send, and asks who has the message then.
func (s *sentOnes) sent(t *testing.T, q *mqueue.Queue, thread, prio int, one api.Message) {
	t.Helper()
	receivers, full := q.Receivers(), q.Full()
	p, err := q.Send(thread, prio, one)
	switch {
	case err != api.OK || p.Message != one:
		t.Fatalf("sent is %v, %s", p, errText(err))
	case len(receivers) > 0:
		if !p.Done || p.Other != receivers[0] {
			t.Fatalf("%v wait to receive, and sent is %v", receivers, p)
		}
		s.got[one.Value]++
	case full:
		if p.Done || p.Other != -1 {
			t.Fatalf("it is full, and sent is %v", p)
		}
		s.waiting[thread] = one
	default:
		if !p.Done || p.Other != -1 {
			t.Fatalf("there is room, and sent is %v", p)
		}
		s.lines[one.Prio] = append(s.lines[one.Prio], one)
	}
}

// received does a call of Receive, and asks which message it is, and who is let in.
func (s *sentOnes) received(t *testing.T, q *mqueue.Queue, thread, prio int) {
	t.Helper()
	n, senders := q.Len(), q.Senders()
	p, err := q.Receive(thread, prio)
	if err != api.OK || p.Done != (n > 0) {
		t.Fatalf("%d are there, and received is %v, %s", n, p, errText(err))
	}
	if !p.Done {
		return
	}
	if next := s.first(); p.Message != next {
		t.Fatalf("received is %v, want %v", p.Message, next)
	}
	s.got[p.Message.Value]++
	if len(senders) == 0 {
		if p.Other != -1 {
			t.Fatalf("nobody waits to send, and let in is %d", p.Other)
		}
		return
	}
	if p.Other != senders[0] {
		t.Fatalf("%v wait to send, and let in is %d", senders, p.Other)
	}
	one := s.waiting[p.Other]
	delete(s.waiting, p.Other)
	s.lines[one.Prio] = append(s.lines[one.Prio], one)
}

// left does a call of Leave.
func (s *sentOnes) left(t *testing.T, q *mqueue.Queue, thread int) {
	t.Helper()
	if err := q.Leave(thread); err != api.OK {
		t.Fatalf("Leave is %s", errText(err))
	}
	if one, ok := s.waiting[thread]; ok {
		delete(s.waiting, thread)
		s.got[one.Value]++
	}
}

// P18.5: each that was sent, and whose sender did not leave, is received once; those of one priority in the order in
// which they came into the queue; nobody waits for what is there.
func TestWhatWasSentIsReceivedOnce(t *testing.T) {
	r := rand.New(rand.NewSource(21))
	for _, room := range []int{1, 2, 31, 32} {
		q := fresh(t, room)
		s := &sentOnes{waiting: map[int]api.Message{}, got: map[int64]int{}}
		sent := int64(0)
		for i := range 20000 {
			thread, prio := r.Intn(16), 1+r.Intn(31)
			_, waits := q.Waiting(thread)
			switch {
			case waits && r.Intn(8) == 0:
				s.left(t, q, thread)
			case waits:
				if err := q.Change(thread, prio); err != api.OK {
					t.Fatalf("Change is %s", errText(err))
				}
			case r.Intn(10) < []int{5, 7, 2}[i/200%3]:
				sent++
				s.sent(t, q, thread, prio, m(sent, r.Intn(32)))
			default:
				s.received(t, q, thread, prio)
			}
			if len(q.Receivers()) > 0 && q.Len() > 0 || len(q.Senders()) > 0 && q.Room() > 0 {
				t.Fatalf("somebody waits for what is there: %s", stand(q))
			}
		}
		for _, thread := range append(q.Receivers(), q.Senders()...) {
			s.left(t, q, thread)
		}
		for q.Len() > 0 {
			s.received(t, q, 0, 1)
		}
		for value := int64(1); value <= sent; value++ {
			if s.got[value] != 1 {
				t.Fatalf("room %d: %d of %d was received %d times", room, value, sent, s.got[value])
			}
		}
		if sent < 3000 {
			t.Errorf("room %d: %d were sent", room, sent)
		}
	}
}
