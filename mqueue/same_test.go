package mqueue_test

import (
	"fmt"
	"testing"

	"metronome/mqueue"
)

// P18.4: groups of queues, in each of which any two differ in one thing alone.
func TestSameOfTwoThatDiffer(t *testing.T) {
	one := func(room int, calls ...call) *mqueue.Queue { return fresh(t, room, calls...) }
	// brim is one that is full, so that who sends waits.
	brim := func(calls ...call) *mqueue.Queue { return after(one(1, send(9, 1, 5, 5)), calls...) }
	for name, group := range map[string][]*mqueue.Queue{
		"the room":                                  {one(1), one(2), one(31), one(32)},
		"the room, with as many messages":           {one(1, send(0, 1, 1, 1)), one(2, send(0, 1, 1, 1)), one(32, send(0, 1, 1, 1))},
		"the room, with as much of it left":         {one(1), one(2, send(0, 1, 1, 1)), one(3, send(0, 1, 1, 1), send(0, 1, 1, 1))},
		"how many messages":                         {one(3), one(3, send(0, 1, 1, 1)), one(3, send(0, 1, 1, 1), send(0, 1, 1, 1))},
		"a value":                                   {one(3, send(0, 1, 1, 1)), one(3, send(0, 1, 2, 1)), one(3, send(0, 1, -1, 1)), one(3, send(0, 1, 0, 1))},
		"a message's priority":                      {one(3, send(0, 1, 1, 0)), one(3, send(0, 1, 1, 1)), one(3, send(0, 1, 1, 31))},
		"the second message's value":                {one(3, send(0, 1, 9, 9), send(0, 1, 1, 1)), one(3, send(0, 1, 9, 9), send(0, 1, 2, 1))},
		"the second message's priority":             {one(3, send(0, 1, 9, 9), send(0, 1, 1, 1)), one(3, send(0, 1, 9, 9), send(0, 1, 1, 2))},
		"the order of two of one priority":          {one(3, send(0, 1, 1, 1), send(0, 1, 2, 1)), one(3, send(0, 1, 2, 1), send(0, 1, 1, 1))},
		"which of two has which priority":           {one(3, send(0, 1, 1, 1), send(0, 1, 2, 2)), one(3, send(0, 1, 1, 2), send(0, 1, 2, 1))},
		"who waits to receive":                      {one(1), one(1, receive(0, 5)), one(1, receive(1, 5)), one(1, receive(15, 5)), one(1, receive(0, 5), receive(1, 5)), one(1, receive(0, 5), receive(15, 5))},
		"with what priority it waits to receive":    {one(1, receive(0, 5)), one(1, receive(0, 6)), one(1, receive(0, 1)), one(1, receive(0, 31))},
		"a priority that leaves their order":        {one(1, receive(0, 6), receive(1, 5)), one(1, receive(0, 7), receive(1, 5)), one(1, receive(0, 6), receive(1, 4))},
		"who came first to receive":                 {one(1, receive(0, 5), receive(1, 5)), one(1, receive(1, 5), receive(0, 5))},
		"who came first, of unlike priorities":      {one(1, receive(0, 6), receive(1, 5)), one(1, receive(1, 5), receive(0, 6))},
		"who waits to send":                         {brim(), brim(send(0, 5, 1, 1)), brim(send(1, 5, 1, 1)), brim(send(15, 5, 1, 1)), brim(send(0, 5, 1, 1), send(1, 5, 1, 1)), brim(send(0, 5, 1, 1), send(15, 5, 1, 1))},
		"with what priority it waits to send":       {brim(send(0, 5, 1, 1)), brim(send(0, 6, 1, 1)), brim(send(0, 1, 1, 1)), brim(send(0, 31, 1, 1))},
		"a priority that leaves the senders' order": {brim(send(0, 6, 1, 1), send(1, 5, 1, 1)), brim(send(0, 7, 1, 1), send(1, 5, 1, 1)), brim(send(0, 6, 1, 1), send(1, 4, 1, 1))},
		"who came first to send":                    {brim(send(0, 5, 1, 1), send(1, 5, 1, 1)), brim(send(1, 5, 1, 1), send(0, 5, 1, 1))},
		"who came first to send, unlike":            {brim(send(0, 6, 1, 1), send(1, 5, 1, 1)), brim(send(1, 5, 1, 1), send(0, 6, 1, 1))},
		"the value that waits":                      {brim(send(0, 5, 1, 1)), brim(send(0, 5, 2, 1)), brim(send(0, 5, -1, 1)), brim(send(0, 5, 0, 1))},
		"the priority of what waits":                {brim(send(0, 5, 1, 1)), brim(send(0, 5, 1, 0)), brim(send(0, 5, 1, 31))},
		"whose message it is that waits":            {brim(send(0, 5, 1, 1), send(1, 5, 2, 2)), brim(send(0, 5, 2, 2), send(1, 5, 1, 1))},
		"where a message is":                        {brim(send(0, 5, 1, 1)), one(1, send(0, 5, 1, 1), send(0, 5, 5, 5))},
		"what one waits for":                        {one(1, send(9, 1, 0, 0), send(0, 5, 0, 0)), one(1, receive(0, 5))},
		"all of the scenes":                         scenes(t),
	} {
		for i, a := range group {
			for j, b := range group {
				wantSame(t, fmt.Sprint(name, " ", i, " ", j), a, b, i == j)
			}
			wantSame(t, fmt.Sprint(name, " ", i, ", a copy"), a, a.Copy().Copy(), true)
		}
	}
}

// doings are calls of which each one changes some scene or other.
func doings() []call {
	var all []call
	for thread := range 6 {
		all = append(all, send(thread, 7, 70, 3), send(thread, 7, 71, 31), receive(thread, 7), leave(thread), change(thread, 1), change(thread, 7), change(thread, 31))
	}
	return all
}

// P18.4: how they came to it is nothing to it.
func TestSameOfTwoThatCameThereByUnlikeCalls(t *testing.T) {
	for i, x := range []struct {
		room int
		a, b []call
	}{
		{1, nil, []call{send(0, 1, 1, 1), receive(0, 1)}},
		{1, nil, []call{receive(0, 1), send(0, 1, 1, 1), leave(0)}},
		{1, nil, []call{receive(0, 1), send(1, 1, 1, 1)}},
		{1, nil, []call{send(-1, 1, 1, 1), receive(16, 1), leave(1), change(1, 1), send(1, 1, 1, 32)}},
		{2, []call{send(0, 1, 1, 1)}, []call{send(15, 31, 1, 1)}},
		{2, []call{send(0, 1, 1, 1)}, []call{receive(1, 1), send(0, 1, 2, 2), send(0, 1, 1, 1)}},
		{2, []call{send(0, 1, 1, 1)}, []call{send(0, 1, 2, 2), send(0, 1, 1, 1), receive(1, 1)}},
		{2, []call{send(0, 1, 1, 1), send(0, 1, 2, 2)}, []call{send(0, 1, 2, 2), send(0, 1, 1, 1)}},
		{2, []call{send(0, 1, 1, 1), send(0, 1, 2, 2)}, []call{send(0, 1, 3, 3), send(0, 1, 2, 2), send(0, 1, 1, 1), receive(1, 1)}},
		{2, []call{send(0, 1, 1, 1), send(0, 1, 2, 1)}, []call{send(0, 1, 3, 1), send(0, 1, 1, 1), send(0, 1, 2, 1), receive(1, 1)}},
		{1, []call{send(0, 1, 1, 1), send(0, 5, 2, 2)}, []call{send(0, 1, 1, 1), send(0, 9, 2, 2), change(0, 5)}},
		{1, []call{send(0, 1, 1, 1), send(0, 5, 2, 2)}, []call{send(0, 1, 1, 1), send(0, 5, 3, 3), leave(0), send(0, 5, 2, 2)}},
		{1, []call{send(0, 1, 1, 1), send(0, 5, 2, 2)}, []call{send(0, 1, 1, 1), send(1, 5, 3, 3), send(0, 5, 2, 2), leave(1)}},
		{1, []call{send(0, 1, 1, 1), send(0, 5, 2, 2)}, []call{send(0, 1, 3, 3), send(3, 9, 1, 1), send(0, 5, 2, 2), receive(4, 5)}},
		{1, []call{receive(0, 5), receive(1, 6)}, []call{receive(0, 5), receive(2, 9), receive(1, 7), change(1, 6), send(3, 1, 1, 1)}},
		{1, []call{receive(0, 5)}, []call{send(0, 1, 1, 1), send(0, 5, 2, 2), leave(0), receive(0, 9), receive(0, 5)}},
		{3, []call{receive(1, 5), receive(0, 5)}, []call{receive(0, 5), receive(1, 5), leave(0), receive(0, 5)}},
	} {
		a, b := fresh(t, x.room, x.a...), fresh(t, x.room, x.b...)
		wantSame(t, fmt.Sprint("pair ", i), a, b, true)
		wantStand(t, fmt.Sprint("pair ", i), a, stand(b))
		for _, c := range doings() {
			e, f := a.Copy(), b.Copy()
			want(t, e, c, c.do(f))
			wantSame(t, fmt.Sprint("pair ", i, ", ", c.name), e, f, true)
		}
	}
}

// P18.4: whatever is done to one of both, the other one stays, and does as it would have done.
func TestACopyGoesOnApart(t *testing.T) {
	for _, q := range scenes(t) {
		stands := stand(q)
		for _, c := range doings() {
			a, b := q.Copy(), q.Copy()
			wantStand(t, "a copy", a, stands)
			wantSame(t, "copies", a, b, true)
			answer := c.do(a)
			wantStand(t, c.name+" to a copy", q, stands)
			wantStand(t, c.name+" to another copy", b, stands)
			wantSame(t, c.name+" to a copy", q, b, true)
			want(t, b, c, answer)
			wantSame(t, c.name+" to both", a, b, true)
			for _, d := range doings() {
				e, f := a.Copy(), b.Copy()
				want(t, e, d, d.do(f))
				wantSame(t, c.name+", "+d.name, e, f, true)
			}
		}
	}
}

// P18.4: what is done to the one that was copied is nothing to the copy.
func TestTheCopiedOneGoesOnApart(t *testing.T) {
	q := full(t)
	other := q.Copy()
	after(q, change(1, 31), leave(2), receive(9, 1), leave(4), receive(9, 1), send(2, 31, 99, 9), receive(9, 1))
	wantStand(t, "the one", q, "[99:9 10:0] 0 [] []")
	wantStand(t, "the copy", other, "[1:4 2:4] 0 [2=20:31 4=40:4 1=10:0 3=30:4] []")
	wantSame(t, "the copy", other, full(t), true)
	q = empty(t)
	other = q.Copy()
	after(q, change(1, 31), leave(2), send(9, 1, 5, 5), send(9, 1, 5, 5), receive(5, 5))
	wantStand(t, "the one", q, "[] 2 [] [3 5]")
	wantSame(t, "the copy", other, empty(t), true)
}

// P18.4: two copies of one that has room behind its messages: what is sent to both stands apart.
func TestCopiesShareNoRoom(t *testing.T) {
	for sent := range 12 {
		q := fresh(t, 32)
		for i := range sent {
			want(t, q, send(0, 1, int64(i), 5), fmt.Sprint("done ", i, ":5 -1 OK"))
		}
		for taken := range sent + 1 {
			a, b := q.Copy(), q.Copy()
			after(a, send(0, 1, 100, 5))
			after(q.Copy(), send(0, 1, 300, 5), send(0, 1, 400, 31))
			after(b, send(0, 1, 200, 5))
			for _, x := range []struct {
				q    *mqueue.Queue
				last int64
			}{{a, 100}, {b, 200}} {
				if got := list(x.q); len(got) != sent-taken+1 || got[len(got)-1] != m(x.last, 5) {
					t.Errorf("%d of %d were taken: %v", taken, sent, got)
				}
			}
			if taken < sent {
				want(t, q, receive(0, 1), fmt.Sprint("done ", taken, ":5 -1 OK"))
			}
		}
	}
}
