package cond_test

import (
	"fmt"
	"math/rand"
	"slices"
	"testing"

	"metronome/api"
	"metronome/cond"
)

// model is a condition by the chapter's words alone; who has waited longest stands first in queue.
type model struct {
	queue []api.Waiter
	mutex int // -1, while nobody waits
}

func (m *model) copy() *model {
	return &model{slices.Clone(m.queue), m.mutex}
}

func (m *model) place(thread int) int {
	return slices.IndexFunc(m.queue, func(w api.Waiter) bool { return w.Thread == thread })
}

// order is those who wait, one priority behind the other.
func (m *model) order() []int {
	var list []int
	for prio := 31; prio >= 1; prio-- {
		for _, w := range m.queue {
			if w.Prio == prio {
				list = append(list, w.Thread)
			}
		}
	}
	return list
}

func mayBe(thread, prio int) bool {
	return thread >= 0 && thread <= 15 && prio >= 1 && prio <= 31
}

func (m *model) wait(thread, prio, mutex int) string {
	switch {
	case !mayBe(thread, prio) || mutex < 0:
		return "ErrArg"
	case m.place(thread) >= 0:
		return "ErrState"
	case m.mutex >= 0 && m.mutex != mutex:
		return "ErrState"
	}
	m.queue = append(m.queue, api.Waiter{Thread: thread, Prio: prio})
	m.mutex = mutex
	return "OK"
}

func (m *model) drop(place int) {
	m.queue = slices.Delete(m.queue, place, place+1)
	if len(m.queue) == 0 {
		m.mutex = -1
	}
}

func (m *model) leave(thread int) string {
	if !mayBe(thread, 1) {
		return "ErrArg"
	}
	at := m.place(thread)
	if at < 0 {
		return "ErrNone"
	}
	m.drop(at)
	return "OK"
}

func (m *model) change(thread, prio int) string {
	if !mayBe(thread, prio) {
		return "ErrArg"
	}
	at := m.place(thread)
	if at < 0 {
		return "ErrNone"
	}
	m.queue[at].Prio = prio
	return "OK"
}

func (m *model) signal() string {
	list := m.order()
	if len(list) == 0 {
		return "0 false"
	}
	m.drop(m.place(list[0]))
	return fmt.Sprint(list[0], " true")
}

func (m *model) broadcast() string {
	list := m.order()
	m.queue, m.mutex = nil, -1
	return listText(list)
}

func (m *model) stand() string {
	if m.mutex < 0 {
		return "free []"
	}
	return fmt.Sprint(m.mutex, " ", listText(m.order()))
}

// whole is all that the model is, as a text: also who has waited longest, and with which priority.
func (m *model) whole() string {
	return fmt.Sprint(m.mutex, " ", append([]api.Waiter{}, m.queue...))
}

// both is a call, and what the model says of it.
type both struct {
	call
	model func(m *model) string
}

// kinds is how many calls someBoth tells apart.
const kinds = 5

func someBoth(which, thread, prio, mutex int) both {
	switch which {
	case 0:
		return both{wait(thread, prio, mutex), func(m *model) string { return m.wait(thread, prio, mutex) }}
	case 1:
		return both{leave(thread), func(m *model) string { return m.leave(thread) }}
	case 2:
		return both{change(thread, prio), func(m *model) string { return m.change(thread, prio) }}
	case 3:
		return both{signal(), (*model).signal}
	}
	return both{broadcast(), (*model).broadcast}
}

// pair is a condition, and its model.
type pair struct {
	c *cond.Cond
	m *model
}

func newPair() pair {
	return pair{cond.New(), &model{mutex: -1}}
}

func (p pair) copy() pair {
	return pair{p.c.Copy(), p.m.copy()}
}

// wantBoth does a call to both, and asks that they answer and stand alike.
func wantBoth(t *testing.T, b both, p pair) {
	t.Helper()
	was := p.m.whole()
	got, answer := b.do(p.c), b.model(p.m)
	if got != answer {
		t.Errorf("%s of %s: %s, want %s", b.name, was, got, answer)
	}
	wantStand(t, b.name+" of "+was, p.c, p.m.stand())
}

// P16.1 to P16.4: each state to which three threads of two priorities come with two mutexes, and in it each call.
func TestEachCallInEachStateThatThereIs(t *testing.T) {
	calls := []both{someBoth(3, 0, 0, 0), someBoth(4, 0, 0, 0)}
	for _, thread := range []int{0, 1, 2, -1} {
		calls = append(calls, someBoth(1, thread, 0, 0))
		for _, prio := range []int{1, 2, 0} {
			calls = append(calls, someBoth(2, thread, prio, 0))
			for _, mutex := range []int{0, 1, -1} {
				calls = append(calls, someBoth(0, thread, prio, mutex))
			}
		}
	}
	start := newPair()
	todo := []pair{start}
	seen := map[string]*cond.Cond{start.m.whole(): start.c.Copy()}
	for len(todo) > 0 && !t.Failed() {
		at := todo[0]
		todo = todo[1:]
		for _, b := range calls {
			p := at.copy()
			wantBoth(t, b, p)
			name := p.m.whole()
			if first := seen[name]; first != nil {
				wantSame(t, name, p.c, first, true)
			} else {
				seen[name] = p.c.Copy()
				todo = append(todo, p)
			}
		}
	}
	// Nobody waits; or one, two or three of three do, each with one of two priorities, for one of two mutexes.
	if states := 1 + 2*(3*2+6*4+6*8); len(seen) != states && !t.Failed() {
		t.Errorf("%d states were seen, want %d", len(seen), states)
	}
}

// some is one of few, or now and then any, or none that may be.
func some(r *rand.Rand, few []int, most int) int {
	switch r.Intn(12) {
	case 0:
		return r.Intn(80) - 20
	case 1:
		return r.Intn(most + 1)
	}
	return few[r.Intn(len(few))]
}

// often is a call's number: Broadcast is seldom, and Wait is often, so that many wait.
func often(r *rand.Rand) int {
	return []int{0, 0, 0, 0, 0, 0, 0, 0, 1, 1, 2, 2, 2, 3, 3, 4}[r.Intn(16)]
}

// P16.1 to P16.4: long rows of calls, of many threads, and what is not to be, too.
func TestItDoesAsTheChapterSays(t *testing.T) {
	r := rand.New(rand.NewSource(16))
	most := 0
	for _, few := range [][]int{{0}, {0, 15}, {3, 4, 5}, {0, 1, 2, 3, 4, 5, 6, 7, 8, 9, 10, 11, 12, 13, 14, 15}} {
		for _, mutexes := range [][]int{{0}, {0, 1}, {3, 4, 7}} {
			p := newPair()
			for range 3000 {
				wantBoth(t, someBoth(often(r), some(r, few, 15), some(r, []int{1, 2, 30, 31}, 31), some(r, mutexes, 7)), p)
				most = max(most, len(p.m.queue))
				if t.Failed() {
					return
				}
			}
		}
	}
	if most < 10 {
		t.Errorf("at most %d waited", most)
	}
}

// P16.3: of two that go on apart Same says what their models say.
func TestSameDoesAsTheChapterSays(t *testing.T) {
	r := rand.New(rand.NewSource(17))
	same, all := 0, 0
	for range 400 {
		p, q := newPair(), newPair()
		for range 30 {
			wantBoth(t, someBoth(r.Intn(kinds), r.Intn(2), 1+r.Intn(2), r.Intn(2)), p)
			wantBoth(t, someBoth(r.Intn(kinds), r.Intn(2), 1+r.Intn(2), r.Intn(2)), q)
			is := p.m.whole() == q.m.whole()
			wantSame(t, "a step", p.c, q.c, is)
			if all++; is {
				same++
			}
		}
	}
	if same < all/20 || same > all-all/20 {
		t.Errorf("%d of %d were the same", same, all)
	}
}

// P16.3: copies that were taken by the way stay as they were, and go on as the one would have.
func TestCopiesStayAsTheyWere(t *testing.T) {
	r := rand.New(rand.NewSource(18))
	p := newPair()
	var copies []pair
	for range 500 {
		wantBoth(t, someBoth(often(r), r.Intn(16), 1+r.Intn(31), r.Intn(2)), p)
		copies = append(copies, p.copy())
	}
	for _, c := range copies {
		wantStand(t, "a copy", c.c, c.m.stand())
		for range 20 {
			wantBoth(t, someBoth(r.Intn(kinds), r.Intn(16), 1+r.Intn(31), r.Intn(2)), c)
		}
	}
}

// P16.4: Signal wakes one at most, and Broadcast all; nobody is woken who did not wait, and nobody is lost.
func TestWhoIsWokenDidWait(t *testing.T) {
	r := rand.New(rand.NewSource(19))
	c, waits, named, woken := cond.New(), map[int]bool{}, 0, 0
	wake := func(list []int) {
		for _, thread := range list {
			if !waits[thread] {
				t.Fatalf("%d was woken, and did not wait", thread)
			}
			delete(waits, thread)
			woken++
		}
	}
	for range 20000 {
		thread, prio, mutex := r.Intn(16), 1+r.Intn(31), r.Intn(2)
		some := len(waits) > 0
		switch often(r) {
		case 0:
			want := api.OK
			if waits[thread] || some && mutex != named {
				want = api.ErrState
			}
			if err := c.Wait(thread, prio, mutex); err != want {
				t.Fatalf("Wait is %s, want %s", errText(err), errText(want))
			}
			if want == api.OK {
				waits[thread], named = true, mutex
			}
		case 1:
			c.Leave(thread)
			delete(waits, thread)
		case 2:
			c.Change(thread, prio)
		case 3:
			first, ok := c.Signal()
			if ok != some {
				t.Fatalf("Signal is %v, and %d waited", ok, len(waits))
			}
			if ok {
				wake([]int{first})
			}
		case 4:
			wake(c.Broadcast())
			if len(waits) > 0 {
				t.Fatalf("%v were not woken", waits)
			}
		}
		if at, ok := c.Mutex(); c.Len() != len(waits) || ok != (len(waits) > 0) || ok && at != named {
			t.Fatalf("%d wait for %d, %v; want %d for %d", c.Len(), at, ok, len(waits), named)
		}
	}
	if woken < 1000 {
		t.Errorf("%d were woken", woken)
	}
}
