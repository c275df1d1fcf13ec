package sem_test

import (
	"fmt"
	"math/rand"
	"slices"
	"testing"

	"metronome/api"
)

// model is a semaphore or a barrier by the chapter's words alone; who has waited longest stands first in queue.
type model struct {
	isBarrier bool
	number    int
	queue     []api.Waiter
}

func (m *model) copy() *model {
	return &model{m.isBarrier, m.number, slices.Clone(m.queue)}
}

func (m *model) place(thread int) int {
	return slices.IndexFunc(m.queue, func(w api.Waiter) bool { return w.Thread == thread })
}

// order is those who wait, one priority behind the other.
func (m *model) order() []int {
	var list []int
	for prio := 31; prio >= 1; prio-- {
		for _, w := range m.queue {
			if w.Prio == prio {
				list = append(list, w.Thread)
			}
		}
	}
	return list
}

func mayBe(thread, prio int) bool {
	return thread >= 0 && thread <= 15 && prio >= 1 && prio <= 31
}

func (m *model) wait(thread, prio int) string {
	switch {
	case !mayBe(thread, prio):
		return m.waitText(nil, "ErrArg")
	case m.place(thread) >= 0:
		return m.waitText(nil, "ErrState")
	case !m.isBarrier && m.number > 0:
		m.number--
		return "true OK"
	case m.isBarrier && len(m.queue) == m.number-1:
		goOn := append(m.order(), thread)
		m.queue = nil
		return m.waitText(goOn, "OK")
	}
	m.queue = append(m.queue, api.Waiter{Thread: thread, Prio: prio})
	return m.waitText(nil, "OK")
}

func (m *model) waitText(goOn []int, err string) string {
	if m.isBarrier {
		return listText(goOn) + " " + err
	}
	return "false " + err
}

func (m *model) try() string {
	if m.number == 0 {
		return "false"
	}
	m.number--
	return "true"
}

func (m *model) post() string {
	if list := m.order(); len(list) > 0 {
		m.leave(list[0])
		return fmt.Sprint(list[0], " OK")
	}
	if m.number == 32767 {
		return "-1 ErrFull"
	}
	m.number++
	return "-1 OK"
}

func (m *model) leave(thread int) string {
	if !mayBe(thread, 1) {
		return "ErrArg"
	}
	at := m.place(thread)
	if at < 0 {
		return "ErrNone"
	}
	m.queue = slices.Delete(m.queue, at, at+1)
	return "OK"
}

func (m *model) change(thread, prio int) string {
	if !mayBe(thread, prio) {
		return "ErrArg"
	}
	at := m.place(thread)
	if at < 0 {
		return "ErrNone"
	}
	m.queue[at].Prio = prio
	return "OK"
}

func (m *model) stand() string {
	return fmt.Sprint(m.number, " ", listText(m.order()))
}

// whole is all that the model is, as a text: also who has waited longest, and with which priority.
func (m *model) whole() string {
	return fmt.Sprint(m.isBarrier, " ", m.number, " ", append([]api.Waiter{}, m.queue...))
}

// both is a call, and what the model says of it.
type both struct {
	call
	model func(m *model) string
}

func someBoth(which, thread, prio int) both {
	switch which {
	case 0:
		return both{wait(thread, prio), func(m *model) string { return m.wait(thread, prio) }}
	case 1:
		return both{leave(thread), func(m *model) string { return m.leave(thread) }}
	case 2:
		return both{change(thread, prio), func(m *model) string { return m.change(thread, prio) }}
	case 3:
		return both{try(), (*model).try}
	}
	return both{post(), (*model).post}
}

// kinds is how many of the calls above there are of one.
func (m *model) kinds() int {
	if m.isBarrier {
		return 3
	}
	return 5
}

// pair is one, and its model.
type pair struct {
	x thing
	m *model
}

func newPair(t *testing.T, isBarrier bool, number int) pair {
	t.Helper()
	made := someSem
	if isBarrier {
		made = someBarrier
	}
	return pair{made(t, number), &model{isBarrier: isBarrier, number: number}}
}

func (p pair) copy() pair {
	return pair{p.x.another(), p.m.copy()}
}

// wantBoth does a call to both, and asks that they answer and stand alike, and that nobody waits who need not.
func wantBoth(t *testing.T, b both, p pair) {
	t.Helper()
	was := p.m.whole()
	got, answer := b.do(p.x), b.model(p.m)
	if got != answer || stand(p.x) != p.m.stand() || p.x.Len() != len(p.m.queue) {
		t.Errorf("%s of %s: %s, stands as %s, want %s, %s", b.name, was, got, stand(p.x), answer, p.m.stand())
	}
	if p.m.isBarrier && p.x.Len() >= p.x.number() || !p.m.isBarrier && p.x.Len() > 0 && p.x.number() > 0 {
		t.Errorf("%s of %s: %d wait, of %d", b.name, was, p.x.Len(), p.x.number())
	}
}

// starts are values and counts to begin with.
func starts(t *testing.T) []pair {
	t.Helper()
	var all []pair
	for _, value := range []int{0, 1, 2, 5, 32765, 32767} {
		all = append(all, newPair(t, false, value))
	}
	for _, count := range []int{1, 2, 3, 4, 9, 15, 16} {
		all = append(all, newPair(t, true, count))
	}
	return all
}

// P14.1 to P14.4: each state to which three threads of two priorities come, and in it each call.
func TestEachCallInEachStateThatThereIs(t *testing.T) {
	// Of three threads of two priorities there are 1 + 3*2 + 6*4 + 6*8 queues; a semaphore has values from 0 to 3 beside them.
	for start, states := range map[pair]int{
		newPair(t, false, 0): 79 + 3,
		newPair(t, true, 1):  1,
		newPair(t, true, 2):  1 + 6,
		newPair(t, true, 3):  1 + 6 + 24,
		newPair(t, true, 4):  79,
		newPair(t, true, 16): 79,
	} {
		if got := wantEachState(t, start); got != states && !t.Failed() {
			t.Errorf("%s: %d states were seen, want %d", start.m.whole(), got, states)
		}
	}
}

// wantEachState goes on by all calls till nothing new comes; it tells how many states there were.
func wantEachState(t *testing.T, start pair) int {
	t.Helper()
	var calls []both
	for which := range start.m.kinds() {
		for _, thread := range []int{0, 1, 2, -1} {
			for _, prio := range []int{1, 2, 0} {
				calls = append(calls, someBoth(which, thread, prio))
			}
		}
	}
	todo := []pair{start}
	seen := map[string]thing{start.m.whole(): start.x.another()}
	for len(todo) > 0 && !t.Failed() {
		at := todo[0]
		todo = todo[1:]
		for _, b := range calls {
			p := at.copy()
			wantBoth(t, b, p)
			name := p.m.whole()
			if first := seen[name]; first != nil {
				wantSame(t, name, p.x, first, true)
			} else if p.m.isBarrier || p.m.number <= 3 {
				seen[name] = p.x.another()
				todo = append(todo, p)
			}
		}
	}
	return len(seen)
}

// some is one of few, or now and then any, or none that may be.
func some(r *rand.Rand, few []int, most int) int {
	switch r.Intn(12) {
	case 0:
		return r.Intn(80) - 20
	case 1:
		return r.Intn(most + 1)
	}
	return few[r.Intn(len(few))]
}

// P14.1 to P14.4: long rows of calls, of many threads, and what is not to be, too.
func TestTheyDoAsTheChapterSays(t *testing.T) {
	r := rand.New(rand.NewSource(14))
	for _, threads := range [][]int{{0}, {0, 15}, {3, 4, 5}, {0, 1, 2, 3, 4, 5, 6, 7, 8, 9, 10, 11, 12, 13, 14, 15}} {
		for _, p := range starts(t) {
			for range 1500 {
				// Waits come about as often as all others together, so that many wait.
				which := max(0, r.Intn(2*p.m.kinds())-p.m.kinds())
				wantBoth(t, someBoth(which, some(r, threads, 15), some(r, []int{1, 2, 30, 31}, 31)), p)
				if t.Failed() {
					return
				}
			}
		}
	}
}

// P14.3: of two that go on apart Same and SameBarrier say what their models say.
func TestSameDoesAsTheChapterSays(t *testing.T) {
	r := rand.New(rand.NewSource(15))
	same, all := 0, 0
	for round := range 400 {
		isBarrier := round%2 == 1
		p, q := newPair(t, isBarrier, 1+r.Intn(3)), newPair(t, isBarrier, 1+r.Intn(3))
		for range 30 {
			wantBoth(t, someBoth(r.Intn(p.m.kinds()), r.Intn(3), 1+r.Intn(2)), p)
			wantBoth(t, someBoth(r.Intn(q.m.kinds()), r.Intn(3), 1+r.Intn(2)), q)
			is := p.m.whole() == q.m.whole()
			wantSame(t, "a step", p.x, q.x, is)
			if all++; is {
				same++
			}
		}
	}
	if same < all/20 || same > all-all/20 {
		t.Errorf("%d of %d were the same", same, all)
	}
}

// P14.3: copies that were taken by the way stay as they were, and go on as the one would have.
func TestCopiesStayAsTheyWere(t *testing.T) {
	r := rand.New(rand.NewSource(16))
	for _, p := range starts(t) {
		var copies []pair
		for range 200 {
			wantBoth(t, someBoth(max(0, r.Intn(2*p.m.kinds())-p.m.kinds()), r.Intn(16), 1+r.Intn(31)), p)
			copies = append(copies, p.copy())
		}
		for _, c := range copies {
			wantStand(t, "a copy", c.x, c.m.stand())
			for range 20 {
				wantBoth(t, someBoth(r.Intn(c.m.kinds()), r.Intn(16), 1+r.Intn(31)), c)
			}
		}
	}
}

// P14.4: what was posted, less what was got, and the first value are its value; whom Post wakes was the first one.
func TestWhatWasPostedIsGotOrThere(t *testing.T) {
	r := rand.New(rand.NewSource(17))
	for _, value := range []int{0, 1, 3, 32766, 32767} {
		s := someSem(t, value).(semaphore)
		posted, got, woken := 0, 0, 0
		for range 5000 {
			thread, prio := r.Intn(16), 1+r.Intn(31)
			switch r.Intn(6) {
			case 0, 1:
				if has, _ := s.Wait(thread, prio); has {
					got++
				}
			case 2:
				if s.Try() {
					got++
				}
			case 3:
				s.Leave(thread)
			case 4:
				s.Change(thread, prio)
			case 5:
				list := s.List()
				who, err := s.Post()
				if err == api.OK {
					posted++
				}
				if who >= 0 {
					got, woken = got+1, woken+1
				}
				if len(list) == 0 && who != -1 || len(list) > 0 && who != list[0] {
					t.Fatalf("Post wakes %d, of %v", who, list)
				}
			}
			if s.Value() != value+posted-got {
				t.Fatalf("the value is %d; it was %d, %d were posted, and %d got", s.Value(), value, posted, got)
			}
		}
		if value < 4 && woken < 100 {
			t.Errorf("from %d on %d were woken", value, woken)
		}
	}
}
