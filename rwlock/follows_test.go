package rwlock_test

import (
	"fmt"
	"math/rand"
	"slices"
	"strings"
	"testing"

	"metronome/api"
	"metronome/rwlock"
)

// model is a lock by the chapter's words alone; who has waited longest stands first in readers and in writers.
type model struct {
	writer           int // -1: nobody
	reads            [16]int
	readers, writers []api.Waiter
}

func newModel() *model {
	return &model{writer: -1}
}

func (m *model) copy() *model {
	return &model{m.writer, m.reads, slices.Clone(m.readers), slices.Clone(m.writers)}
}

// order is those who wait, one priority behind the other.
func order(line []api.Waiter) []api.Waiter {
	var list []api.Waiter
	for prio := 31; prio >= 1; prio-- {
		for _, w := range line {
			if w.Prio == prio {
				list = append(list, w)
			}
		}
	}
	return list
}

// threads is the order's threads.
func threads(line []api.Waiter) string {
	var list []int
	for _, w := range order(line) {
		list = append(list, w.Thread)
	}
	return listText(list)
}

// find is the line in which the thread waits, and its place there; nil, if it does not wait.
func (m *model) find(thread int) (*[]api.Waiter, int) {
	for _, line := range []*[]api.Waiter{&m.readers, &m.writers} {
		for i, w := range *line {
			if w.Thread == thread {
				return line, i
			}
		}
	}
	return nil, 0
}

func (m *model) held() bool {
	return m.writer >= 0 || m.reads != [16]int{}
}

func (m *model) mayRead(thread, prio int) bool {
	if m.writer >= 0 {
		return false
	}
	if m.reads[thread] > 0 {
		return true
	}
	return !slices.ContainsFunc(m.writers, func(w api.Waiter) bool { return w.Prio >= prio })
}

func mayBe(thread, prio int) bool {
	return thread >= 0 && thread <= 15 && prio >= 1 && prio <= 31
}

func (m *model) read(thread, prio int, stays bool) string {
	if !mayBe(thread, prio) {
		return "false ErrArg"
	}
	if line, _ := m.find(thread); line != nil || m.writer == thread {
		return "false ErrState"
	}
	if m.reads[thread] == 32767 {
		return "false ErrFull"
	}
	if m.mayRead(thread, prio) {
		m.reads[thread]++
		return "true OK"
	}
	if stays {
		m.readers = append(m.readers, api.Waiter{Thread: thread, Prio: prio})
	}
	return "false OK"
}

func (m *model) write(thread, prio int, stays bool) string {
	if !mayBe(thread, prio) {
		return "false ErrArg"
	}
	if line, _ := m.find(thread); line != nil || m.writer == thread || m.reads[thread] > 0 {
		return "false ErrState"
	}
	if !m.held() {
		m.writer = thread
		return "true OK"
	}
	if stays {
		m.writers = append(m.writers, api.Waiter{Thread: thread, Prio: prio})
	}
	return "false OK"
}

func (m *model) unlock(thread int) string {
	switch {
	case !mayBe(thread, 1):
		return "[] ErrArg"
	case m.writer == thread:
		m.writer = -1
	case m.reads[thread] > 0:
		m.reads[thread]--
	default:
		return "[] ErrNone"
	}
	return m.letIn()
}

func (m *model) leave(thread int) string {
	if !mayBe(thread, 1) {
		return "[] ErrArg"
	}
	if !m.drop(thread) {
		return "[] ErrNone"
	}
	return m.letIn()
}

func (m *model) drop(thread int) bool {
	line, at := m.find(thread)
	if line == nil {
		return false
	}
	*line = slices.Delete(*line, at, at+1)
	return true
}

func (m *model) change(thread, prio int) string {
	if !mayBe(thread, prio) {
		return "[] ErrArg"
	}
	line, at := m.find(thread)
	if line == nil {
		return "[] ErrNone"
	}
	(*line)[at].Prio = prio
	return m.letIn()
}

// letIn lets in one behind the other, till nobody may be.
func (m *model) letIn() string {
	var in []int
	for {
		thread := m.letOneIn()
		if thread < 0 {
			return listText(in) + " OK"
		}
		in = append(in, thread)
	}
}

// letOneIn is who is let in next; -1, if nobody may be.
func (m *model) letOneIn() int {
	readers, writers := order(m.readers), order(m.writers)
	if !m.held() && len(writers) > 0 {
		first := writers[0]
		if !slices.ContainsFunc(readers, func(w api.Waiter) bool { return w.Prio > first.Prio }) {
			m.drop(first.Thread)
			m.writer = first.Thread
			return first.Thread
		}
	}
	if m.writer < 0 && len(readers) > 0 && m.mayRead(readers[0].Thread, readers[0].Prio) {
		m.drop(readers[0].Thread)
		m.reads[readers[0].Thread]++
		return readers[0].Thread
	}
	return -1
}

func (m *model) stand() string {
	var all []string
	if m.writer >= 0 {
		all = append(all, fmt.Sprint("write ", m.writer))
	}
	for thread, n := range m.reads {
		if n > 0 {
			all = append(all, fmt.Sprintf("%d*%d", thread, n))
		}
	}
	if len(all) == 0 {
		all = append(all, "free")
	}
	return strings.Join(append(all, threads(m.readers), threads(m.writers)), " ")
}

// whole is all that the model is, as a text: also who has waited longest, and with which priority.
func (m *model) whole() string {
	return fmt.Sprint(m.writer, m.reads, append([]api.Waiter{}, m.readers...), append([]api.Waiter{}, m.writers...))
}

// both is a call, and what the model says of it.
type both struct {
	call
	model func(m *model) string
}

// kinds is how many calls someBoth tells apart.
const kinds = 7

func someBoth(which, thread, prio int) both {
	switch which {
	case 0:
		return both{read(thread, prio), func(m *model) string { return m.read(thread, prio, true) }}
	case 1:
		return both{write(thread, prio), func(m *model) string { return m.write(thread, prio, true) }}
	case 2:
		return both{tryRead(thread, prio), func(m *model) string { return m.read(thread, prio, false) }}
	case 3:
		return both{tryWrite(thread, prio), func(m *model) string { return m.write(thread, prio, false) }}
	case 4:
		return both{unlock(thread), func(m *model) string { return m.unlock(thread) }}
	case 5:
		return both{leave(thread), func(m *model) string { return m.leave(thread) }}
	}
	return both{change(thread, prio), func(m *model) string { return m.change(thread, prio) }}
}

// pair is a lock, and its model.
type pair struct {
	l *rwlock.Lock
	m *model
}

func newPair() pair {
	return pair{rwlock.New(), newModel()}
}

func (p pair) copy() pair {
	return pair{p.l.Copy(), p.m.copy()}
}

// wantBoth does a call to both, and asks that they answer and stand alike, and for what follows.
func wantBoth(t *testing.T, b both, p pair) {
	t.Helper()
	was := p.m.whole()
	got, answer := b.do(p.l), b.model(p.m)
	if got != answer || stand(p.l) != p.m.stand() {
		t.Errorf("%s of %s: %s, stands as %s, want %s, %s", b.name, was, got, stand(p.l), answer, p.m.stand())
		return
	}
	wantFollows(t, b.name+" of "+was, p)
}

// wantFollows asks for P15.4: by what the lock tells, and of the model only the priorities.
func wantFollows(t *testing.T, what string, p pair) {
	t.Helper()
	writer, written := p.l.Writer()
	for thread := range 16 {
		if written && p.l.Reads(thread) > 0 {
			t.Errorf("%s: %d writes, and %d reads", what, writer, thread)
		}
	}
	if !p.l.Held() && len(p.l.Readers())+len(p.l.Writers()) > 0 {
		t.Errorf("%s: nobody holds it, and some wait: %s", what, stand(p.l))
	}
	for _, reader := range p.m.readers {
		if !written && !slices.ContainsFunc(p.m.writers, func(w api.Waiter) bool { return w.Prio >= reader.Prio }) {
			t.Errorf("%s: %d waits to read, and may: %s", what, reader.Thread, stand(p.l))
		}
	}
}

// P15.1 to P15.4: each state to which three threads of two priorities come that read at most twice, and in it each call.
func TestEachCallInEachStateThatThereIs(t *testing.T) {
	var calls []both
	for which := range kinds {
		for _, thread := range []int{0, 1, 2, -1} {
			for _, prio := range []int{1, 2, 0} {
				calls = append(calls, someBoth(which, thread, prio))
			}
		}
	}
	start := newPair()
	todo := []pair{start}
	seen := map[string]*rwlock.Lock{start.m.whole(): start.l.Copy()}
	for len(todo) > 0 && !t.Failed() {
		at := todo[0]
		todo = todo[1:]
		for _, b := range calls {
			p := at.copy()
			wantBoth(t, b, p)
			name := p.m.whole()
			if first := seen[name]; first != nil {
				wantSame(t, name, p.l, first, true)
			} else if slices.Max(p.m.reads[:]) <= 2 {
				seen[name] = p.l.Copy()
				todo = append(todo, p)
			}
		}
	}
	// Free; one of three writes, and two others wait to read or to write or do not, of one line one ahead of the other;
	// three read; two of three read, and one waits to write or does not; one of three reads, and of two others some wait
	// to write, or one, and the other one to read, of no greater priority. Who reads does so once or twice.
	states := 1 + 3*(5*5+4+4) + 2*2*2 + 3*2*2*(1+2) + 3*2*(1+2*2+2*4+2*3)
	if len(seen) != states && !t.Failed() {
		t.Errorf("%d states were seen, want %d", len(seen), states)
	}
}

// some is one of few, or now and then any, or none that may be.
func some(r *rand.Rand, few []int, most int) int {
	switch r.Intn(12) {
	case 0:
		return r.Intn(80) - 20
	case 1:
		return r.Intn(most + 1)
	}
	return few[r.Intn(len(few))]
}

// starts are locks to begin with: one that nobody holds, and one that threads 3 and 4 hold nearly as often as may be.
func starts() []pair {
	full := newPair()
	for range 32766 {
		full.l.Read(3, 5)
		full.l.Read(4, 5)
	}
	full.m.reads[3], full.m.reads[4] = 32766, 32766
	return []pair{newPair(), full}
}

// P15.1 to P15.4: long rows of calls, of many threads, and what is not to be, too.
func TestItDoesAsTheChapterSays(t *testing.T) {
	r := rand.New(rand.NewSource(15))
	for _, few := range [][]int{{0}, {0, 15}, {3, 4, 5}, {1, 2, 3, 4, 5, 6}, {0, 1, 2, 3, 4, 5, 6, 7, 8, 9, 10, 11, 12, 13, 14, 15}} {
		for _, start := range starts() {
			p := start.copy()
			for range 4000 {
				wantBoth(t, someBoth(r.Intn(kinds), some(r, few, 15), some(r, []int{1, 2, 15, 30, 31}, 31)), p)
				if t.Failed() {
					return
				}
			}
		}
	}
}

// P15.1 to P15.4: locks that many wait for, and that are given back seldom.
func TestItDoesAsTheChapterSaysWhereManyWait(t *testing.T) {
	r := rand.New(rand.NewSource(16))
	most := 0
	for range 300 {
		p := newPair()
		for step := range 120 {
			which := r.Intn(2)
			if step >= 80 {
				which = []int{0, 1, 4, 4, 4, 5, 6, 6}[r.Intn(8)]
			}
			wantBoth(t, someBoth(which, r.Intn(16), 1+r.Intn(5)), p)
			most = max(most, len(p.m.readers)+len(p.m.writers))
			if t.Failed() {
				return
			}
		}
	}
	if most != 15 {
		t.Errorf("at most %d waited", most)
	}
}

// P15.3: of two that go on apart Same says what their models say.
func TestSameDoesAsTheChapterSays(t *testing.T) {
	r := rand.New(rand.NewSource(17))
	same, all := 0, 0
	for range 400 {
		p, q := newPair(), newPair()
		for range 30 {
			wantBoth(t, someBoth(r.Intn(kinds), r.Intn(2), 1+r.Intn(2)), p)
			wantBoth(t, someBoth(r.Intn(kinds), r.Intn(2), 1+r.Intn(2)), q)
			is := p.m.whole() == q.m.whole()
			wantSame(t, "a step", p.l, q.l, is)
			if all++; is {
				same++
			}
		}
	}
	if same < all/40 || same > all-all/40 {
		t.Errorf("%d of %d were the same", same, all)
	}
}

// P15.3: copies that were taken by the way stay as they were, and go on as the one would have.
func TestCopiesStayAsTheyWere(t *testing.T) {
	r := rand.New(rand.NewSource(18))
	for _, p := range starts() {
		var copies []pair
		for range 300 {
			wantBoth(t, someBoth(r.Intn(kinds), r.Intn(16), 1+r.Intn(31)), p)
			copies = append(copies, p.copy())
		}
		for _, c := range copies {
			wantStand(t, "a copy", c.l, c.m.stand())
			for range 20 {
				wantBoth(t, someBoth(r.Intn(kinds), r.Intn(16), 1+r.Intn(31)), c)
			}
		}
	}
}

// P15.4: whoever comes to write is of no lesser priority than those who wait to write yet.
func TestNoWriterIsPassedByALesserOne(t *testing.T) {
	r := rand.New(rand.NewSource(19))
	came := 0
	for range 200 {
		l, prios := rwlock.New(), map[int]int{}
		for range 200 {
			thread, prio := r.Intn(8), 1+r.Intn(31)
			was, written := l.Writer()
			switch r.Intn(6) {
			case 0, 1:
				if _, err := l.Write(thread, prio); err == api.OK {
					prios[thread] = prio
				}
			case 2:
				l.Read(thread, prio)
			case 3:
				l.Unlock(was)
			case 4:
				l.Unlock(thread)
			case 5:
				if toWrite, _ := l.Waiting(thread); toWrite {
					prios[thread] = prio
				}
				l.Change(thread, prio)
			}
			writer, ok := l.Writer()
			if !ok || written && was == writer {
				continue
			}
			came++
			for _, other := range l.Writers() {
				if prios[other] > prios[writer] {
					t.Fatalf("%d of priority %d writes, and %d of %d waits", writer, prios[writer], other, prios[other])
				}
			}
		}
	}
	if came < 1000 {
		t.Errorf("%d came to write", came)
	}
}
