package signals_test

import (
	"fmt"
	"math/rand"
	"slices"
	"testing"

	"metronome/api"
	"metronome/signals"
)

// sent is a signal that queues, as it was sent.
type sent struct {
	thread int
	signal api.Signal
}

// model is signals by the chapter's words alone: one queue of all threads, in the order in which they were sent.
type model struct {
	threads, slots int
	masks          map[int]uint32
	plain          map[int]map[int]bool
	queue          []sent
}

func newModel(threads, slots int) *model {
	m := &model{threads: threads, slots: slots, masks: map[int]uint32{}, plain: map[int]map[int]bool{}}
	for thread := range threads {
		m.masks[thread], m.plain[thread] = 0, map[int]bool{}
	}
	return m
}

func (m *model) copy() *model {
	other := newModel(m.threads, m.slots)
	for thread := range m.threads {
		other.masks[thread] = m.masks[thread]
		for number := range m.plain[thread] {
			other.plain[thread][number] = true
		}
	}
	other.queue = slices.Clone(m.queue)
	return other
}

func (m *model) has(thread int) bool {
	_, ok := m.masks[thread]
	return ok
}

func (m *model) send(thread, number int, value int64) string {
	switch {
	case !m.has(thread) || number < 1 || number > 31:
		return "ErrArg"
	case number <= 15:
		m.plain[thread][number] = true
	case len(m.queue) == m.slots:
		return "ErrFull"
	default:
		m.queue = append(m.queue, sent{thread, api.Signal{Number: number, Value: value}})
	}
	return "OK"
}

func (m *model) setMask(thread int, set uint32) string {
	if !m.has(thread) {
		return "[] ErrArg"
	}
	had := m.masks[thread]
	m.masks[thread] = set / 2 * 2
	return fmt.Sprint(numbers(had), " OK")
}

// order is what is pending for the thread, by rising numbers, those of one number as they were sent.
func (m *model) order(thread int) []api.Signal {
	list := []api.Signal{}
	for number := 1; number <= 31; number++ {
		if m.plain[thread][number] {
			list = append(list, api.Signal{Number: number})
		}
		for _, x := range m.queue {
			if x.thread == thread && x.signal.Number == number {
				list = append(list, x.signal)
			}
		}
	}
	return list
}

func (m *model) peek(thread int, within uint32) (api.Signal, bool) {
	for _, x := range m.order(thread) {
		if slices.Contains(numbers(within), x.Number) {
			return x, true
		}
	}
	return api.Signal{}, false
}

func (m *model) next(thread int, within uint32) (api.Signal, bool) {
	x, ok := m.peek(thread, within)
	if ok {
		delete(m.plain[thread], x.Number)
		if at := slices.Index(m.queue, sent{thread, x}); at >= 0 {
			m.queue = slices.Delete(m.queue, at, at+1)
		}
	}
	return x, ok
}

func (m *model) clear(thread int) string {
	if !m.has(thread) {
		return "0 ErrArg"
	}
	n := len(m.order(thread))
	m.masks[thread], m.plain[thread] = 0, map[int]bool{}
	m.queue = slices.DeleteFunc(m.queue, func(x sent) bool { return x.thread == thread })
	return fmt.Sprint(n, " OK")
}

// stand is what stand tells of signals.
func (m *model) stand() string {
	text := fmt.Sprint("used ", len(m.queue))
	for thread := range m.threads {
		if mask, pending := m.masks[thread], m.order(thread); mask != 0 || len(pending) > 0 {
			text += fmt.Sprintf("; %d: %v %v", thread, numbers(mask), pending)
		}
	}
	return text
}

// both is a call, and what the model says of it.
type both struct {
	call
	model func(m *model) string
}

func sendBoth(thread, number int, value int64) both {
	return both{send(thread, number, value), func(m *model) string { return m.send(thread, number, value) }}
}

func setMaskBoth(thread int, set uint32) both {
	return both{setMask(thread, set), func(m *model) string { return m.setMask(thread, set) }}
}

func peekBoth(thread int, within uint32) both {
	return both{peek(thread, within), func(m *model) string { return fmt.Sprint(m.peek(thread, within)) }}
}

func nextBoth(thread int, within uint32) both {
	return both{next(thread, within), func(m *model) string { return fmt.Sprint(m.next(thread, within)) }}
}

func clearBoth(thread int) both {
	return both{clearOf(thread), func(m *model) string { return m.clear(thread) }}
}

// pair is signals, and their model.
type pair struct {
	s *signals.Signals
	m *model
}

func newPair(t *testing.T, threads, slots int) pair {
	t.Helper()
	return pair{fresh(t, threads, slots), newModel(threads, slots)}
}

func (p pair) copy() pair {
	return pair{p.s.Copy(), p.m.copy()}
}

// wantBoth does a call to both, and asks that they answer and stand alike.
func wantBoth(t *testing.T, b both, p pair) {
	t.Helper()
	was := p.m.stand()
	got, answer := b.do(p.s), b.model(p.m)
	if got != answer {
		t.Errorf("%s of %s: %s, want %s", b.name, was, got, answer)
	}
	if got, text := stand(p.s), p.m.stand(); got != text {
		t.Errorf("%s of\n%s: they stand as\n%s, want\n%s", b.name, was, got, text)
	}
}

// fewCalls are calls to two threads, one of which has two signals of each kind.
func fewCalls() []both {
	calls := []both{sendBoth(2, 3, 1), sendBoth(0, 0, 1), sendBoth(1, 32, 1), setMaskBoth(-1, all), clearBoth(2)}
	for thread := range 2 {
		for _, number := range []int{1, 15, 16, 31}[thread:] {
			calls = append(calls, sendBoth(thread, number, 1))
			if number > 15 {
				calls = append(calls, sendBoth(thread, number, 2))
			}
		}
		for _, set := range []uint32{0, of(0), all, of(31, 1), all - of(1, 16)} {
			calls = append(calls, peekBoth(thread, set), nextBoth(thread, set))
		}
		calls = append(calls, setMaskBoth(thread, of(0)), setMaskBoth(thread, of(15, 31)), clearBoth(thread))
	}
	return calls
}

// P17.1 to P17.5: each state to which two threads come with four signals, two values and two slots, and in it each call.
func TestEachCallInEachStateThatThereIs(t *testing.T) {
	calls := fewCalls()
	start := newPair(t, 2, 2)
	todo := []pair{start}
	seen := map[string]*signals.Signals{start.m.stand(): start.s.Copy()}
	for len(todo) > 0 && !t.Failed() {
		at := todo[0]
		todo = todo[1:]
		for _, b := range calls {
			p := at.copy()
			wantBoth(t, b, p)
			name := p.m.stand()
			if first := seen[name]; first != nil {
				wantSame(t, name, p.s, first, true)
			} else {
				seen[name] = p.s.Copy()
				todo = append(todo, p)
			}
		}
	}
	// Each thread has a mask or none; the plain ones, 2 of the one thread and 1 of the other, are pending or not; queued
	// is none, or one of 4 rows with one of 2 values, or two in one row, or in two rows.
	if states := 2 * 2 * 8 * (1 + 4*2 + 4*4 + 6*4); len(seen) != states && !t.Failed() {
		t.Errorf("%d states were seen, want %d", len(seen), states)
	}
}

// someSet is a set of few bits, of nearly all, or of any.
func someSet(r *rand.Rand) uint32 {
	switch r.Intn(6) {
	case 0:
		return all
	case 1:
		return of(r.Intn(32), r.Intn(32))
	case 2:
		return all - of(r.Intn(32))
	case 3:
		return all << r.Intn(33)
	}
	return r.Uint32()
}

// someNumber is one of few, or now and then any, or none that may be.
func someNumber(r *rand.Rand, few []int) int {
	switch r.Intn(15) {
	case 0:
		return r.Intn(80) - 20
	case 1:
		return 1 + r.Intn(31)
	}
	return few[r.Intn(len(few))]
}

// someBoth is any call; Send is often, and Clear is seldom, so that much is pending.
func someBoth(r *rand.Rand, threads int, few []int) both {
	thread := r.Intn(threads)
	if r.Intn(20) == 0 {
		thread = r.Intn(40) - 12
	}
	switch n := r.Intn(30); {
	case n < 18:
		return sendBoth(thread, someNumber(r, few), r.Int63n(5)-2)
	case n < 25:
		return nextBoth(thread, someSet(r))
	case n < 27:
		return peekBoth(thread, someSet(r))
	case n < 29:
		return setMaskBoth(thread, someSet(r))
	}
	return clearBoth(thread)
}

// P17.1 to P17.5: long rows of calls, with few and many threads and slots, and with what is not to be, too.
func TestTheyDoAsTheChapterSays(t *testing.T) {
	r := rand.New(rand.NewSource(17))
	for _, threads := range []int{1, 2, 7, 16} {
		for _, slots := range []int{1, 2, 9, 32} {
			for _, few := range [][]int{{16}, {1, 15, 16, 31}, {3, 20, 21, 22, 23, 24}} {
				p := newPair(t, threads, slots)
				most := 0
				for range 700 {
					wantBoth(t, someBoth(r, threads, few), p)
					most = max(most, p.s.Used())
					if t.Failed() {
						return
					}
				}
				if most < min(slots, 9) {
					t.Errorf("of %d slots at most %d were used", slots, most)
				}
			}
		}
	}
}

// P17.4: of two that go on apart Same says what their models say.
func TestSameDoesAsTheChapterSays(t *testing.T) {
	r := rand.New(rand.NewSource(18))
	same, rounds := 0, 0
	little := func() both {
		thread := r.Intn(2)
		switch r.Intn(5) {
		case 0, 1:
			return sendBoth(thread, []int{2, 16, 17}[r.Intn(3)], r.Int63n(2))
		case 2:
			return nextBoth(thread, all)
		case 3:
			return setMaskBoth(thread, of(r.Intn(2)))
		}
		return clearBoth(thread)
	}
	for range 400 {
		p, q := newPair(t, 2, 2), newPair(t, 2, 2)
		for range 30 {
			wantBoth(t, little(), p)
			wantBoth(t, little(), q)
			is := p.m.stand() == q.m.stand()
			wantSame(t, "a step", p.s, q.s, is)
			if rounds++; is {
				same++
			}
		}
	}
	if same < rounds/50 || same > rounds/2 {
		t.Errorf("%d of %d were the same", same, rounds)
	}
}

// P17.4: copies that were taken by the way stay as they were, and go on as the one would have.
func TestCopiesStayAsTheyWere(t *testing.T) {
	r := rand.New(rand.NewSource(19))
	few := []int{1, 16, 31}
	p := newPair(t, 4, 20)
	var copies []pair
	for range 300 {
		wantBoth(t, someBoth(r, 4, few), p)
		copies = append(copies, p.copy())
	}
	for _, c := range copies {
		wantStand(t, "a copy", c.s, c.m.stand())
		for range 20 {
			wantBoth(t, someBoth(r, 4, few), c)
		}
	}
}

// P17.5: each that was sent is taken once, or cleared; those of one thread and number in the order in which they were
// sent, with their values; never more are used than there are slots.
func TestWhatWasSentIsTakenOnce(t *testing.T) {
	r := rand.New(rand.NewSource(20))
	for _, slots := range []int{1, 2, 31, 32} {
		s := fresh(t, 16, slots)
		// sentNow and takenNow go on for ever, so that no value comes twice.
		sentNow, taken := int64(0), int64(0)
		rows := map[sent][]int64{}
		queued := 0
		check := func(thread int, x api.Signal) {
			row := sent{thread, api.Signal{Number: x.Number}}
			if len(rows[row]) == 0 || rows[row][0] != x.Value {
				t.Fatalf("taken is %v of thread %d, and sent were %v", x, thread, rows[row])
			}
			rows[row] = rows[row][1:]
			queued--
			taken++
		}
		for range 20000 {
			thread := r.Intn(16)
			switch n := r.Intn(20); {
			case n < 12:
				sentNow++
				number, err := 16+r.Intn(16), api.OK
				if queued == slots {
					err = api.ErrFull
				}
				if got := s.Send(thread, number, sentNow); got != err {
					t.Fatalf("Send is %s, where %d of %d are used", errText(got), queued, slots)
				}
				if err == api.OK {
					row := sent{thread, api.Signal{Number: number}}
					rows[row] = append(rows[row], sentNow)
					queued++
				}
			case n < 19:
				if x, ok := s.Next(thread, someSet(r)); ok {
					check(thread, x)
				}
			default:
				cleared := list(s, thread)
				if n, err := s.Clear(thread); n != len(cleared) || err != api.OK {
					t.Fatalf("Clear is %d, %s, where All went over %v", n, errText(err), cleared)
				}
				for _, x := range cleared {
					check(thread, x)
				}
			}
			if s.Used() != queued || s.Used() > slots {
				t.Fatalf("%d are used, want %d of %d", s.Used(), queued, slots)
			}
		}
		for thread := range 16 {
			for {
				x, ok := s.Next(thread, all)
				if !ok {
					break
				}
				check(thread, x)
			}
		}
		if queued != 0 || s.Used() != 0 || taken < 200 {
			t.Errorf("%d are left, %d used, %d were taken", queued, s.Used(), taken)
		}
	}
}
