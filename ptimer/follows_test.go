package ptimer_test

import (
	"cmp"
	"fmt"
	"math/big"
	"math/rand"
	"slices"
	"strings"
	"testing"

	"metronome/api"
	"metronome/ptimer"
)

// one is a timer by the chapter's words alone.
type one struct {
	armed            bool
	clock            int
	at, interval     int64
	set              int
	out              bool
	counted, overrun int
}

// model is timers by the chapter's words alone.
type model struct {
	timers []one
	// sets is how often one was set: so each is told from all others by when it was set.
	sets int
}

func newModel(n int) *model { return &model{timers: make([]one, n)} }

func (m *model) copy() *model { return &model{timers: slices.Clone(m.timers), sets: m.sets} }

func isTime(at int64) bool { return at >= 0 && at <= last }

// of is one of them, or nil.
func (m *model) of(id int) *one {
	if id < 0 || id >= len(m.timers) {
		return nil
	}
	return &m.timers[id]
}

func (m *model) set(o *one, clock int, at, interval int64) {
	m.sets++
	o.armed, o.clock, o.at, o.interval, o.set = true, clock, at, interval, m.sets
}

func (o *one) unset() { o.armed, o.clock, o.at, o.interval, o.set = false, 0, 0, 0, 0 }

func (m *model) arm(id, clock int, at, interval int64) string {
	o := m.of(id)
	if o == nil || clock != real && clock != mono || !isTime(at) || !isTime(interval) {
		return "ErrArg"
	}
	m.set(o, clock, at, interval)
	return "OK"
}

func (m *model) stop(id int) string {
	o := m.of(id)
	if o == nil {
		return "ErrArg"
	}
	o.unset()
	return "OK"
}

func (m *model) clear(id int) string {
	o := m.of(id)
	if o == nil {
		return "ErrArg"
	}
	*o = one{}
	return "OK"
}

func (m *model) taken(id int) string {
	o := m.of(id)
	if o == nil {
		return "0 ErrArg"
	}
	if o.out {
		o.out, o.overrun, o.counted = false, o.counted, 0
	}
	return fmt.Sprint(o.overrun, " OK")
}

// line is who is armed by that clock for now or earlier, by deadlines, of one deadline who was set first ahead.
func (m *model) line(clock int, now int64) []int {
	var line []int
	for id, o := range m.timers {
		if o.armed && o.clock == clock && o.at <= now {
			line = append(line, id)
		}
	}
	slices.SortFunc(line, func(a, b int) int {
		x, y := m.timers[a], m.timers[b]
		return cmp.Or(cmp.Compare(x.at, y.at), cmp.Compare(x.set, y.set))
	})
	return line
}

// often is how many of at, at and interval, and so on, are at most now, and the next one of them, with numbers without
// an end; a few are counted one by one.
func often(at, interval, now int64) (int64, int64) {
	times := int64(0)
	for ; times < 50; times++ {
		if at > now {
			return times, at
		}
		at += interval
	}
	n := new(big.Int).Sub(big.NewInt(now+interval), big.NewInt(at))
	n.Div(n, big.NewInt(interval))
	if n.Sign() < 0 {
		n.SetInt64(0)
	}
	next := new(big.Int).Add(big.NewInt(at), new(big.Int).Mul(n, big.NewInt(interval)))
	return times + n.Int64(), next.Int64()
}

func (m *model) due(clock int, now int64) string {
	if clock != real && clock != mono || !isTime(now) {
		return "[]"
	}
	told := []int{}
	for _, id := range m.line(clock, now) {
		o := &m.timers[id]
		at, interval := o.at, o.interval
		o.unset()
		times := int64(1)
		if interval > 0 {
			var next int64
			if times, next = often(at, interval, now); next <= last {
				m.set(o, clock, next, interval)
			}
		}
		if !o.out {
			told = append(told, id)
			o.out = true
			times--
		}
		o.counted = int(min(int64(o.counted)+times, most))
	}
	return fmt.Sprint(told)
}

func (m *model) stand() string {
	var each []string
	for _, o := range m.timers {
		each = append(each, text(api.TimerAt{Armed: o.armed, Clock: o.clock, At: o.at, Interval: o.interval, Out: o.out, Counted: o.counted, Overrun: o.overrun}))
	}
	return fmt.Sprint(strings.Join(each, "; "), " | ", listText(m.line(real, last)), " ", listText(m.line(mono, last)))
}

// both is a call to timers, and the same one to their model.
type both struct {
	call
	model func(m *model) string
}

func armBoth(id, clock int, at, interval int64) both {
	return both{arm(id, clock, at, interval), func(m *model) string { return m.arm(id, clock, at, interval) }}
}

func stopBoth(id int) both { return both{stop(id), func(m *model) string { return m.stop(id) }} }

func clearBoth(id int) both { return both{clear(id), func(m *model) string { return m.clear(id) }} }

func takenBoth(id int) both { return both{taken(id), func(m *model) string { return m.taken(id) }} }

func dueBoth(clock int, now int64) both {
	return both{due(clock, now), func(m *model) string { return m.due(clock, now) }}
}

// pair is timers, and their model.
type pair struct {
	x *ptimer.Timers
	m *model
}

func newPair(t *testing.T, n int) pair {
	t.Helper()
	return pair{fresh(t, n), newModel(n)}
}

func (p pair) copy() pair { return pair{p.x.Copy(), p.m.copy()} }

// wantBoth does a call to both, and asks that they answer and stand alike.
func wantBoth(t *testing.T, b both, p pair) {
	t.Helper()
	was := p.m.stand()
	got, answer := b.do(p.x), b.model(p.m)
	if got != answer {
		t.Errorf("%s of %s: %s, want %s", b.name, was, got, answer)
	}
	wantStand(t, b.name+" of "+was, p.x, p.m.stand())
}

// walk goes to each state to which these calls come, as far as is to be gone on from it, and does each call in it; it
// tells how many states there were from which it went on.
func walk(t *testing.T, n int, calls []both, goOn func(m *model) bool) int {
	t.Helper()
	start := newPair(t, n)
	todo := []pair{start}
	seen := map[string]*ptimer.Timers{start.m.stand(): start.x.Copy()}
	for len(todo) > 0 && !t.Failed() {
		at := todo[0]
		todo = todo[1:]
		for _, b := range calls {
			p := at.copy()
			wantBoth(t, b, p)
			if !goOn(p.m) {
				continue
			}
			name := p.m.stand()
			if first := seen[name]; first != nil {
				wantSame(t, name, p.x, first, true)
			} else {
				seen[name] = p.x.Copy()
				todo = append(todo, p)
			}
		}
	}
	return len(seen)
}

// P19.1 to P19.5: each state of two timers with few deadlines and counts of at most 1, and in it each call. Each timer
// has one of 6 ways to be told of (its notice is not out: 2 overruns; it is: 2 counts and 2 overruns), and is not
// armed, or armed by one of 2 clocks for 1 or 2 once, or for 1, 2 or 3 with the interval 1. Where both are armed by one
// clock for the same deadline, which is so 2 times 2 times 2 ways for 1 and for 2, and once for 3, there are 2 orders.
func TestEachCallInEachStateOfTwo(t *testing.T) {
	calls := []both{armBoth(2, mono, 1, 0), armBoth(0, 2, 1, 0), armBoth(1, mono, -1, 0), armBoth(1, mono, 1, last+1), stopBoth(-1), clearBoth(2), takenBoth(2), dueBoth(2, 3), dueBoth(mono, -1), dueBoth(mono, last+1)}
	for id := range 2 {
		calls = append(calls, stopBoth(id), clearBoth(id), takenBoth(id))
		for _, clock := range []int{real, mono} {
			for _, at := range []int64{1, 2} {
				calls = append(calls, armBoth(id, clock, at, 0), armBoth(id, clock, at, 1))
			}
		}
	}
	for _, clock := range []int{real, mono} {
		for now := range int64(4) {
			calls = append(calls, dueBoth(clock, now))
		}
	}
	states := walk(t, 2, calls, func(m *model) bool {
		return !slices.ContainsFunc(m.timers, func(o one) bool { return o.at > 3 || o.counted > 1 || o.overrun > 1 })
	})
	armed := 1 + 2*(2+3)
	alike := 2 * (2*2 + 2*2 + 1)
	if want := 6 * 6 * (armed*armed + alike); states != want && !t.Failed() {
		t.Errorf("%d states were seen, want %d", states, want)
	}
}

// P19.1 to P19.5: each state of one timer with deadlines, intervals and nows at the ends of time, and few or the most
// counted, and in it each call.
func TestEachCallInEachStateAtTheEnds(t *testing.T) {
	calls := []both{stopBoth(0), clearBoth(0), takenBoth(0), dueBoth(real, last)}
	ends := []int64{0, 1, last - 1, last}
	for _, at := range ends {
		calls = append(calls, dueBoth(mono, at), armBoth(0, real, at, 1))
		for _, interval := range append([]int64{last / 2}, ends...) {
			calls = append(calls, armBoth(0, mono, at, interval))
		}
	}
	states := walk(t, 1, calls, func(m *model) bool {
		o := m.timers[0]
		return (o.counted <= 2 || o.counted == most) && (o.overrun <= 2 || o.overrun == most)
	})
	if states < 500 && !t.Failed() {
		t.Errorf("%d states were seen", states)
	}
}

// someTime is one of few, or now and then any one, or none that may be.
func someTime(r *rand.Rand, few int64) int64 {
	switch r.Intn(40) {
	case 0:
		return noTimes()[r.Intn(len(noTimes()))]
	case 1:
		return times()[r.Intn(len(times()))]
	case 2:
		return r.Int63n(last + 1)
	}
	return r.Int63n(few)
}

// someBoth is any call of few or many timers; now and then with what may not be.
func someBoth(r *rand.Rand, n int, few int64) both {
	id, clock := r.Intn(n), r.Intn(2)
	switch r.Intn(60) {
	case 0:
		id = r.Intn(40) - 15
	case 1:
		clock = r.Intn(8) - 3
	}
	switch r.Intn(20) {
	case 0:
		return stopBoth(id)
	case 1:
		return clearBoth(id)
	case 2, 3, 4, 5:
		return takenBoth(id)
	case 6, 7, 8, 9, 10, 11:
		return dueBoth(clock, someTime(r, few))
	case 12, 13, 14:
		return armBoth(id, clock, someTime(r, few), 0)
	}
	return armBoth(id, clock, someTime(r, few), someTime(r, few/2))
}

// P19.1 to P19.5: long rows of calls, of one timer and of as many as may be, with few and many deadlines.
func TestTheyDoAsTheChapterSays(t *testing.T) {
	r := rand.New(rand.NewSource(19))
	for _, n := range []int{1, 2, 3, 8} {
		for _, few := range []int64{6, 150, 1 << 20} {
			p := newPair(t, n)
			for range 3000 {
				wantBoth(t, someBoth(r, n, few), p)
				if t.Failed() {
					return
				}
			}
		}
	}
}

// P19.4: of two that go on apart Same says what their models say.
func TestSameDoesAsTheChapterSays(t *testing.T) {
	r := rand.New(rand.NewSource(20))
	same, rounds := 0, 0
	for range 300 {
		p, q := newPair(t, 2), newPair(t, 2)
		for range 30 {
			wantBoth(t, someBoth(r, 2, 3), p)
			wantBoth(t, someBoth(r, 2, 3), q)
			is := p.m.stand() == q.m.stand()
			wantSame(t, "a step", p.x, q.x, is)
			if rounds++; is {
				same++
			}
		}
	}
	if same < rounds/200 || same > rounds/2 {
		t.Errorf("%d of %d were the same", same, rounds)
	}
}

// P19.4: copies that were taken by the way stay as they were, and go on as those would have.
func TestCopiesStayAsTheyWere(t *testing.T) {
	r := rand.New(rand.NewSource(21))
	p := newPair(t, 5)
	var copies []pair
	for range 400 {
		wantBoth(t, someBoth(r, 5, 20), p)
		copies = append(copies, p.copy())
	}
	for _, c := range copies {
		wantStand(t, "a copy", c.x, c.m.stand())
		for range 20 {
			wantBoth(t, someBoth(r, 5, 20), c)
		}
	}
}

// P19.5: one with an interval, asked at each time, is due at its deadline and each interval behind it, whether its
// notices are taken or not.
func TestAskedAtEachTimeItIsDueAtEachInterval(t *testing.T) {
	for interval := int64(1); interval <= 9; interval++ {
		for at := range int64(12) {
			x := fresh(t, 2, arm(0, mono, at, interval), arm(1, mono, at, interval))
			times := 0
			for now := range int64(100) {
				told := x.Due(mono, now)
				first := slices.Contains(told, 1)
				isDue := now >= at && (now-at)%interval == 0
				if slices.Contains(told, 0) != isDue || first != (now == at) {
					t.Fatalf("armed for %d and each %d: at %d told are %v", at, interval, now, told)
				}
				if isDue {
					times++
					want(t, x, taken(0), "0 OK")
				}
				if one, _ := x.At(1); one.Counted != max(times-1, 0) {
					t.Fatalf("armed for %d and each %d: at %d counted are %d of %d", at, interval, now, one.Counted, times)
				}
			}
		}
	}
}

// P19.5: at the end of time, too, till none of its deadlines is left.
func TestAskedAtTheLastTimes(t *testing.T) {
	for interval := int64(1); interval <= 9; interval++ {
		for ahead := range int64(12) {
			x := fresh(t, 1, arm(0, real, last-ahead, interval))
			for now := int64(last - 20); now <= last; now++ {
				isDue := now >= last-ahead && (now-(last-ahead))%interval == 0
				if told := x.Due(real, now); len(told) > 0 != isDue {
					t.Fatalf("armed for %d ahead of the last time, and each %d: at %d told are %v", ahead, interval, now, told)
				}
				x.Taken(0)
			}
			wantStand(t, "behind the last time", x, "off 0 0 | [] []")
		}
	}
}

// P19.5: notices that were taken, and what they overran, are together how often it was due.
func TestNoticesAndOverrunsAreHowOftenItWasDue(t *testing.T) {
	r := rand.New(rand.NewSource(22))
	for range 200 {
		at, interval, now := r.Int63n(50), 1+r.Int63n(20), int64(0)
		x := fresh(t, 3, arm(1, mono, at, interval))
		notices, overran := 0, 0
		for range 100 {
			now += r.Int63n(40)
			x.Due(mono, now)
			if one, _ := x.At(1); one.Out && r.Intn(3) == 0 {
				n, err := x.Taken(1)
				if err != api.OK {
					t.Fatalf("Taken is %s", errText(err))
				}
				notices++
				overran += n
			}
			times, _ := often(at, interval, now)
			one, _ := x.At(1)
			sum := notices + overran + one.Counted
			if one.Out {
				sum++
			}
			if int64(sum) != times {
				t.Fatalf("armed for %d and each %d: till %d it was due %d times, %d notices and %d overran, and it stands as %s", at, interval, now, times, notices, overran, text(one))
			}
		}
		if notices < 5 {
			t.Errorf("%d notices were taken", notices)
		}
	}
}
