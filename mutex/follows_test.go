package mutex_test

import (
	"fmt"
	"math/rand"
	"slices"
	"strings"
	"testing"

	"metronome/api"
	"metronome/mutex"
)

// model is a mutex by the chapter's words alone; who has waited longest stands first in queue.
type model struct {
	form
	owner, count int
	state        string
	queue        []api.Waiter
}

func newModel(f form) *model {
	return &model{form: f, owner: -1, state: "well"}
}

func (m *model) copy() *model {
	other := *m
	other.queue = slices.Clone(m.queue)
	return &other
}

func (m *model) place(t int) int {
	return slices.IndexFunc(m.queue, func(w api.Waiter) bool { return w.Thread == t })
}

func thread(t int) bool { return t >= 0 && t <= 15 }

func prio(p int) bool { return p >= 1 && p <= 31 }

// order is those who wait, one priority behind the other.
func (m *model) order() []int {
	var list []int
	for p := 31; p >= 1; p-- {
		for _, w := range m.queue {
			if w.Prio == p {
				list = append(list, w.Thread)
			}
		}
	}
	return list
}

func (m *model) leave(t int) string {
	if m.place(t) < 0 {
		return "false"
	}
	m.queue = slices.Delete(m.queue, m.place(t), m.place(t)+1)
	return "true"
}

func (m *model) change(t, p int) string {
	if m.place(t) < 0 || !prio(p) {
		return "false"
	}
	m.queue[m.place(t)].Prio = p
	return "true"
}

// wait is that it would wait.
const wait = "it would wait"

// take is a lock by a thread of that base that has not been refused for what it is: what it is told, or that it would wait.
func (m *model) take(t int) string {
	if m.state == "lost" {
		return "ENOTRECOVERABLE"
	}
	if m.owner == t && m.kind == api.KindRecursive {
		if m.count >= 32767 {
			return "EAGAIN"
		}
		m.count++
		return "0"
	}
	if m.owner != -1 || m.state == "gone" {
		return wait
	}
	m.owner, m.count = t, 1
	if m.state == "left" {
		return "EOWNERDEAD"
	}
	return "0"
}

func (m *model) wrong(t, base int) bool {
	return !thread(t) || !prio(base) || m.place(t) >= 0 || m.protocol == api.ProtocolProtect && base > m.ceiling
}

func (m *model) lock(t, p, base int) string {
	if m.wrong(t, base) || !prio(p) {
		return "false EINVAL"
	}
	if m.owner == t && m.kind == api.KindCheck {
		return "false EDEADLK"
	}
	told := m.take(t)
	if told == wait {
		m.queue = append(m.queue, api.Waiter{Thread: t, Prio: p})
		return "false 0"
	}
	return fmt.Sprint(told == "0" || told == "EOWNERDEAD", " ", told)
}

func (m *model) try(t, base int) string {
	if m.wrong(t, base) {
		return "EINVAL"
	}
	if told := m.take(t); told != wait {
		return told
	}
	return "EBUSY"
}

// next is who gets it, as a list of one or nobody.
func (m *model) next(told string) string {
	list := m.order()
	if len(list) == 0 {
		return "[]"
	}
	m.leave(list[0])
	m.owner, m.count = list[0], 1
	return fmt.Sprintf("[%d:%s]", list[0], told)
}

func (m *model) unlock(t int) string {
	if !thread(t) {
		return "[] EINVAL"
	}
	if m.owner != t {
		return "[] EPERM"
	}
	if m.count > 1 {
		m.count--
		return "[] 0"
	}
	m.owner, m.count = -1, 0
	if m.state != "left" {
		return m.next("0") + " 0"
	}
	m.state = "lost"
	var words []string
	for _, w := range m.order() {
		words = append(words, fmt.Sprint(w, ":ENOTRECOVERABLE"))
	}
	m.queue = nil
	return "[" + strings.Join(words, " ") + "] 0"
}

func (m *model) consistent(t int) string {
	if !thread(t) || !m.robust || m.state != "left" || m.owner != t {
		return "EINVAL"
	}
	m.state = "well"
	return "0"
}

func (m *model) ended(t int) string {
	if !thread(t) || m.owner != t {
		return "[]"
	}
	m.owner, m.count = -1, 0
	if !m.robust {
		m.state = "gone"
		return "[]"
	}
	m.state = "left"
	return m.next("EOWNERDEAD")
}

func (m *model) ceil(t, ceiling int) string {
	if !thread(t) || m.protocol != api.ProtocolProtect || !prio(ceiling) {
		return "0 EINVAL"
	}
	if m.owner != -1 && m.owner != t {
		return "0 EBUSY"
	}
	elder := m.ceiling
	m.ceiling = ceiling
	return fmt.Sprint(elder, " 0")
}

func (m *model) stand() string {
	state := slices.Index([]string{"well", "left", "lost", "gone"}, m.state)
	return standText(m.owner, m.count, state, m.ceiling, m.order())
}

// whole is all that the model is, as a text: also who has waited longest, and with which priority.
func (m *model) whole() string {
	return fmt.Sprint(m.form, " ", m.stand(), " ", m.queue)
}

// both is a call of a mutex, and what the model says of it.
type both struct {
	call
	model func(m *model) string
}

func someBoth(which, t, p, base int) both {
	switch which {
	case 0:
		return both{lock(t, p, base), func(m *model) string { return m.lock(t, p, base) }}
	case 1:
		return both{try(t, base), func(m *model) string { return m.try(t, base) }}
	case 2:
		return both{unlock(t), func(m *model) string { return m.unlock(t) }}
	case 3:
		return both{consistent(t), func(m *model) string { return m.consistent(t) }}
	case 4:
		return both{ended(t), func(m *model) string { return m.ended(t) }}
	case 5:
		return both{leave(t), func(m *model) string { return m.leave(t) }}
	case 6:
		return both{change(t, p), func(m *model) string { return m.change(t, p) }}
	}
	return both{ceil(t, p), func(m *model) string { return m.ceil(t, p) }}
}

// wantBoth does a call to both, and asks that they answer and stand alike.
func wantBoth(t *testing.T, b both, x *mutex.Mutex, m *model) {
	t.Helper()
	was := m.copy()
	got, answer := b.do(x), b.model(m)
	if got != answer || stand(x) != m.stand() {
		t.Errorf("%s of %s: %s, stands as %s, want %s, %s", b.name, was.whole(), got, stand(x), answer, m.stand())
	}
}

// wantNobodyForgotten is P13.6's first sentence, by what the mutex itself tells.
func wantNobodyForgotten(t *testing.T, what string, x *mutex.Mutex) {
	t.Helper()
	at := x.At()
	if len(x.Waiting()) > 0 && at.Owner == -1 && at.State != api.Gone {
		t.Errorf("%s: they wait for one that is free: %s", what, stand(x))
	}
	if (at.Owner == -1) != (at.Count == 0) || at.Owner != -1 && (at.State == api.Lost || at.State == api.Gone) {
		t.Errorf("%s: %s", what, stand(x))
	}
}

// manyCalls are all calls of those threads with those priorities.
func manyCalls(threads, prios []int) []both {
	var all []both
	for _, thread := range threads {
		for which := 1; which <= 5; which++ {
			all = append(all, someBoth(which, thread, 0, 1))
		}
		for _, p := range prios {
			all = append(all, someBoth(0, thread, p, 1), someBoth(0, thread, 1, p), someBoth(1, thread, 0, p), someBoth(6, thread, p, 0), someBoth(7, thread, p, 0))
		}
	}
	return all
}

// P13.2 to P13.6: each state to which three threads of two priorities come, and in it each call.
func TestEachCallInEachStateThatThereIs(t *testing.T) {
	calls := manyCalls([]int{0, 1, 2, -1}, []int{1, 2, 0})
	for _, kind := range allKinds() {
		for _, robust := range []bool{false, true} {
			for _, f := range []form{{kind, api.ProtocolNone, 0, robust}, {kind, api.ProtocolInherit, 0, robust}, {kind, api.ProtocolProtect, 1, robust}} {
				seen := wantEachState(t, f, calls)
				if t.Failed() {
					return
				}
				// The fewest are of KindCheck, robust: 3 owners with 13 queues of the two others, well or left; and free, left, lost without an owner.
				if seen < 3*13*2+3 {
					t.Errorf("%v: %d states were seen", f, seen)
				}
			}
		}
	}
}

// wantEachState goes on from one that is free, by all calls, till nothing new comes; it tells how many states there were.
func wantEachState(t *testing.T, f form, calls []both) int {
	t.Helper()
	type pair struct {
		x *mutex.Mutex
		m *model
	}
	todo := []pair{{f.made(t), newModel(f)}}
	seen := map[string]*mutex.Mutex{todo[0].m.whole(): todo[0].x.Copy()}
	for len(todo) > 0 && !t.Failed() {
		at := todo[0]
		todo = todo[1:]
		for _, b := range calls {
			x, m := at.x.Copy(), at.m.copy()
			wantBoth(t, b, x, m)
			wantNobodyForgotten(t, b.name, x)
			name := m.whole()
			if first := seen[name]; first != nil {
				wantSame(t, name, x, first, true)
			} else if m.count <= 2 {
				seen[name] = x.Copy()
				todo = append(todo, pair{x, m})
			}
		}
	}
	return len(seen)
}

// some is one of few, or now and then any, or none that may be.
func some(r *rand.Rand, few []int, most int) int {
	switch r.Intn(12) {
	case 0:
		return r.Intn(80) - 20
	case 1:
		return r.Intn(most + 1)
	}
	return few[r.Intn(len(few))]
}

// P13.2 to P13.6: long rows of calls, of many threads, and what is not to be, too.
func TestMutexesDoAsTheChapterSays(t *testing.T) {
	r := rand.New(rand.NewSource(13))
	for _, f := range forms() {
		for _, threads := range [][]int{{0}, {0, 15}, {3, 4, 5}, {0, 1, 2, 3, 4, 5, 6, 7, 8, 9, 10, 11, 12, 13, 14, 15}} {
			x, m := f.made(t), newModel(f)
			for range 600 {
				if m.state == "lost" || m.state == "gone" && r.Intn(20) == 0 {
					x, m = f.made(t), newModel(f)
				}
				// Locks come as often as all others together, so that many wait.
				which := max(0, r.Intn(16)-8)
				wantBoth(t, someBoth(which, some(r, threads, 15), some(r, []int{1, 2, 30, 31}, 31), some(r, []int{1, 1, 31}, 31)), x, m)
				wantNobodyForgotten(t, fmt.Sprint(f), x)
				if t.Failed() {
					return
				}
			}
		}
	}
}

// P13.5: of two that go on apart Same says what their models say.
func TestSameDoesAsTheChapterSays(t *testing.T) {
	r := rand.New(rand.NewSource(14))
	same, all := 0, 0
	for range 400 {
		f := forms()[r.Intn(len(forms()))]
		x, m := f.made(t), newModel(f)
		y, n := f.made(t), newModel(f)
		for range 30 {
			wantBoth(t, someBoth(r.Intn(8), r.Intn(2), 1+r.Intn(2), 1), x, m)
			wantBoth(t, someBoth(r.Intn(8), r.Intn(2), 1+r.Intn(2), 1), y, n)
			is := m.whole() == n.whole()
			wantSame(t, "a step", x, y, is)
			if all++; is {
				same++
			}
		}
	}
	if same < all/20 || same > all-all/20 {
		t.Errorf("%d of %d were the same", same, all)
	}
}

// P13.5: copies that were taken by the way stay as they were.
func TestCopiesStayAsTheyWere(t *testing.T) {
	r := rand.New(rand.NewSource(15))
	for _, f := range forms() {
		x, m := f.made(t), newModel(f)
		var copies []*mutex.Mutex
		var were []*model
		for range 200 {
			wantBoth(t, someBoth(max(0, r.Intn(16)-8), r.Intn(16), 1+r.Intn(31), 1), x, m)
			copies, were = append(copies, x.Copy()), append(were, m.copy())
		}
		for i, c := range copies {
			wantStand(t, "a copy", c, were[i].stand())
			for other := range 16 {
				wantBoth(t, someBoth(2, other, 0, 0), c, were[i])
			}
		}
	}
}

// P13.6: an owner that ended is told of to one thread at most, each time; and no next one has it that is not told.
func TestAnOwnerThatEndedIsToldOfOnce(t *testing.T) {
	r := rand.New(rand.NewSource(16))
	told := 0
	for _, kind := range allKinds() {
		for _, robust := range []bool{false, true} {
			x := plain(t, kind, robust)
			ends := 0
			for range 4000 {
				if x.At().State >= api.Lost {
					x, ends = plain(t, kind, robust), 0
				}
				owner := x.At().Owner
				thread := r.Intn(5)
				which := r.Intn(6)
				if owner >= 0 && r.Intn(3) == 0 {
					thread, which = owner, 2+r.Intn(3)
				}
				answer := someBoth(which, thread, 1+r.Intn(3), 5).do(x)
				if which == 4 && thread == owner {
					if ends > 0 {
						t.Fatalf("an end was not told of: %s", stand(x))
					}
					ends = 1
				}
				count := strings.Count(answer, "EOWNERDEAD")
				told += count
				if ends -= count; ends < 0 || !robust && count > 0 {
					t.Fatalf("EOWNERDEAD is told where nobody ended: %s", stand(x))
				}
				if !robust {
					ends = 0
				}
			}
		}
	}
	if told < 500 {
		t.Errorf("%d ends were told of", told)
	}
}
