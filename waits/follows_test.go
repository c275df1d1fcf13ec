package waits_test

import (
	"math/rand"
	"slices"
	"testing"

	"metronome/api"
	"metronome/waits"
)

// model is a list by the chapter's words alone: who waits, the one that has waited longest first.
type model []api.Waiter

func (m *model) place(thread int) int {
	return slices.IndexFunc(*m, func(x api.Waiter) bool { return x.Thread == thread })
}

func (m *model) put(thread, prio int) api.Errno {
	if thread < 0 || thread > 15 || prio < 1 || prio > 31 {
		return api.ErrArg
	}
	if m.place(thread) >= 0 {
		return api.ErrState
	}
	*m = append(*m, who(thread, prio))
	return api.OK
}

func (m *model) change(thread, prio int) api.Errno {
	if thread < 0 || thread > 15 || prio < 1 || prio > 31 {
		return api.ErrArg
	}
	place := m.place(thread)
	if place < 0 {
		return api.ErrNone
	}
	(*m)[place].Prio = prio
	return api.OK
}

func (m *model) leave(thread int) api.Errno {
	if thread < 0 || thread > 15 {
		return api.ErrArg
	}
	place := m.place(thread)
	if place < 0 {
		return api.ErrNone
	}
	*m = slices.Delete(*m, place, place+1)
	return api.OK
}

// all are those that wait, in order: one priority behind the other.
func (m *model) all() []api.Waiter {
	var all []api.Waiter
	for prio := api.MaxPriority; prio >= 1; prio-- {
		for _, x := range *m {
			if x.Prio == prio {
				all = append(all, x)
			}
		}
	}
	return all
}

func (m *model) take() (int, bool) {
	all := m.all()
	if len(all) == 0 {
		return 0, false
	}
	m.leave(all[0].Thread)
	return all[0].Thread, true
}

func (m *model) clear() []int {
	all := threads(m.all())
	*m = nil
	return all
}

// somePrio is one of few, or any, or now and then none that may be.
func somePrio(r *rand.Rand, few []int) int {
	switch r.Intn(12) {
	case 0:
		return r.Intn(80) - 20
	case 1:
		return 1 + r.Intn(api.MaxPriority)
	}
	return few[r.Intn(len(few))]
}

// someThread is one of those below a number, or now and then none that may be.
func someThread(r *rand.Rand, below int) int {
	if r.Intn(12) == 0 {
		return r.Intn(80) - 20
	}
	return r.Intn(below)
}

func step(t *testing.T, r *rand.Rand, m *model, w *waits.Waits, below int, few []int) {
	t.Helper()
	thread, prio := someThread(r, below), somePrio(r, few)
	switch r.Intn(40) {
	case 0:
		wantThreads(t, "Clear", w.Clear(), m.clear()...)
	case 1, 2, 3, 4, 5:
		got, ok := w.Take()
		if want, is := m.take(); got != want || ok != is {
			t.Errorf("Take is %d, %v, want %d, %v", got, ok, want, is)
		}
	case 6, 7, 8, 9, 10:
		wantErr(t, "Leave", w.Leave(thread), m.leave(thread))
	case 11, 12, 13, 14, 15, 16, 17, 18, 19, 20:
		wantErr(t, "Change", w.Change(thread, prio), m.change(thread, prio))
	default:
		wantErr(t, "Put", w.Put(thread, prio), m.put(thread, prio))
	}
}

// P9.1, P9.2, P9.3, P9.5
func TestListsDoAsTheChapterSays(t *testing.T) {
	r := rand.New(rand.NewSource(9))
	for _, few := range [][]int{{1}, {31}, {1, 31}, {4, 5}, {7, 8, 9, 16, 17}} {
		for _, below := range []int{1, 3, 16} {
			m, w := &model{}, made(t)
			for range 1500 {
				step(t, r, m, w, below, few)
				wantWaits(t, "a step", w, m.all()...)
				if t.Failed() {
					return
				}
			}
		}
	}
}

// P9.4: of two that go on apart Same says what their models say.
func TestSameDoesAsTheChapterSays(t *testing.T) {
	r := rand.New(rand.NewSource(10))
	same := 0
	for range 200 {
		m, w := &model{}, made(t)
		n, x := &model{}, made(t)
		for range 40 {
			step(t, r, m, w, 2, []int{1, 2})
			step(t, r, n, x, 2, []int{1, 2})
			is := slices.Equal(*m, *n)
			wantSame(t, "a step", w, x, is)
			if is {
				same++
			}
		}
		if t.Failed() {
			return
		}
	}
	if same < 100 || same > 7900 {
		t.Errorf("%d of 8000 were the same", same)
	}
}

// P9.4: copies that were taken by the way stay as they were.
func TestCopiesStayAsTheyWere(t *testing.T) {
	r := rand.New(rand.NewSource(11))
	m, w := &model{}, made(t)
	var copies []*waits.Waits
	var were []model
	for range 500 {
		step(t, r, m, w, 16, []int{3, 4, 5})
		if r.Intn(5) == 0 {
			copies, were = append(copies, w.Copy()), append(were, slices.Clone(*m))
		}
	}
	for i, c := range copies {
		wantWaits(t, "a copy", c, were[i].all()...)
		wantSame(t, "a copy", c, made(t, were[i]...), true)
	}
	wantWaits(t, "the list", w, m.all()...)
}

// P9.5: whom Take tells is reckoned here by when each came alone, whatever List says.
func TestTakeTellsTheGreatestThatHasWaitedLongest(t *testing.T) {
	r := rand.New(rand.NewSource(12))
	w := made(t)
	came, prios := map[int]int{}, map[int]int{}
	taken := 0
	for now := range 6000 {
		thread, prio := r.Intn(api.MaxThreads), 1+r.Intn(4)
		switch r.Intn(6) {
		case 0:
			if w.Change(thread, prio) == api.OK {
				prios[thread] = prio
			}
		case 1:
			first, ok := w.Take()
			if ok != (len(prios) > 0) {
				t.Fatalf("Take is %v where %d wait", ok, len(prios))
			}
			if !ok {
				continue
			}
			for other, prio := range prios {
				if prio > prios[first] || prio == prios[first] && came[other] < came[first] {
					t.Fatalf("%d is taken ahead of %d", first, other)
				}
			}
			delete(prios, first)
			taken++
		default:
			if w.Put(thread, prio) == api.OK {
				prios[thread], came[thread] = prio, now
			}
		}
	}
	if taken < 500 {
		t.Errorf("%d were taken", taken)
	}
}

// P9.5: whatever was done, all that are taken come in the order of List.
func TestAllAreTakenInTheOrderOfList(t *testing.T) {
	r := rand.New(rand.NewSource(13))
	m, w := &model{}, made(t)
	for range 1000 {
		step(t, r, m, w, 16, []int{1, 2, 30, 31})
		c := w.Copy()
		var taken []int
		for range c.Len() {
			first, _ := c.Take()
			taken = append(taken, first)
		}
		wantThreads(t, "taken", taken, w.List()...)
		wantWaits(t, "all taken", c)
		wantThreads(t, "Clear", w.Copy().Clear(), taken...)
	}
}
