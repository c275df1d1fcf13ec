package wheel_test

import (
	"math"
	"math/rand"
	"slices"
	"testing"

	"metronome/api"
	"metronome/wheel"
)

// model is a wheel by the chapter's words alone: deadlines, in order.
type model []entry

func (m *model) drop(id int) bool {
	was := len(*m)
	*m = slices.DeleteFunc(*m, func(e entry) bool { return e.id == id })
	return len(*m) < was
}

func (m *model) set(id int, at int64) api.Errno {
	if id < 0 || id >= 64 || at < 0 || at > 1<<40 {
		return api.ErrArg
	}
	m.drop(id)
	place := 0
	for place < len(*m) && (*m)[place].at <= at {
		place++
	}
	*m = slices.Insert(*m, place, entry{id, at})
	return api.OK
}

func (m *model) cancel(id int) api.Errno {
	if id < 0 || id >= 64 {
		return api.ErrArg
	}
	if !m.drop(id) {
		return api.ErrNone
	}
	return api.OK
}

func (m *model) due(now int64) []int {
	n := 0
	for n < len(*m) && (*m)[n].at <= now {
		n++
	}
	due := ids((*m)[:n])
	*m = slices.Delete(*m, 0, n)
	return due
}

// someID is one of those, or now and then none that may be.
func someID(r *rand.Rand, numbers int) int {
	if r.Intn(20) == 0 {
		return r.Intn(300) - 150
	}
	return r.Intn(numbers)
}

// someTime is one below that, often one that is alike modulo 64, or now and then none that may be.
func someTime(r *rand.Rand, times int64) int64 {
	switch r.Intn(20) {
	case 0:
		return r.Int63n(200) - 100
	case 1:
		return api.MaxTime + r.Int63n(5) - 2
	case 2, 3, 4, 5:
		return 5 + 64*r.Int63n(1+times/64)
	}
	return r.Int63n(times)
}

func step(t *testing.T, r *rand.Rand, m *model, w *wheel.Wheel, numbers int, times int64) {
	t.Helper()
	id, at := someID(r, numbers), someTime(r, times)
	switch r.Intn(8) {
	case 0:
		// Seldom far: else nearly all would be told at once.
		if at > times/8 && r.Intn(6) > 0 {
			at /= 8
		}
		wantDue(t, w, at, m.due(at)...)
	case 1, 2:
		wantErr(t, "Cancel", w.Cancel(id), m.cancel(id))
	default:
		wantErr(t, "Set", w.Set(id, at), m.set(id, at))
	}
}

// P7.1, P7.2, P7.3
func TestWheelsDoAsTheChapterSays(t *testing.T) {
	r := rand.New(rand.NewSource(7))
	for _, numbers := range []int{1, 3, 20, 64} {
		for _, times := range []int64{1, 3, 64, 65, 300, 5000, 1 << 40} {
			m, w := &model{}, made(t)
			for range 400 {
				step(t, r, m, w, numbers, times)
				wantWheel(t, "a step", w, *m...)
				if t.Failed() {
					return
				}
			}
		}
	}
}

// P7.3: of two that go on apart Same says what their models say.
func TestSameDoesAsTheChapterSays(t *testing.T) {
	r := rand.New(rand.NewSource(8))
	alike := 0
	for range 200 {
		m, w := &model{}, made(t)
		n, x := &model{}, made(t)
		for range 40 {
			step(t, r, m, w, 2, 2)
			step(t, r, n, x, 2, 2)
			same := slices.Equal(*m, *n)
			wantSame(t, "a step", w, x, same)
			if same {
				alike++
			}
		}
		if t.Failed() {
			return
		}
	}
	if alike < 100 || alike > 7900 {
		t.Errorf("%d of 8000 were alike", alike)
	}
}

// P7.3: copies that were taken by the way stay as they were.
func TestCopiesStayAsTheyWere(t *testing.T) {
	r := rand.New(rand.NewSource(9))
	m, w := &model{}, made(t)
	var copies []*wheel.Wheel
	var were []model
	for range 500 {
		step(t, r, m, w, 64, 300)
		if r.Intn(5) == 0 {
			copies, were = append(copies, w.Copy()), append(were, slices.Clone(*m))
		}
	}
	for i, c := range copies {
		wantWheel(t, "a copy", c, were[i]...)
		wantDue(t, c, math.MaxInt64, ids(were[i])...)
	}
	wantWheel(t, "the wheel", w, *m...)
}

// P7.4: what Due tells was set, not cancelled, and is told once.
func TestWhatDueTellsWasSetAndIsToldOnce(t *testing.T) {
	r := rand.New(rand.NewSource(10))
	w := made(t)
	open := map[int]int64{}
	told := 0
	for range 5000 {
		id, at := r.Intn(api.MaxIds), r.Int63n(400)
		switch r.Intn(6) {
		case 0:
			for _, id := range w.Due(at / 4) {
				set, ok := open[id]
				if !ok || set > at/4 {
					t.Fatalf("%d is told at %d, set for %d, %v", id, at/4, set, ok)
				}
				delete(open, id)
				told++
			}
			for id, set := range open {
				if set <= at/4 {
					t.Fatalf("%d is not told at %d, set for %d", id, at/4, set)
				}
			}
		case 1:
			if _, ok := open[id]; (w.Cancel(id) == api.OK) != ok {
				t.Fatalf("%d is cancelled, and was set: %v", id, ok)
			}
			delete(open, id)
		default:
			wantErr(t, "Set", w.Set(id, at), api.OK)
			open[id] = at
		}
	}
	if told < 500 || w.Len() != len(open) {
		t.Errorf("%d were told, %d are left, want %d", told, w.Len(), len(open))
	}
}

// P7.4: asked at each time from one on, each is told at its own time, or at the first one, if it was below.
func TestEachIsToldAtItsOwnTime(t *testing.T) {
	r := rand.New(rand.NewSource(11))
	for _, from := range []int64{0, 1, 63, 64, 100, 250, api.MaxTime - 299} {
		lowest := max(0, from-40)
		all := crowd(func(int) int64 { return lowest + r.Int63n(min(300, api.MaxTime-lowest)) })
		w := made(t, all...)
		at := map[int]int64{}
		for now := from; now <= api.MaxTime && now < from+300; now++ {
			for _, id := range w.Due(now) {
				if _, again := at[id]; again {
					t.Fatalf("%d is told again at %d", id, now)
				}
				at[id] = now
			}
		}
		for _, e := range all {
			if got, ok := at[e.id]; !ok || got != max(e.at, from) {
				t.Errorf("from %d on, %d of %d is told at %d, %v", from, e.id, e.at, got, ok)
			}
		}
		wantWheel(t, "all told", w)
	}
}

// P7.4: the same for those that are set by the way, for later, for now and for a time that is over.
func TestThoseSetByTheWayAreToldInTime(t *testing.T) {
	r := rand.New(rand.NewSource(12))
	m, w := &model{}, made(t)
	for now := range int64(1000) {
		wantDue(t, w, now, m.due(now)...)
		for range r.Intn(4) {
			id, at := r.Intn(api.MaxIds), max(0, now+r.Int63n(150)-10)
			wantErr(t, "Set", w.Set(id, at), m.set(id, at))
		}
	}
}
