package ready_test

import (
	"math/rand"
	"slices"
	"testing"

	"metronome/api"
	"metronome/ready"
)

// model is a ready list by the chapter's words alone: sequences, the head of each first.
type model [api.MaxPriority + 1][]int

func (m *model) prio(thread int) int {
	for prio, list := range m {
		if slices.Contains(list, thread) {
			return prio
		}
	}
	return 0
}

func (m *model) put(prio, thread int, tail bool) api.Errno {
	if prio < 1 || prio > api.MaxPriority || thread < 0 || thread >= api.MaxThreads {
		return api.ErrArg
	}
	if m.prio(thread) != 0 {
		return api.ErrState
	}
	at := 0
	if tail {
		at = len(m[prio])
	}
	m[prio] = slices.Insert(m[prio], at, thread)
	return api.OK
}

func (m *model) remove(thread int) api.Errno {
	if thread < 0 || thread >= api.MaxThreads {
		return api.ErrArg
	}
	prio := m.prio(thread)
	if prio == 0 {
		return api.ErrNone
	}
	m[prio] = slices.DeleteFunc(m[prio], func(other int) bool { return other == thread })
	return api.OK
}

// all are those that stand in it, the first one first.
func (m *model) all() []standing {
	var all []standing
	for prio := api.MaxPriority; prio >= 1; prio-- {
		for _, thread := range m[prio] {
			all = append(all, standing{prio, thread})
		}
	}
	return all
}

// somePrio is one of few, or any, or now and then none that may be.
func somePrio(r *rand.Rand, few []int) int {
	switch r.Intn(12) {
	case 0:
		return r.Intn(80) - 20
	case 1:
		return 1 + r.Intn(api.MaxPriority)
	}
	return few[r.Intn(len(few))]
}

func someThread(r *rand.Rand) int {
	if r.Intn(12) == 0 {
		return r.Intn(80) - 20
	}
	return r.Intn(api.MaxThreads)
}

func step(t *testing.T, r *rand.Rand, m *model, x *ready.Ready, few []int) {
	t.Helper()
	prio, thread := somePrio(r, few), someThread(r)
	was := x.Steps()
	switch r.Intn(4) {
	case 0:
		wantErr(t, "Tail", x.Tail(prio, thread), m.put(prio, thread, true))
	case 1:
		wantErr(t, "Head", x.Head(prio, thread), m.put(prio, thread, false))
	default:
		wantErr(t, "Remove", x.Remove(thread), m.remove(thread))
	}
	if n := x.Steps() - was; n < 0 || n > 8 {
		t.Errorf("a call adds %d steps", n)
	}
}

// P5.1, P5.2, P5.3, P5.5
func TestReadyListsDoAsTheChapterSays(t *testing.T) {
	r := rand.New(rand.NewSource(5))
	for _, few := range [][]int{{1}, {31}, {1, 31}, {4, 5}, {7, 8, 9, 16, 17}} {
		m, x := &model{}, made(t)
		for range 3000 {
			step(t, r, m, x, few)
			wantReady(t, "a step", x, m.all()...)
			if t.Failed() {
				return
			}
		}
	}
}

// P5.4, P5.5: of two that go on apart Same says what their models say.
func TestSameDoesAsTheChapterSays(t *testing.T) {
	r := rand.New(rand.NewSource(6))
	alike := 0
	for range 200 {
		m, x := &model{}, made(t)
		n, y := &model{}, made(t)
		for range 40 {
			prio, thread := 1+r.Intn(2), r.Intn(2)
			for _, side := range []struct {
				m *model
				x *ready.Ready
			}{{m, x}, {n, y}} {
				switch r.Intn(3) {
				case 0:
					wantErr(t, "Tail", side.x.Tail(prio, thread), side.m.put(prio, thread, true))
				case 1:
					wantErr(t, "Head", side.x.Head(prio, thread), side.m.put(prio, thread, false))
				case 2:
					wantErr(t, "Remove", side.x.Remove(thread), side.m.remove(thread))
				}
			}
			same := slices.Equal(m.all(), n.all())
			wantSame(t, "a step", x, y, same)
			if same {
				alike++
			}
		}
		if t.Failed() {
			return
		}
	}
	if alike < 100 || alike > 7900 {
		t.Errorf("%d of 8000 were alike", alike)
	}
}

// P5.5: whoever was put in stands in just one sequence, till it is taken out.
func TestWhoeverWasPutInStandsInJustOneSequence(t *testing.T) {
	r := rand.New(rand.NewSource(7))
	x := made(t)
	stands := map[int]int{}
	for range 4000 {
		prio, thread := 1+r.Intn(api.MaxPriority), r.Intn(api.MaxThreads)
		if x.Tail(prio, thread) == api.OK {
			stands[thread] = prio
		}
		if out := r.Intn(api.MaxThreads); x.Remove(out) == api.OK {
			delete(stands, out)
		}
		counts := map[int]int{}
		for prio := 1; prio <= api.MaxPriority; prio++ {
			for _, thread := range x.List(prio) {
				counts[thread]++
				if stands[thread] != prio {
					t.Fatalf("%d stands in %d, want %d", thread, prio, stands[thread])
				}
			}
		}
		for thread := range api.MaxThreads {
			if want := min(stands[thread], 1); counts[thread] != want {
				t.Fatalf("%d stands in %d sequences, want %d", thread, counts[thread], want)
			}
		}
	}
}

// P5.5: those that stay keep their order, whoever comes and goes.
func TestTheOthersKeepTheirOrder(t *testing.T) {
	r := rand.New(rand.NewSource(8))
	x := crowd(t, 6)
	for range 4000 {
		thread := r.Intn(api.MaxThreads)
		was := slices.DeleteFunc(x.List(6), func(other int) bool { return other == thread })
		switch r.Intn(3) {
		case 0:
			x.Tail(6, thread)
		case 1:
			x.Head(6, thread)
		case 2:
			x.Remove(thread)
		}
		now := slices.DeleteFunc(x.List(6), func(other int) bool { return other == thread })
		if !slices.Equal(was, now) {
			t.Fatalf("the others were %v, are %v", was, now)
		}
	}
}

// P5.5: First is the one of the greatest priority, and of those the one in front.
func TestFirstIsInFrontOfTheGreatest(t *testing.T) {
	r := rand.New(rand.NewSource(9))
	x := made(t)
	for range 4000 {
		prio, thread := 1+r.Intn(api.MaxPriority), r.Intn(api.MaxThreads)
		if r.Intn(2) == 0 {
			x.Head(prio, thread)
		} else {
			x.Tail(prio, thread)
		}
		x.Remove(r.Intn(api.MaxThreads))
		first, ok := x.First()
		if ok != (x.Len() > 0) {
			t.Fatalf("First is %v of %d", ok, x.Len())
		}
		if !ok {
			continue
		}
		greatest, _ := x.Prio(first)
		if x.List(greatest)[0] != first {
			t.Fatalf("%d is not in front of %v", first, x.List(greatest))
		}
		for thread := range api.MaxThreads {
			if prio, _ := x.Prio(thread); prio > greatest {
				t.Fatalf("%d has %d, the first one %d", thread, prio, greatest)
			}
		}
	}
}
