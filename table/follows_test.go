package table_test

import (
	"maps"
	"math/rand"
	"slices"
	"testing"

	"metronome/api"
	"metronome/table"
)

// model is a table by the chapter's words alone; and all handles that were ever given.
type model struct {
	free        []bool
	generations []int64
	given       map[int64]int
}

func newModel(places int) *model {
	m := &model{free: make([]bool, places), generations: make([]int64, places), given: map[int64]int{}}
	for place := range places {
		m.free[place] = true
	}
	return m
}

func (m *model) handle(place int) int64 {
	return int64(place) + 16*m.generations[place]
}

func (m *model) add() (int64, api.Errno) {
	for place, free := range m.free {
		if free {
			m.free[place] = false
			m.generations[place]++
			return m.handle(place), api.OK
		}
	}
	return 0, api.ErrFull
}

// place is that of the handle, or -1.
func (m *model) place(handle int64) int {
	for place, free := range m.free {
		if !free && m.handle(place) == handle {
			return place
		}
	}
	return -1
}

func (m *model) drop(handle int64) api.Errno {
	place := m.place(handle)
	if place < 0 {
		return api.ErrNone
	}
	m.free[place] = true
	return api.OK
}

func (m *model) taken() []taken {
	var all []taken
	for place, free := range m.free {
		if !free {
			all = append(all, taken{place, m.handle(place)})
		}
	}
	return all
}

// any is some number: a handle that is one, was one, will be one, or never.
func (m *model) any(r *rand.Rand) int64 {
	place := r.Intn(len(m.free))
	switch r.Intn(6) {
	case 0:
		return int64(r.Uint64())
	case 1:
		return int64(r.Intn(400)) - 50
	case 2:
		return m.handle(place) + 16*int64(r.Intn(5)-2)
	}
	return m.handle(place)
}

// wantNew asks that the handle was never given before.
func (m *model) wantNew(t *testing.T, handle int64) {
	t.Helper()
	if m.given[handle]++; m.given[handle] > 1 {
		t.Errorf("%d is given twice", handle)
	}
}

func step(t *testing.T, r *rand.Rand, m *model, x *table.Table) {
	t.Helper()
	if r.Intn(2) == 0 {
		want, wantErrno := m.add()
		got, err := x.Add()
		if got != want || err != wantErrno {
			t.Fatalf("Add is %d, %v, want %d, %v", got, err, want, wantErrno)
		}
		if err == api.OK {
			m.wantNew(t, got)
		}
		return
	}
	h := m.any(r)
	wantDrop(t, x, h, m.drop(h))
}

// P4.1, P4.2, P4.4
func TestTablesDoAsTheChapterSays(t *testing.T) {
	r := rand.New(rand.NewSource(4))
	for places := 1; places <= api.MaxThreads; places++ {
		m, x := newModel(places), made(t, places)
		for range 2000 {
			step(t, r, m, x)
			wantTable(t, "a step", x, places, m.taken()...)
			h := m.any(r)
			if want := m.place(h); want < 0 {
				wantNoAt(t, x, h)
			} else {
				wantAt(t, x, h, want)
			}
			if t.Failed() {
				return
			}
		}
	}
}

// P4.3: of two that go on apart Same says what their models say.
func TestSameDoesAsTheChapterSays(t *testing.T) {
	r := rand.New(rand.NewSource(5))
	alike := 0
	for range 300 {
		m, x := newModel(2), made(t, 2)
		n, y := newModel(2), made(t, 2)
		for range 30 {
			step(t, r, m, x)
			step(t, r, n, y)
			same := m.free[0] == n.free[0] && m.free[1] == n.free[1] &&
				m.generations[0] == n.generations[0] && m.generations[1] == n.generations[1]
			wantSame(t, "a step", x, y, same)
			if same {
				alike++
			}
		}
	}
	if alike < 100 {
		t.Errorf("only %d were alike", alike)
	}
}

// P4.4: one place, taken and dropped many times.
func TestAPlaceThatIsTakenAnewManyTimes(t *testing.T) {
	for _, places := range []int{1, 2, api.MaxThreads} {
		x := made(t, places)
		for place := range places - 1 {
			wantAdd(t, x, int64(16+place))
		}
		last := int64(places - 1)
		const rounds = 100000
		for g := int64(1); g <= rounds; g++ {
			wantAdd(t, x, last+16*g)
			wantNoAt(t, x, last+16*(g-1))
			wantNoAt(t, x, last+16*(g+1))
			wantDrop(t, x, last+16*g, api.OK)
			wantNoAt(t, x, last+16*g)
			wantDrop(t, x, last+16*g, api.ErrNone)
			if t.Failed() {
				return
			}
		}
		for g := int64(0); g <= rounds+1; g++ {
			wantNoAt(t, x, last+16*g)
		}
		wantAdd(t, x, last+16*(rounds+1))
		if x.Len() != places {
			t.Errorf("%d are taken, want %d", x.Len(), places)
		}
	}
}

// P4.4: all places, dropped in one order or the other, round by round.
func TestAHandleThatWasDroppedIsNoneEverAfter(t *testing.T) {
	for _, down := range []bool{false, true} {
		x := made(t, api.MaxThreads)
		given := map[int64]int{}
		for range 200 {
			var all []int64
			for range api.MaxThreads {
				h, err := x.Add()
				wantErr(t, "Add", err, api.OK)
				all = append(all, h)
				given[h]++
			}
			for i := range all {
				if down {
					i = len(all) - 1 - i
				}
				wantAt(t, x, all[i], i)
				wantDrop(t, x, all[i], api.OK)
			}
			for h := range given {
				wantNoAt(t, x, h)
			}
		}
		if len(given) != 200*api.MaxThreads {
			t.Errorf("%d unlike handles were given, want %d", len(given), 200*api.MaxThreads)
		}
	}
}

// P4.4
func TestTwoThatAreTakenHaveUnlikeHandles(t *testing.T) {
	r := rand.New(rand.NewSource(6))
	x := made(t, api.MaxThreads)
	held := map[int64]int{}
	for range 5000 {
		if h, err := x.Add(); err == api.OK {
			if _, ok := held[h]; ok {
				t.Fatalf("%d is held already", h)
			}
			place, ok := x.At(h)
			if !ok {
				t.Fatalf("%d is none", h)
			}
			held[h] = place
		}
		for _, h := range slices.Sorted(maps.Keys(held)) {
			wantAt(t, x, h, held[h])
			if r.Intn(12) == 0 {
				wantDrop(t, x, h, api.OK)
				delete(held, h)
			}
		}
		if x.Len() != len(held) {
			t.Fatalf("%d are taken, want %d", x.Len(), len(held))
		}
	}
}
