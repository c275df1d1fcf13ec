package inherit_test

import (
	"math/rand"
	"slices"
	"testing"

	"metronome/api"
	"metronome/inherit"
)

// model is a graph by the chapter's words alone; what threads have is asked of all rows of waiting ones.
type model struct {
	bases, ceilings, owners []int
}

func newModel(count int) *model {
	return &model{make([]int, count), make([]int, count), slices.Repeat([]int{-1}, count)}
}

func (m *model) copy() *model {
	return &model{slices.Clone(m.bases), slices.Clone(m.ceilings), slices.Clone(m.owners)}
}

func (m *model) is(other *model) bool {
	return slices.Equal(m.bases, other.bases) && slices.Equal(m.ceilings, other.ceilings) && slices.Equal(m.owners, other.owners)
}

// set sets one number of a list, if it is at least least, and at most most.
func set(list []int, thread, number, least, most int) api.Errno {
	if thread < 0 || thread >= len(list) || number < least || number > most {
		return api.ErrArg
	}
	list[thread] = number
	return api.OK
}

// own is what a thread has by itself.
func (m *model) own(thread int) int {
	return max(m.bases[thread], m.ceilings[thread])
}

// leads is whether a row of waiting ones, of at least one step, leads from one thread to the other.
func (m *model) leads(from, to int) bool {
	for range m.owners {
		if from = m.owners[from]; from == -1 {
			return false
		}
		if from == to {
			return true
		}
	}
	return false
}

func (m *model) of(thread int) int {
	most := m.own(thread)
	for other := range m.owners {
		if m.leads(other, thread) {
			most = max(most, m.own(other))
		}
	}
	return most
}

func (m *model) all() []int {
	var all []int
	for thread := range m.owners {
		all = append(all, m.of(thread))
	}
	return all
}

func (m *model) waitingFor(thread int) []int {
	var list []int
	for other, owner := range m.owners {
		if owner == thread {
			list = append(list, other)
		}
	}
	return list
}

func (m *model) ring(thread int) []int {
	if !m.leads(thread, thread) {
		return nil
	}
	list := []int{thread}
	for at := m.owners[thread]; at != thread; at = m.owners[at] {
		list = append(list, at)
	}
	return list
}

func wantModel(t *testing.T, what string, g *inherit.Graph, m *model) {
	t.Helper()
	wantAll(t, what, g, m.all()...)
	for thread := range m.owners {
		wantFor(t, what, g, thread, m.waitingFor(thread)...)
		wantRing(t, what, g, thread, m.ring(thread)...)
	}
}

// someNumber is one from least on, at most most, or now and then any near these.
func someNumber(r *rand.Rand, least, most int) int {
	if r.Intn(12) == 0 {
		return least - 3 + r.Intn(most-least+7)
	}
	return least + r.Intn(most-least+1)
}

// step does the same to both; priorities are at most most, for there to be few of them.
func step(t *testing.T, r *rand.Rand, m *model, g *inherit.Graph, most int) {
	t.Helper()
	last := len(m.owners) - 1
	thread := someNumber(r, 0, last)
	switch r.Intn(5) {
	case 0:
		prio := someNumber(r, 0, most)
		wantErr(t, "Base", g.Base(thread, prio), set(m.bases, thread, prio, 0, 31))
	case 1:
		prio := someNumber(r, 0, most)
		wantErr(t, "Ceiling", g.Ceiling(thread, prio), set(m.ceilings, thread, prio, 0, 31))
	default:
		owner := someNumber(r, -1, last)
		wantErr(t, "Waits", g.Waits(thread, owner), set(m.owners, thread, owner, -1, last))
	}
}

// P12.1, P12.2
func TestGraphsDoAsTheChapterSays(t *testing.T) {
	r := rand.New(rand.NewSource(12))
	for _, most := range []int{1, 3, 31} {
		for _, count := range []int{1, 2, 3, 5, 8, 16} {
			m, g := newModel(count), made(t, count)
			for range 800 {
				step(t, r, m, g, most)
				wantModel(t, "a step", g, m)
				if t.Failed() {
					return
				}
			}
		}
	}
}

// P12.3: of two that go on apart Same says what their models say.
func TestSameDoesAsTheChapterSays(t *testing.T) {
	r := rand.New(rand.NewSource(13))
	same := 0
	for range 200 {
		m, g := newModel(2), made(t, 2)
		n, h := newModel(2), made(t, 2)
		for range 40 {
			step(t, r, m, g, 1)
			step(t, r, n, h, 1)
			is := m.is(n)
			wantSame(t, "a step", g, h, is)
			if is {
				same++
			}
		}
		if t.Failed() {
			return
		}
	}
	if same < 50 || same > 7900 {
		t.Errorf("%d of 8000 were the same", same)
	}
}

// P12.3: copies that were taken by the way stay as they were.
func TestCopiesStayAsTheyWere(t *testing.T) {
	r := rand.New(rand.NewSource(14))
	m, g := newModel(16), made(t, 16)
	var copies []*inherit.Graph
	var were []*model
	for range 500 {
		step(t, r, m, g, 31)
		if r.Intn(5) == 0 {
			copies, were = append(copies, g.Copy()), append(were, m.copy())
		}
	}
	for i, c := range copies {
		wantModel(t, "a copy", c, were[i])
	}
	wantModel(t, "the graph", g, m)
}

// holds is whether numbers are at least what threads have by themselves, and what those have that wait for them.
func (m *model) holds(numbers []int) bool {
	for thread, number := range numbers {
		if number < m.own(thread) {
			return false
		}
		if owner := m.owners[thread]; owner != -1 && numbers[owner] < number {
			return false
		}
	}
	return true
}

// each calls back with all lists of so many numbers, from least on, at most most.
func each(length, least, most int, do func([]int)) {
	list := slices.Repeat([]int{least}, length)
	for {
		do(list)
		at := 0
		for at < length && list[at] == most {
			list[at] = least
			at++
		}
		if at == length {
			return
		}
		list[at]++
	}
}

// P12.2, P12.4: the least numbers of all that hold, of all graphs of three threads with few priorities.
func TestAllAreTheLeastNumbersThatHold(t *testing.T) {
	each(3, -1, 2, func(owners []int) {
		each(3, 0, 2, func(own []int) {
			m, g := newModel(3), made(t, 3)
			copy(m.owners, owners)
			waiting(t, g, owners...)
			for thread, prio := range own {
				// Which of the two it is hangs on the thread, so that both come about.
				m.bases[thread] = prio
				if (thread+prio)%2 == 0 {
					wantErr(t, "Base", g.Base(thread, prio), api.OK)
				} else {
					wantErr(t, "Ceiling", g.Ceiling(thread, prio), api.OK)
				}
			}
			all := g.All()
			if !m.holds(all) {
				t.Errorf("owners %v, own %v: %v does not hold", owners, own, all)
			}
			each(3, 0, 2, func(numbers []int) {
				for thread := range numbers {
					if m.holds(numbers) && numbers[thread] < all[thread] {
						t.Errorf("owners %v, own %v: %v, but %v holds, too", owners, own, all, numbers)
					}
				}
			})
		})
	})
}

// raised are numbers that are raised, one by one, from bases and ceilings on; which one is next is left to chance.
func (m *model) raised(r *rand.Rand) []int {
	var numbers []int
	for thread := range m.owners {
		numbers = append(numbers, m.own(thread))
	}
	for {
		var below []int
		for thread, owner := range m.owners {
			if owner != -1 && numbers[owner] < numbers[thread] {
				below = append(below, thread)
			}
		}
		if len(below) == 0 {
			return numbers
		}
		thread := below[r.Intn(len(below))]
		numbers[m.owners[thread]] = numbers[thread]
	}
}

// P12.4: its three sentences, one behind the other.
func TestWhatFollows(t *testing.T) {
	r := rand.New(rand.NewSource(15))
	rings, handed := 0, 0
	for _, count := range []int{1, 2, 4, 9, 16} {
		m, g := newModel(count), made(t, count)
		for range 1000 {
			step(t, r, m, g, 31)
			all := g.All()
			if want := m.raised(r); !slices.Equal(all, want) {
				t.Fatalf("All is %v, raised %v", all, want)
			}
			for thread, prio := range all {
				ring, in := g.Ring(thread)
				for _, other := range ring {
					if all[other] != prio {
						t.Fatalf("%d and %d are in a ring with %d and %d", thread, other, prio, all[other])
					}
				}
				if in {
					rings++
				}
				from := func(other int) bool {
					return (other == thread || m.leads(other, thread)) && (m.bases[other] == prio || m.ceilings[other] == prio)
				}
				if !slices.ContainsFunc(upTo(count), from) {
					t.Fatalf("%d has %d from nobody", thread, prio)
				}
				if prio != m.own(thread) {
					handed++
				}
			}
		}
	}
	if rings < 1000 || handed < 1000 {
		t.Errorf("%d were in rings, to %d something was handed on", rings, handed)
	}
}
