package turns_test

import (
	"math/rand"
	"slices"
	"testing"

	"metronome/api"
	"metronome/turns"
)

// model is turns by the chapter's words alone: sequences, the head of each first.
type model struct {
	quantum int
	seqs    [api.MaxPriority + 1][]member
}

// out takes the thread out of its sequence, and is what it had; none is refused.
func (m *model) out(thread int) (member, api.Errno) {
	if thread < 0 || thread > 15 {
		return member{}, api.ErrArg
	}
	for prio, seq := range m.seqs {
		for i, has := range seq {
			if has.thread == thread {
				m.seqs[prio] = slices.Delete(seq, i, i+1)
				return has, api.OK
			}
		}
	}
	return member{}, api.ErrNone
}

// in puts one that is in no sequence ahead of all others of its priority, or behind them.
func (m *model) in(has member, tail bool) {
	at := 0
	if tail {
		at = len(m.seqs[has.prio])
	}
	m.seqs[has.prio] = slices.Insert(m.seqs[has.prio], at, has)
}

func (m *model) has(thread int) bool {
	return slices.ContainsFunc(m.all(), func(has member) bool { return has.thread == thread })
}

// all are those that are in a sequence, the one that runs first.
func (m *model) all() []member {
	var all []member
	for prio := api.MaxPriority; prio >= 1; prio-- {
		all = append(all, m.seqs[prio]...)
	}
	return all
}

func (m *model) add(thread, prio int, robin bool) api.Errno {
	if thread < 0 || thread > 15 || prio < 1 || prio > 31 {
		return api.ErrArg
	}
	if m.has(thread) {
		return api.ErrState
	}
	m.in(member{thread, prio, robin, m.quantum}, true)
	return api.OK
}

func (m *model) leave(thread int) api.Errno {
	_, err := m.out(thread)
	return err
}

func (m *model) yield(thread int) api.Errno {
	has, err := m.out(thread)
	if err == api.OK {
		m.in(has, true)
	}
	return err
}

func (m *model) tick() (int, bool) {
	all := m.all()
	if len(all) == 0 || !all[0].robin {
		return 0, false
	}
	has, _ := m.out(all[0].thread)
	has.left--
	if has.left > 0 {
		m.in(has, false)
		return 0, false
	}
	has.left = m.quantum
	m.in(has, true)
	return has.thread, true
}

func (m *model) put(thread, prio int, robin bool) api.Errno {
	if prio < 1 || prio > 31 {
		return api.ErrArg
	}
	_, err := m.out(thread)
	if err == api.OK {
		m.in(member{thread, prio, robin, m.quantum}, true)
	}
	return err
}

// set is Move and Lift: to the tail of a greater one's, if it is said, else to the head of another one's.
func (m *model) set(thread, prio int, tail bool) api.Errno {
	if prio < 1 || prio > 31 {
		return api.ErrArg
	}
	if slices.ContainsFunc(m.all(), func(has member) bool { return has.thread == thread && has.prio == prio }) {
		return api.OK
	}
	has, err := m.out(thread)
	if err == api.OK {
		m.in(member{thread, prio, has.robin, has.left}, tail && prio > has.prio)
	}
	return err
}

// somePrio is one of few, or any, or now and then none that may be.
func somePrio(r *rand.Rand, few []int) int {
	switch r.Intn(12) {
	case 0:
		return r.Intn(80) - 20
	case 1:
		return 1 + r.Intn(api.MaxPriority)
	}
	return few[r.Intn(len(few))]
}

// someThread is one of those below a number, or now and then none that may be.
func someThread(r *rand.Rand, below int) int {
	if r.Intn(12) == 0 {
		return r.Intn(80) - 20
	}
	return r.Intn(below)
}

func wantTick(t *testing.T, x *turns.Turns, m *model) {
	t.Helper()
	got, ok := x.Tick()
	if want, is := m.tick(); got != want || ok != is {
		t.Errorf("Tick is %d, %v, want %d, %v", got, ok, want, is)
	}
}

func step(t *testing.T, r *rand.Rand, m *model, x *turns.Turns, below int, few []int) {
	t.Helper()
	thread, prio, robin := someThread(r, below), somePrio(r, few), r.Intn(4) > 0
	switch r.Intn(12) {
	case 0, 1:
		wantErr(t, "Add", x.Add(thread, prio, robin), m.add(thread, prio, robin))
	case 2:
		wantErr(t, "Leave", x.Leave(thread), m.leave(thread))
	case 3:
		wantErr(t, "Yield", x.Yield(thread), m.yield(thread))
	case 4:
		wantErr(t, "Put", x.Put(thread, prio, robin), m.put(thread, prio, robin))
	case 5:
		wantErr(t, "Move", x.Move(thread, prio), m.set(thread, prio, true))
	case 6:
		wantErr(t, "Lift", x.Lift(thread, prio), m.set(thread, prio, false))
	default:
		wantTick(t, x, m)
	}
}

// P10.1 to P10.5
func TestTurnsDoAsTheChapterSays(t *testing.T) {
	r := rand.New(rand.NewSource(10))
	for _, few := range [][]int{{1}, {31}, {1, 31}, {4, 5}, {7, 8, 9, 16, 17}} {
		for _, quantum := range []int{1, 2, 3, 7, api.MaxQuantum} {
			m, x := &model{quantum: quantum}, made(t, quantum)
			for range 600 {
				step(t, r, m, x, api.MaxThreads, few)
				wantTurns(t, "a step", x, m.all()...)
				if t.Failed() {
					return
				}
			}
		}
	}
}

// P10.4: of two that go on apart Same says what their models say.
func TestSameDoesAsTheChapterSays(t *testing.T) {
	r := rand.New(rand.NewSource(11))
	alike := 0
	for range 200 {
		m, x := &model{quantum: 2}, made(t, 2)
		n, y := &model{quantum: 2}, made(t, 2)
		for range 40 {
			step(t, r, m, x, 2, []int{1, 2})
			step(t, r, n, y, 2, []int{1, 2})
			same := slices.Equal(m.all(), n.all())
			wantSame(t, "a step", x, y, same)
			if same {
				alike++
			}
		}
		if t.Failed() {
			return
		}
	}
	if alike < 100 || alike > 7900 {
		t.Errorf("%d of 8000 were alike", alike)
	}
}

// P10.4: a copy does at each step what the first one does, and the first one nothing when the copy goes on.
func TestACopyDoesAsTheFirstOne(t *testing.T) {
	r := rand.New(rand.NewSource(12))
	m, x := &model{quantum: 3}, made(t, 3)
	for range 1500 {
		step(t, r, m, x, api.MaxThreads, []int{4, 5})
		c := x.Copy()
		wantSame(t, "copied", c, x, true)
		for range 4 {
			c.Tick()
			c.Leave(r.Intn(api.MaxThreads))
			c.Put(r.Intn(api.MaxThreads), 5, true)
			c.Lift(r.Intn(api.MaxThreads), 4)
			c.Add(r.Intn(api.MaxThreads), 4, false)
		}
		wantTurns(t, "a copy went on", x, m.all()...)
		if t.Failed() {
			return
		}
	}
}

// P10.5: who runs has the greatest priority of all, and is the first one of its sequence.
func TestWhoRunsIsTheFirstOfTheGreatest(t *testing.T) {
	r := rand.New(rand.NewSource(13))
	m, x := &model{quantum: 2}, made(t, 2)
	idle := 0
	for range 6000 {
		step(t, r, m, x, 4, []int{1, 5, 6, 31})
		first, ok := x.Runs()
		if ok != (x.Len() > 0) {
			t.Fatalf("Runs is %v of %d", ok, x.Len())
		}
		if !ok {
			idle++
			continue
		}
		greatest, _ := x.Prio(first)
		if x.Of(greatest)[0] != first {
			t.Fatalf("%d is not in front of %v", first, x.Of(greatest))
		}
		for prio := greatest + 1; prio <= api.MaxPriority; prio++ {
			if len(x.Of(prio)) > 0 {
				t.Fatalf("%d runs as %d, but of %d there are %v", first, greatest, prio, x.Of(prio))
			}
		}
	}
	if idle == 0 {
		t.Error("nobody ran at no time")
	}
}

// P10.5: each runs a quantum of ticks, one behind the other, round and round.
func TestRobinsRunRoundAndRound(t *testing.T) {
	for _, quantum := range []int{1, 2, 3, 50, api.MaxQuantum} {
		for _, many := range []int{1, 2, 5, api.MaxThreads} {
			for _, prio := range []int{1, 12, api.MaxPriority} {
				order := rand.New(rand.NewSource(int64(many))).Perm(api.MaxThreads)[:many]
				x := made(t, quantum)
				for _, thread := range order {
					wantErr(t, "Add", x.Add(thread, prio, true), api.OK)
				}
				begin := x.Copy()
				for range 3 {
					round(t, x, quantum, order)
					wantSame(t, "a round", x, begin, true)
				}
			}
		}
	}
}

// round plays one in which each of them runs a quantum of ticks.
func round(t *testing.T, x *turns.Turns, quantum int, order []int) {
	t.Helper()
	for _, thread := range order {
		for tick := range quantum {
			wantOne(t, "Runs", x.Runs, thread)
			if tick < quantum-1 {
				wantNobody(t, "Tick", x.Tick)
			} else {
				wantOne(t, "Tick", x.Tick, thread)
			}
		}
	}
}

// P10.5: wherever robins of one priority stand, and whatever is left to the first of each, behind that all run alike.
func TestRobinsRunAlikeWhateverWasLeft(t *testing.T) {
	r := rand.New(rand.NewSource(14))
	for range 100 {
		quantum := 1 + r.Intn(9)
		x := made(t, quantum, crowd(9, true)[:1+r.Intn(api.MaxThreads)]...)
		for range 60 {
			x.Tick()
			if first, ok := x.Runs(); ok && r.Intn(3) == 0 {
				wantErr(t, "Yield", x.Yield(first), api.OK)
			}
		}
		order := x.Of(9)
		for _, thread := range order {
			left, _ := x.Left(thread)
			round(t, x, left, []int{thread})
		}
		round(t, x, quantum, order)
		round(t, x, quantum, order)
	}
}
