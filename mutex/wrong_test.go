package mutex_test

import (
	"fmt"
	"testing"

	"metronome/api"
	"metronome/mutex"
)

// everyScene is each state with each kind.
func everyScene(t *testing.T) []*mutex.Mutex {
	t.Helper()
	var all []*mutex.Mutex
	for _, kind := range allKinds() {
		for name := range stood() {
			all = append(all, scene(t, kind, name))
		}
	}
	return all
}

// refusals are calls that are refused whatever the mutex is, with their answers: a thread, a priority, a base that may not be.
func refusals() map[string][]call {
	all := map[string][]call{}
	add := func(answer string, calls ...call) { all[answer] = append(all[answer], calls...) }
	for _, thread := range noThreads() {
		add("false EINVAL", lock(thread, 5, 5), lock(thread, 0, 5), lock(thread, 5, 32), lock(thread, 31, 31))
		add("EINVAL", try(thread, 5), try(thread, 0), try(thread, 31), consistent(thread))
		add("[] EINVAL", unlock(thread))
		add("[]", ended(thread))
		add("false", leave(thread), change(thread, 5), change(thread, 0))
		add("0 EINVAL", ceil(thread, 5), ceil(thread, 0), ceil(thread, 31))
	}
	for _, prio := range noPrios() {
		for thread := range 4 {
			add("false EINVAL", lock(thread, prio, 5), lock(thread, 5, prio), lock(thread, prio, prio), lock(thread, prio, 31), lock(thread, 31, prio))
			add("EINVAL", try(thread, prio))
			add("false", change(thread, prio))
			add("0 EINVAL", ceil(thread, prio))
		}
	}
	return all
}

// P13.2, P13.3, P13.4, P13.5: ahead of all, and nothing is changed by it.
func TestWhatMayNotBeIsRefused(t *testing.T) {
	for _, m := range everyScene(t) {
		for answer, calls := range refusals() {
			for _, c := range calls {
				wantRefused(t, m, c, answer)
			}
		}
	}
	for _, f := range forms() {
		m := after(f.made(t), lock(1, 1, 1), lock(2, 1, 1))
		for answer, calls := range refusals() {
			for _, c := range calls {
				wantRefused(t, m, c, answer)
			}
		}
	}
}

// P13.2 to P13.5: a nil and a zero one are refused, whatever they are given.
func TestNilAndZeroOnes(t *testing.T) {
	for i, m := range noMutexes() {
		for answer, calls := range refusals() {
			for _, c := range calls {
				want(t, m, c, answer)
			}
		}
		for thread := range 16 {
			want(t, m, lock(thread, 5, 5), "false EINVAL")
			want(t, m, try(thread, 5), "EINVAL")
			want(t, m, unlock(thread), "[] EINVAL")
			want(t, m, consistent(thread), "EINVAL")
			want(t, m, ended(thread), "[]")
			want(t, m, leave(thread), "false")
			want(t, m, change(thread, 5), "false")
			want(t, m, ceil(thread, 5), "0 EINVAL")
		}
		if got := m.At(); got != (api.LockState{Owner: -1}) {
			t.Errorf("At of none (%d): %+v", i, got)
		}
		if m.Protocol() != 0 || len(m.Waiting()) != 0 {
			t.Errorf("none (%d): %d, %v", i, m.Protocol(), m.Waiting())
		}
		if m.Copy() != nil {
			t.Errorf("Copy of none (%d) is one", i)
		}
		if m != nil && *m != (mutex.Mutex{}) {
			t.Error("a zero one has changed")
		}
		for _, other := range noMutexes() {
			wantSame(t, "none", m, other, true)
		}
		for _, f := range forms() {
			wantSame(t, "none and one", m, f.made(t), false)
		}
	}
}

// P13.5
func TestWhatIsAnsweredIsNobodyElses(t *testing.T) {
	m := after(plain(t, api.KindNormal, true), lock(0, 5, 5), lock(1, 6, 6), lock(2, 7, 7), lock(3, 8, 8), lock(4, 9, 9))
	waiting := m.Waiting()
	clear(waiting[:cap(waiting)])
	wantStand(t, "Waiting", m, "0*1 well 0 [4 3 2 1]")
	other := m.Waiting()
	want(t, m, leave(4), "true")
	if fmt.Sprint(other) != "[4 3 2 1]" {
		t.Errorf("Waiting became %v", other)
	}

	woken, _ := m.Unlock(0)
	woken[0] = api.Woken{Thread: 9, Posix: 9}
	_ = append(woken, api.Woken{Thread: 9})
	wantStand(t, "Unlock", m, "3*1 well 0 [2 1]")
	woken, c := m.Ended(3), m.Copy()
	woken[0] = api.Woken{Thread: 9, Posix: 9}
	_ = append(woken, api.Woken{Thread: 9})
	wantStand(t, "Ended", m, "2*1 left 0 [1]")

	first, _ := m.Unlock(2)
	second, _ := c.Unlock(2)
	first[0] = api.Woken{Thread: 9, Posix: 9}
	if wokenText(second) != "[1:ENOTRECOVERABLE]" {
		t.Errorf("Unlock of a copy is %v", second)
	}
}

// P13.5
func TestLookingChangesNothing(t *testing.T) {
	for _, m := range everyScene(t) {
		was, text := m.Copy(), stand(m)
		for range 3 {
			m.At()
			m.Waiting()
			m.Protocol()
			m.Copy()
			mutex.Same(m, was)
			mutex.Same(was, m)
			wantStand(t, "looking", m, text)
			wantSame(t, "looking", m, was, true)
		}
	}
}

// doings are calls of which each one changes some scene or other.
func doings() []call {
	var all []call
	for thread := range 4 {
		all = append(all, lock(thread, 9, 4), try(thread, 4), unlock(thread), consistent(thread), ended(thread), leave(thread), change(thread, 9), ceil(thread, 7))
	}
	return all
}

// P13.5: whatever is done to one of both, the other one stays, and does as it would have done.
func TestACopyGoesOnApart(t *testing.T) {
	for _, m := range everyScene(t) {
		text, protocol := stand(m), m.Protocol()
		for _, c := range doings() {
			a, b := m.Copy(), m.Copy()
			wantSame(t, "copies", a, b, true)
			answer := c.do(a)
			wantStand(t, c.name+" to a copy", m, text)
			wantStand(t, c.name+" to another copy", b, text)
			wantSame(t, c.name+" to a copy", m, b, true)
			want(t, b, c, answer)
			wantSame(t, c.name+" to both", a, b, true)
			for _, d := range doings() {
				x, y := a.Copy(), b.Copy()
				want(t, x, d, d.do(y))
				wantSame(t, c.name+", "+d.name, x, y, true)
			}
		}
		if got := m.Copy().Protocol(); got != protocol {
			t.Errorf("a copy has the protocol %d, not %d", got, protocol)
		}
	}
}

// P13.5: what is done to the one that was copied is nothing to the copy.
func TestTheCopiedOneGoesOnApart(t *testing.T) {
	m := after(plain(t, api.KindRecursive, true), lock(0, 5, 5), lock(1, 6, 6))
	c := m.Copy()
	after(m, lock(2, 7, 7), change(1, 31), lock(0, 5, 5), unlock(0), ended(0), unlock(1))
	wantStand(t, "the one", m, "none lost 0 []")
	wantStand(t, "the copy", c, "0*1 well 0 [1]")
	want(t, c, unlock(0), "[1:0] 0")
}

// P13.5: they differ in one thing alone; each is the same as one that was made as it was.
func TestSameTellsApart(t *testing.T) {
	none, inherit, protect := api.ProtocolNone, api.ProtocolInherit, api.ProtocolProtect
	normal := func() *mutex.Mutex { return plain(t, api.KindNormal, true) }
	recursive := func() *mutex.Mutex { return plain(t, api.KindRecursive, true) }
	owned := func() *mutex.Mutex { return after(normal(), lock(1, 5, 5)) }
	groups := map[string][]func() *mutex.Mutex{
		"kind": {
			normal, recursive,
			func() *mutex.Mutex { return plain(t, api.KindCheck, true) },
		},
		"protocol": {
			func() *mutex.Mutex { return made(t, api.KindCheck, none, 0, false) },
			func() *mutex.Mutex { return made(t, api.KindCheck, inherit, 0, false) },
			func() *mutex.Mutex { return made(t, api.KindCheck, protect, 1, false) },
		},
		"ceiling": {
			func() *mutex.Mutex { return made(t, api.KindCheck, protect, 1, false) },
			func() *mutex.Mutex { return made(t, api.KindCheck, protect, 2, false) },
			func() *mutex.Mutex { return made(t, api.KindCheck, protect, 31, false) },
		},
		"robust": {
			func() *mutex.Mutex { return plain(t, api.KindNormal, false) },
			func() *mutex.Mutex { return plain(t, api.KindNormal, true) },
		},
		"owner": {
			normal, owned,
			func() *mutex.Mutex { return after(normal(), lock(0, 5, 5)) },
			func() *mutex.Mutex { return after(normal(), lock(2, 5, 5)) },
		},
		"count": {
			func() *mutex.Mutex { return after(recursive(), lock(1, 5, 5)) },
			func() *mutex.Mutex { return after(recursive(), lock(1, 5, 5), lock(1, 5, 5)) },
			func() *mutex.Mutex { return after(recursive(), lock(1, 5, 5), try(1, 5), try(1, 5)) },
		},
		"state, without an owner": {
			normal,
			func() *mutex.Mutex { return after(normal(), lock(1, 5, 5), ended(1)) },
			func() *mutex.Mutex { return after(normal(), lock(1, 5, 5), ended(1), lock(1, 5, 5), unlock(1)) },
		},
		"state, with an owner": {
			owned,
			func() *mutex.Mutex { return after(normal(), lock(1, 5, 5), ended(1), lock(1, 5, 5)) },
		},
		"state, not robust": {
			func() *mutex.Mutex { return plain(t, api.KindNormal, false) },
			func() *mutex.Mutex { return after(plain(t, api.KindNormal, false), lock(1, 5, 5), ended(1)) },
		},
		"who waits": {
			owned,
			func() *mutex.Mutex { return after(owned(), lock(1, 5, 5)) },
			func() *mutex.Mutex { return after(owned(), lock(2, 5, 5)) },
			func() *mutex.Mutex { return after(owned(), lock(3, 5, 5)) },
			func() *mutex.Mutex { return after(owned(), lock(2, 6, 5)) },
			func() *mutex.Mutex { return after(owned(), lock(2, 5, 5), lock(3, 5, 5)) },
			func() *mutex.Mutex { return after(owned(), lock(3, 5, 5), lock(2, 5, 5)) },
			func() *mutex.Mutex { return after(owned(), lock(2, 6, 5), lock(3, 5, 5)) },
			func() *mutex.Mutex { return after(owned(), lock(3, 5, 5), lock(2, 6, 5)) },
		},
	}
	for name, group := range groups {
		for i, a := range group {
			for j, b := range group {
				wantSame(t, fmt.Sprint(name, " ", i, " ", j), a(), b(), i == j)
			}
		}
	}
}

// P13.5: how they came to it is nothing to it.
func TestSameOfTwoThatCameThereByUnlikeCalls(t *testing.T) {
	normal := func() *mutex.Mutex { return plain(t, api.KindNormal, true) }
	free := func() *mutex.Mutex { return made(t, api.KindRecursive, api.ProtocolProtect, 9, true) }
	pairs := [][2]*mutex.Mutex{
		{free(), after(free(), lock(1, 5, 5), unlock(1))},
		{free(), after(free(), ceil(1, 4), ceil(2, 9))},
		{free(), after(free(), try(1, 5), ended(1), try(2, 5), consistent(2), unlock(2))},
		{free(), after(free(), lock(1, 5, 10), try(1, 0), unlock(1), consistent(1), ended(-1))},
		{after(free(), lock(1, 5, 5)), after(free(), try(1, 9))},
		{after(free(), lock(1, 5, 5)), after(free(), lock(2, 5, 5), lock(1, 5, 5), unlock(2))},
		{after(free(), lock(1, 5, 5)), after(free(), lock(1, 31, 1), lock(1, 1, 1), lock(2, 4, 4), unlock(1), leave(2))},
		{after(normal(), lock(1, 5, 5), ended(1)), after(normal(), lock(2, 5, 5), lock(3, 9, 9), ended(2), ended(3))},
		{after(normal(), lock(1, 5, 5), lock(2, 7, 7)), after(normal(), lock(1, 5, 5), lock(2, 4, 4), change(2, 7))},
		{after(normal(), lock(1, 5, 5), lock(2, 7, 7), lock(3, 7, 7)), after(normal(), lock(1, 5, 5), lock(3, 7, 7), lock(2, 7, 7), leave(3), lock(3, 7, 7))},
	}
	for i, p := range pairs {
		wantSame(t, fmt.Sprint("pair ", i), p[0], p[1], true)
		for _, c := range doings() {
			a, b := p[0].Copy(), p[1].Copy()
			want(t, a, c, c.do(b))
			wantSame(t, fmt.Sprint("pair ", i, ", ", c.name), a, b, true)
		}
	}
}

// P13.5: one is the same as itself, in each state, and as no other of these.
func TestSameOfAllStates(t *testing.T) {
	all := everyScene(t)
	for i, a := range all {
		for j, b := range all {
			wantSame(t, fmt.Sprint(i, " ", j), a, b, i == j)
		}
	}
}
