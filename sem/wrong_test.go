package sem_test

import (
	"fmt"
	"testing"

	"metronome/api"
	"metronome/sem"
)

// noThings are nil and zero ones.
func noThings() []thing {
	return []thing{semaphore{nil}, semaphore{&sem.Sem{}}, barrier{nil}, barrier{&sem.Barrier{}}}
}

// scenes are semaphores and barriers of many kinds; threads 1 to 3 are the ones that wait, if some do, and no two are the same.
func scenes(t *testing.T) []thing {
	t.Helper()
	var all []thing
	for _, value := range []int{0, 1, 2, 32766, 32767} {
		all = append(all, someSem(t, value))
	}
	for _, made := range empty(t) {
		all = append(all,
			after(made(), wait(1, 5)),
			after(made(), wait(1, 5), wait(2, 5), wait(3, 9)),
			after(made(), wait(2, 5), wait(1, 5), wait(3, 9)))
	}
	for _, count := range []int{1, 2, 4, 16} {
		all = append(all, someBarrier(t, count))
	}
	return append(all,
		after(someBarrier(t, 2), wait(1, 5)),
		after(someBarrier(t, 4), wait(1, 5), wait(2, 5), wait(3, 9)))
}

// refusedWait is what Wait answers beside an error.
func refusedWait(x thing, err string) string {
	if _, ok := x.(semaphore); ok {
		return "false " + err
	}
	return "[] " + err
}

// wrongWaits are calls of Wait with a thread or a priority that may not be, or with both.
func wrongWaits() []call {
	var all []call
	for _, thread := range noThreads() {
		all = append(all, wait(thread, 1), wait(thread, 5), wait(thread, 31), wait(thread, 0), wait(thread, thread))
	}
	for _, prio := range noPrios() {
		for thread := range 5 {
			all = append(all, wait(thread, prio))
		}
		all = append(all, wait(15, prio))
	}
	return all
}

// wrongOthers are calls of Leave and Change with what may not be.
func wrongOthers() []call {
	var all []call
	for _, thread := range noThreads() {
		all = append(all, leave(thread), change(thread, 1), change(thread, 5), change(thread, 31), change(thread, 0), change(thread, thread))
	}
	for _, prio := range noPrios() {
		for thread := range 5 {
			all = append(all, change(thread, prio))
		}
		all = append(all, change(15, prio))
	}
	return all
}

// P14.1, P14.2: ahead of that it waits, or does not, and also where nobody would have to wait.
func TestWhatMayNotBeIsRefused(t *testing.T) {
	for _, x := range scenes(t) {
		for _, c := range wrongWaits() {
			wantRefused(t, x, c, refusedWait(x, "ErrArg"))
		}
		for _, c := range wrongOthers() {
			wantRefused(t, x, c, "ErrArg")
		}
	}
}

// P14.1, P14.2: one that waits and comes again; one that leaves or changes, and does not wait.
func TestWhoWaitsAndWhoDoesNot(t *testing.T) {
	for _, x := range scenes(t) {
		waits := map[int]bool{}
		for _, thread := range x.List() {
			waits[thread] = true
		}
		for thread := range 16 {
			for _, prio := range []int{1, 5, 9, 31} {
				if waits[thread] {
					wantRefused(t, x, wait(thread, prio), refusedWait(x, "ErrState"))
				} else {
					wantRefused(t, x, change(thread, prio), "ErrNone")
				}
			}
			if !waits[thread] {
				wantRefused(t, x, leave(thread), "ErrNone")
			}
		}
	}
}

// P14.1, P14.2, P14.3: a nil and a zero one are refused, whatever they are given, and have nothing.
func TestNilAndZeroOnes(t *testing.T) {
	for _, x := range noThings() {
		calls := append(wrongOthers(), leave(0), leave(15), change(0, 1), change(15, 31))
		for _, c := range calls {
			want(t, x, c, "ErrNil")
		}
		for _, c := range append(wrongWaits(), wait(0, 1), wait(1, 5), wait(15, 31)) {
			want(t, x, c, refusedWait(x, "ErrNil"))
		}
		if s, ok := x.(semaphore); ok {
			want(t, s, try(), "false")
			want(t, s, post(), "-1 ErrNil")
			want(t, s, try(), "false")
		}
		wantStand(t, "none", x, "0 []")
	}
}

// P14.1, P14.2: what was refused has not made anything of them.
func TestZeroOnesStayZero(t *testing.T) {
	s, b := &sem.Sem{}, &sem.Barrier{}
	after(semaphore{s}, wait(1, 5), post(), try(), leave(1), change(1, 5))
	after(barrier{b}, wait(1, 5), leave(1), change(1, 5))
	if *s != (sem.Sem{}) || *b != (sem.Barrier{}) {
		t.Errorf("%+v, %+v", *s, *b)
	}
}

// P14.3
func TestCopyAndSameOfNilAndZeroOnes(t *testing.T) {
	semaphores, barriers := []*sem.Sem{nil, {}}, []*sem.Barrier{nil, {}}
	for i, s := range semaphores {
		if s.Copy() != nil || barriers[i].Copy() != nil {
			t.Errorf("Copy of none (%d) is one", i)
		}
		for j, other := range semaphores {
			if !sem.Same(s, other) || !sem.SameBarrier(barriers[i], barriers[j]) {
				t.Errorf("none (%d) is not the same as none (%d)", i, j)
			}
		}
		for _, x := range scenes(t) {
			if _, ok := x.(semaphore); ok {
				wantSame(t, "none and one", semaphore{s}, x, false)
			} else {
				wantSame(t, "none and one", barrier{barriers[i]}, x, false)
			}
		}
	}
}

// P14.3
func TestListIsNobodyElses(t *testing.T) {
	for name, made := range empty(t) {
		x := after(made(), wait(1, 5), wait(2, 6), wait(3, 7), wait(4, 8))
		list := x.List()
		clear(list[:cap(list)])
		wantStand(t, "List", x, name+" [4 3 2 1]")
		kept := x.List()
		after(x, leave(3), change(1, 31), wait(5, 9))
		wantStand(t, "List", x, name+" [1 5 4 2]")
		if listText(kept) != "[4 3 2 1]" {
			t.Errorf("List became %v", kept)
		}
	}
}

// P14.2: neither the barrier, nor a copy, nor the round behind it has anything of it.
func TestWhatABarriersWaitAnswersIsNobodyElses(t *testing.T) {
	x := after(someBarrier(t, 4), wait(1, 5), wait(2, 6), wait(3, 7)).(barrier)
	c := x.Copy()
	first, err := x.Wait(0, 1)
	if err != api.OK || listText(first) != "[3 2 1 0]" {
		t.Fatalf("Wait: %v, %s", first, errText(err))
	}
	after(x, wait(7, 5), wait(8, 5), wait(9, 5))
	if listText(first) != "[3 2 1 0]" {
		t.Errorf("Wait's answer became %v", first)
	}
	clear(first[:cap(first)])
	wantStand(t, "the round behind it", x, "4 [7 8 9]")
	second, _ := x.Wait(6, 31)
	clear(second[:cap(second)])
	wantSteps(t, x,
		step{wait(9, 5), "[] OK", "4 [9]"},
		step{wait(7, 5), "[] OK", "4 [9 7]"},
	)
	wantSteps(t, barrier{c}, step{wait(0, 1), "[3 2 1 0] OK", "4 []"})
}

// P14.3
func TestLookingChangesNothing(t *testing.T) {
	for _, x := range scenes(t) {
		was, text := x.another(), stand(x)
		for range 3 {
			x.number()
			x.Len()
			x.List()
			x.another()
			x.same(was)
			was.same(x)
			wantStand(t, "looking", x, text)
			wantSame(t, "looking", x, was, true)
		}
	}
}

// doings are calls of which each one changes some scene or other.
func doings(x thing) []call {
	var all []call
	for thread := range 5 {
		all = append(all, wait(thread, 7), leave(thread), change(thread, 7))
	}
	if _, ok := x.(semaphore); ok {
		all = append(all, try(), post())
	}
	return all
}

// P14.3: whatever is done to one of both, the other one stays, and does as it would have done.
func TestACopyGoesOnApart(t *testing.T) {
	for _, x := range scenes(t) {
		text := stand(x)
		for _, c := range doings(x) {
			a, b := x.another(), x.another()
			wantStand(t, "a copy", a, text)
			wantSame(t, "copies", a, b, true)
			answer := c.do(a)
			wantStand(t, c.name+" to a copy", x, text)
			wantStand(t, c.name+" to another copy", b, text)
			wantSame(t, c.name+" to a copy", x, b, true)
			want(t, b, c, answer)
			wantSame(t, c.name+" to both", a, b, true)
			for _, d := range doings(x) {
				e, f := a.another(), b.another()
				want(t, e, d, d.do(f))
				wantSame(t, c.name+", "+d.name, e, f, true)
			}
		}
	}
}

// P14.3: what is done to the one that was copied is nothing to the copy.
func TestTheCopiedOneGoesOnApart(t *testing.T) {
	s := after(someSem(t, 0), wait(1, 5), wait(2, 6))
	b := after(someBarrier(t, 3), wait(1, 5), wait(2, 6))
	s1, b1 := s.another(), b.another()
	after(s, wait(3, 7), change(1, 31), post(), leave(2), post(), post())
	after(b, change(1, 31), leave(2), wait(2, 3), wait(4, 4), wait(5, 5))
	wantStand(t, "the semaphore", s, "1 []")
	wantStand(t, "the barrier", b, "3 [5]")
	wantStand(t, "the semaphore's copy", s1, "0 [2 1]")
	wantStand(t, "the barrier's copy", b1, "3 [2 1]")
	want(t, s1, post(), "2 OK")
	want(t, b1, wait(3, 31), "[2 1 3] OK")
}

// P14.3: they differ in one thing alone; each is the same as one that was made as it was.
func TestSameTellsApart(t *testing.T) {
	groups := map[string][]func() thing{
		"value": {
			func() thing { return someSem(t, 0) },
			func() thing { return someSem(t, 1) },
			func() thing { return someSem(t, 2) },
			func() thing { return someSem(t, 32767) },
		},
		"count": {
			func() thing { return someBarrier(t, 1) },
			func() thing { return someBarrier(t, 2) },
			func() thing { return someBarrier(t, 16) },
		},
		"count, where some wait": {
			func() thing { return after(someBarrier(t, 3), wait(1, 5), wait(2, 5)) },
			func() thing { return after(someBarrier(t, 4), wait(1, 5), wait(2, 5)) },
			func() thing { return after(someBarrier(t, 16), wait(1, 5), wait(2, 5)) },
		},
	}
	for name, made := range empty(t) {
		groups["who waits, "+name] = []func() thing{
			made,
			func() thing { return after(made(), wait(0, 5)) },
			func() thing { return after(made(), wait(1, 5)) },
			func() thing { return after(made(), wait(1, 5), wait(2, 5)) },
			func() thing { return after(made(), wait(1, 5), wait(3, 5)) },
		}
		groups["priorities, "+name] = []func() thing{
			func() thing { return after(made(), wait(1, 5)) },
			func() thing { return after(made(), wait(1, 6)) },
			func() thing { return after(made(), wait(1, 31)) },
		}
		groups["priorities that leave the order, "+name] = []func() thing{
			func() thing { return after(made(), wait(1, 6), wait(2, 5)) },
			func() thing { return after(made(), wait(1, 7), wait(2, 5)) },
			func() thing { return after(made(), wait(1, 6), wait(2, 4)) },
		}
		groups["who came first, "+name] = []func() thing{
			func() thing { return after(made(), wait(1, 5), wait(2, 5)) },
			func() thing { return after(made(), wait(2, 5), wait(1, 5)) },
		}
		groups["who came first, of an order that does not tell it, "+name] = []func() thing{
			func() thing { return after(made(), wait(1, 5), wait(2, 6)) },
			func() thing { return after(made(), wait(2, 6), wait(1, 5)) },
		}
	}
	for name, group := range groups {
		for i, a := range group {
			for j, b := range group {
				wantSame(t, fmt.Sprint(name, " ", i, " ", j), a(), b(), i == j)
			}
		}
	}
}

// P14.3: how they came to it is nothing to it.
func TestSameOfTwoThatCameThereByUnlikeCalls(t *testing.T) {
	pairs := [][2]thing{
		{someSem(t, 0), after(someSem(t, 1), try())},
		{someSem(t, 0), after(someSem(t, 2), wait(3, 9), wait(3, 4))},
		{someSem(t, 0), after(someSem(t, 0), wait(3, 9), post())},
		{someSem(t, 0), after(someSem(t, 0), wait(3, 9), leave(3))},
		{someSem(t, 3), after(someSem(t, 0), post(), post(), wait(-1, 5), wait(1, 0), post())},
		{someSem(t, 32767), after(someSem(t, 32767), post(), post())},
		{someBarrier(t, 2), after(someBarrier(t, 2), wait(1, 5), wait(2, 5))},
		{someBarrier(t, 2), after(someBarrier(t, 2), wait(1, 5), wait(1, 5), leave(1))},
		{after(someBarrier(t, 2), wait(3, 5)), after(someBarrier(t, 2), wait(1, 5), wait(2, 5), wait(3, 5))},
	}
	for _, made := range empty(t) {
		pairs = append(pairs,
			[2]thing{after(made(), wait(1, 5)), after(made(), wait(1, 9), change(1, 5))},
			[2]thing{after(made(), wait(1, 5), wait(2, 7)), after(made(), wait(2, 7), wait(1, 5), leave(2), wait(2, 7))},
			[2]thing{after(made(), wait(1, 5), wait(2, 7)), after(made(), wait(1, 8), wait(2, 4), wait(3, 3), change(2, 7), leave(3), change(1, 5))})
	}
	for i, p := range pairs {
		wantSame(t, fmt.Sprint("pair ", i), p[0], p[1], true)
		for _, c := range doings(p[0]) {
			a, b := p[0].another(), p[1].another()
			want(t, a, c, c.do(b))
			wantSame(t, fmt.Sprint("pair ", i, ", ", c.name), a, b, true)
		}
	}
}

// P14.3: one is the same as itself, and as no other of these.
func TestSameOfAllScenes(t *testing.T) {
	all := scenes(t)
	for i, a := range all {
		_, isSem := a.(semaphore)
		for j, b := range all {
			if _, alike := b.(semaphore); alike == isSem {
				wantSame(t, fmt.Sprint(i, " ", j), a, b, i == j)
			}
		}
	}
}
