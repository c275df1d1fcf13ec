package cond_test

import (
	"fmt"
	"math"
	"reflect"
	"testing"

	"metronome/cond"
)

// noConds are a nil and a zero one.
func noConds() []*cond.Cond {
	return []*cond.Cond{nil, {}}
}

// noThreads are numbers that are no threads.
func noThreads() []int {
	return []int{-1, -2, -15, -16, -17, 16, 17, 31, 32, 256, 257, 1 << 32, 1<<32 + 1, -1 << 32, math.MinInt, math.MinInt + 1, math.MaxInt}
}

// noPrios are numbers that are no priorities.
func noPrios() []int {
	return []int{0, -1, -2, -5, -31, -32, 32, 33, 63, 64, 69, 256, 261, 1 << 32, 1<<32 + 5, -1 << 32, math.MinInt, math.MinInt + 5, math.MaxInt}
}

// noMutexes are numbers that are no mutexes.
func noMutexes() []int {
	return []int{-1, -2, -3, -8, -256, -1 << 32, math.MinInt + 3, math.MinInt + 1, math.MinInt}
}

// scenes are conditions of many kinds; threads 1 to 3 are the ones that wait, if some do, and no two are the same.
func scenes() []*cond.Cond {
	return []*cond.Cond{
		cond.New(),
		made(wait(1, 5, 0)),
		made(wait(1, 5, 3)),
		made(wait(1, 6, 3)),
		made(wait(1, 5, math.MaxInt)),
		made(wait(1, 5, 3), wait(2, 5, 3), wait(3, 9, 3)),
		made(wait(2, 5, 3), wait(1, 5, 3), wait(3, 9, 3)),
		made(wait(1, 5, 4), wait(2, 5, 4), wait(3, 9, 4)),
		made(wait(3, 9, 3), wait(1, 5, 3), wait(2, 5, 3)),
	}
}

// wrongCalls are calls with a thread, a priority or a mutex that may not be, or with several of them.
func wrongCalls() []call {
	var all []call
	for _, thread := range noThreads() {
		all = append(all, leave(thread))
		for _, prio := range []int{1, 5, 31, 0, 32, thread} {
			all = append(all, change(thread, prio))
			for _, mutex := range []int{0, 3, 7, math.MaxInt, -1, thread} {
				all = append(all, wait(thread, prio, mutex))
			}
		}
	}
	for _, thread := range []int{0, 1, 2, 3, 4, 15} {
		for _, prio := range noPrios() {
			all = append(all, change(thread, prio))
			for _, mutex := range []int{0, 3, 7, math.MaxInt, -1, prio} {
				all = append(all, wait(thread, prio, mutex))
			}
		}
		for _, mutex := range noMutexes() {
			all = append(all, wait(thread, 1, mutex), wait(thread, 5, mutex), wait(thread, 31, mutex), wait(thread, mutex, mutex))
		}
	}
	return all
}

// P16.1: ahead of that it waits, or does not, and that the others name another mutex.
func TestWhatMayNotBeIsRefused(t *testing.T) {
	for _, c := range scenes() {
		for _, x := range wrongCalls() {
			wantRefused(t, c, x, "ErrArg")
		}
	}
}

// P16.1: one that waits and comes again; one that names another mutex; one that leaves or changes, and does not wait.
func TestWhoWaitsAndWhoDoesNot(t *testing.T) {
	for _, c := range scenes() {
		named, some := c.Mutex()
		for thread := range 16 {
			for _, prio := range []int{1, 5, 9, 31} {
				for _, mutex := range []int{0, 1, 2, 3, 4, 5, math.MaxInt} {
					if c.Has(thread) || some && mutex != named {
						wantRefused(t, c, wait(thread, prio, mutex), "ErrState")
					} else {
						want(t, c.Copy(), wait(thread, prio, mutex), "OK")
					}
				}
				if !c.Has(thread) {
					wantRefused(t, c, change(thread, prio), "ErrNone")
				}
			}
			if !c.Has(thread) {
				wantRefused(t, c, leave(thread), "ErrNone")
			}
		}
	}
}

// P16.1, P16.4: a mutex that was refused is named by nobody: another one may be, then.
func TestARefusedMutexIsNotNamed(t *testing.T) {
	wantSteps(t, cond.New(),
		step{wait(16, 5, 3), "ErrArg", "free []"},
		step{wait(1, 32, 3), "ErrArg", "free []"},
		step{wait(1, 5, -3), "ErrArg", "free []"},
		step{wait(1, 5, 4), "OK", "4 [1]"},
		step{wait(2, 0, 4), "ErrArg", "4 [1]"},
		step{wait(2, 5, 3), "ErrState", "4 [1]"},
		step{wait(1, 5, 3), "ErrState", "4 [1]"},
		step{wait(2, 5, 4), "OK", "4 [1 2]"},
	)
}

// P16.1, P16.2, P16.3: a nil and a zero one are refused, whatever they are given, and have nothing.
func TestNilAndZeroOnes(t *testing.T) {
	for _, c := range noConds() {
		for _, x := range append(wrongCalls(), wait(0, 1, 0), wait(1, 5, 3), wait(15, 31, math.MaxInt), leave(0), leave(15), change(0, 1), change(15, 31)) {
			want(t, c, x, "ErrNil")
		}
		want(t, c, signal(), "0 false")
		want(t, c, broadcast(), "[]")
		wantStand(t, "none", c, "free []")
		if c.Copy() != nil {
			t.Error("Copy of none is one")
		}
	}
}

// P16.1: what was refused has not made anything of it.
func TestAZeroOneStaysZero(t *testing.T) {
	c := after(&cond.Cond{}, wait(1, 5, 3), signal(), broadcast(), leave(1), change(1, 5))
	if *c != (cond.Cond{}) {
		t.Errorf("%+v", *c)
	}
}

// P16.3
func TestSameOfNilAndZeroOnes(t *testing.T) {
	for _, c := range noConds() {
		for _, other := range noConds() {
			wantSame(t, "none and none", c, other, true)
		}
		for _, other := range scenes() {
			wantSame(t, "none and one", c, other, false)
		}
	}
}

// P16.3: who is no thread does not wait.
func TestHasOfWhatIsNoThread(t *testing.T) {
	for _, c := range append(scenes(), noConds()...) {
		for _, thread := range noThreads() {
			if c.Has(thread) {
				t.Errorf("%s: Has(%d)", stand(c), thread)
			}
		}
	}
}

// P16.2, P16.3
func TestWhatIsAnsweredIsNobodyElses(t *testing.T) {
	c := made(wait(1, 5, 2), wait(2, 6, 2), wait(3, 7, 2), wait(4, 8, 2))
	list := c.List()
	clear(list[:cap(list)])
	wantStand(t, "List", c, "2 [4 3 2 1]")
	kept, other := c.List(), c.Copy()
	woken := c.Broadcast()
	after(c, wait(5, 5, 9), wait(6, 6, 9), wait(7, 7, 9), wait(8, 8, 9))
	if listText(kept) != "[4 3 2 1]" || listText(woken) != "[4 3 2 1]" {
		t.Errorf("List became %v, Broadcast %v", kept, woken)
	}
	clear(woken[:cap(woken)])
	clear(kept[:cap(kept)])
	wantStand(t, "Broadcast", c, "9 [8 7 6 5]")
	wantStand(t, "a copy", other, "2 [4 3 2 1]")
	first, second := other.Copy().Broadcast(), other.Copy().Broadcast()
	clear(first[:cap(first)])
	if listText(second) != "[4 3 2 1]" {
		t.Errorf("another Broadcast became %v", second)
	}
	wantWokenAsListed(t, other)
}

// P16.3
func TestLookingChangesNothing(t *testing.T) {
	for _, c := range scenes() {
		was, text := c.Copy(), stand(c)
		for range 3 {
			c.Mutex()
			c.Has(1)
			c.Has(-1)
			c.Len()
			c.List()
			c.Copy()
			cond.Same(c, was)
			cond.Same(was, c)
			cond.Same(c, nil)
			wantStand(t, "looking", c, text)
			wantSame(t, "looking", c, was, true)
		}
	}
}

// doings are calls of which each one changes some scene or other.
func doings() []call {
	all := []call{signal(), broadcast()}
	for thread := range 5 {
		all = append(all, wait(thread, 7, 3), wait(thread, 7, 0), leave(thread), change(thread, 7))
	}
	return all
}

// P16.3: whatever is done to one of both, the other one stays, and does as it would have done.
func TestACopyGoesOnApart(t *testing.T) {
	for _, c := range scenes() {
		text := stand(c)
		for _, x := range doings() {
			a, b := c.Copy(), c.Copy()
			wantStand(t, "a copy", a, text)
			wantSame(t, "copies", a, b, true)
			answer := x.do(a)
			wantStand(t, x.name+" to a copy", c, text)
			wantStand(t, x.name+" to another copy", b, text)
			wantSame(t, x.name+" to a copy", c, b, true)
			want(t, b, x, answer)
			wantSame(t, x.name+" to both", a, b, true)
			for _, y := range doings() {
				d, e := a.Copy(), b.Copy()
				want(t, d, y, y.do(e))
				wantSame(t, x.name+", "+y.name, d, e, true)
			}
		}
	}
}

// P16.3: what is done to the one that was copied is nothing to the copy, its mutex neither.
func TestTheCopiedOneGoesOnApart(t *testing.T) {
	c := made(wait(1, 5, 3), wait(2, 6, 3))
	other := c.Copy()
	after(c, wait(3, 7, 3), change(1, 31), signal(), leave(2), broadcast(), wait(4, 4, 8))
	wantStand(t, "the condition", c, "8 [4]")
	wantSteps(t, other,
		step{wait(4, 4, 8), "ErrState", "3 [2 1]"},
		step{signal(), "2 true", "3 [1]"},
		step{broadcast(), "[1]", "free []"},
	)
	wantStand(t, "the condition", c, "8 [4]")
}

// P16.3: they differ in one thing alone; each is the same as one that was made as it was.
func TestSameTellsApart(t *testing.T) {
	groups := map[string][][]call{
		"who waits": {
			{},
			{wait(0, 5, 3)},
			{wait(1, 5, 3)},
			{wait(1, 5, 3), wait(2, 5, 3)},
			{wait(1, 5, 3), wait(3, 5, 3)},
		},
		"nobody, and one with the mutex 0": {
			{},
			{wait(0, 1, 0)},
		},
		"priorities": {
			{wait(1, 5, 3)},
			{wait(1, 6, 3)},
			{wait(1, 31, 3)},
		},
		"priorities that leave the order": {
			{wait(1, 6, 3), wait(2, 5, 3)},
			{wait(1, 7, 3), wait(2, 5, 3)},
			{wait(1, 6, 3), wait(2, 4, 3)},
		},
		"who came first": {
			{wait(1, 5, 3), wait(2, 5, 3)},
			{wait(2, 5, 3), wait(1, 5, 3)},
		},
		"who came first, of an order that does not tell it": {
			{wait(1, 5, 3), wait(2, 6, 3)},
			{wait(2, 6, 3), wait(1, 5, 3)},
		},
		"the mutex": {
			{wait(1, 5, 0)},
			{wait(1, 5, 1)},
			{wait(1, 5, 3)},
			{wait(1, 5, math.MaxInt)},
		},
		"the mutex, where many wait": {
			{wait(1, 5, 0), wait(2, 9, 0)},
			{wait(1, 5, 1), wait(2, 9, 1)},
		},
	}
	for name, group := range groups {
		for i, a := range group {
			for j, b := range group {
				wantSame(t, fmt.Sprint(name, " ", i, " ", j), made(a...), made(b...), i == j)
			}
		}
	}
}

// P16.3: how they came to it is nothing to it, and where nobody waits no mutex is.
func TestSameOfTwoThatCameThereByUnlikeCalls(t *testing.T) {
	for i, p := range [][2][]call{
		{{}, {wait(1, 5, 3), signal()}},
		{{}, {wait(1, 5, 3), wait(2, 5, 3), broadcast()}},
		{{}, {wait(1, 5, 3), leave(1)}},
		{{}, {wait(1, 5, -1), wait(16, 5, 3), wait(1, 0, 3)}},
		{{wait(1, 5, 3), signal()}, {wait(2, 9, 4), signal()}},
		{{wait(1, 5, 3), broadcast()}, {wait(1, 5, 4), leave(1)}},
		{{wait(1, 5, 0), leave(1)}, {wait(1, 5, math.MaxInt), signal()}},
		{{wait(1, 5, 3)}, {wait(1, 9, 3), change(1, 5)}},
		{{wait(1, 5, 3)}, {wait(1, 5, 4), signal(), wait(1, 5, 3)}},
		{{wait(1, 5, 3)}, {wait(1, 5, 3), wait(1, 9, 3), wait(2, 5, 4)}},
		{{wait(1, 5, 3)}, {wait(2, 9, 3), wait(1, 5, 3), signal()}},
		{{wait(1, 5, 3), wait(2, 7, 3)}, {wait(2, 7, 3), wait(1, 5, 3), leave(2), wait(2, 7, 3)}},
		{{wait(1, 5, 3), wait(2, 7, 3)}, {wait(1, 8, 3), wait(2, 4, 3), wait(3, 3, 3), change(2, 7), leave(3), change(1, 5)}},
	} {
		wantSame(t, fmt.Sprint("pair ", i), made(p[0]...), made(p[1]...), true)
		for _, x := range doings() {
			a, b := made(p[0]...), made(p[1]...)
			want(t, a, x, x.do(b))
			wantSame(t, fmt.Sprint("pair ", i, ", ", x.name), a, b, true)
		}
	}
}

// P16.3: one is the same as itself, and as no other of these.
func TestSameOfAllScenes(t *testing.T) {
	all := scenes()
	for i, a := range all {
		for j, b := range all {
			wantSame(t, fmt.Sprint(i, " ", j), a, b, i == j)
		}
	}
}

// P16.4: there is no other way in or out, which would go past the mutex.
func TestACondHasTheChaptersCallsAlone(t *testing.T) {
	listed := map[string]bool{"Wait": true, "Signal": true, "Broadcast": true, "Leave": true, "Change": true, "Mutex": true, "Has": true, "Len": true, "List": true, "Copy": true}
	kind := reflect.TypeFor[*cond.Cond]()
	for i := range kind.NumMethod() {
		if name := kind.Method(i).Name; !listed[name] {
			t.Errorf("a Cond has %s", name)
		}
	}
	if kind.NumMethod() != len(listed) {
		t.Errorf("a Cond has %d calls, want %d", kind.NumMethod(), len(listed))
	}
}
