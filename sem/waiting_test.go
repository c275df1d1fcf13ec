package sem_test

import (
	"fmt"
	"testing"
)

// empty is one of each, at which many may wait: its value or count is the first word of how it stands.
func empty(t *testing.T) map[string]func() thing {
	return map[string]func() thing{
		"0":  func() thing { return someSem(t, 0) },
		"16": func() thing { return someBarrier(t, 16) },
	}
}

// wantOrder asks for that order of those who wait.
func wantOrder(t *testing.T, what string, x thing, order string) {
	t.Helper()
	if got := listText(x.List()); got != order || x.Len() != len(x.List()) {
		t.Errorf("%s: %s wait, %d of them, want %s", what, got, x.Len(), order)
	}
}

// P14.1, P14.2, P14.3: those of a greater priority are ahead; of one priority who has waited longer is.
func TestTheOrderOfThoseWhoWait(t *testing.T) {
	for name, made := range empty(t) {
		x := made()
		for i, order := range []string{"[3]", "[3 1]", "[2 3 1]", "[2 3 1 0]", "[2 4 3 1 0]", "[5 2 4 3 1 0]", "[5 2 4 3 1 0 6]"} {
			c := []call{wait(3, 5), wait(1, 5), wait(2, 9), wait(0, 4), wait(4, 9), wait(5, 31), wait(6, 1)}[i]
			c.do(x)
			wantStand(t, c.name, x, name+" "+order)
		}
	}
}

// P14.1, P14.2: to a higher, a lower and the same priority; it has waited as long as before.
func TestChangeOfEachOne(t *testing.T) {
	rows := []struct {
		change call
		order  string
	}{
		{change(0, 7), "[0 1 2 3 4 5]"},
		{change(0, 31), "[0 1 2 3 4 5]"},
		{change(0, 5), "[1 0 2 3 4 5]"},
		{change(0, 6), "[1 0 2 3 4 5]"},
		{change(0, 4), "[1 2 3 0 4 5]"},
		{change(0, 3), "[1 2 3 0 4 5]"},
		{change(0, 2), "[1 2 3 4 5 0]"},
		{change(1, 7), "[0 1 2 3 4 5]"},
		{change(1, 8), "[1 0 2 3 4 5]"},
		{change(1, 5), "[0 1 2 3 4 5]"},
		{change(1, 4), "[0 2 3 1 4 5]"},
		{change(2, 5), "[0 1 2 3 4 5]"},
		{change(2, 6), "[0 1 2 3 4 5]"},
		{change(2, 7), "[0 1 2 3 4 5]"},
		{change(2, 8), "[2 0 1 3 4 5]"},
		{change(2, 3), "[0 1 3 2 4 5]"},
		{change(3, 5), "[0 1 2 3 4 5]"},
		{change(3, 6), "[0 1 3 2 4 5]"},
		{change(3, 7), "[0 1 3 2 4 5]"},
		{change(3, 1), "[0 1 2 4 5 3]"},
		{change(4, 3), "[0 1 2 3 4 5]"},
		{change(4, 5), "[0 1 2 3 4 5]"},
		{change(4, 7), "[0 1 4 2 3 5]"},
		{change(5, 3), "[0 1 2 3 4 5]"},
		{change(5, 31), "[5 0 1 2 3 4]"},
		{change(5, 1), "[0 1 2 3 4 5]"},
	}
	for name, made := range empty(t) {
		for _, r := range rows {
			x := after(made(), wait(0, 7), wait(1, 7), wait(2, 5), wait(3, 5), wait(4, 3), wait(5, 3))
			wantSteps(t, x, step{r.change, "OK", name + " " + r.order})
			if s, ok := x.(semaphore); ok {
				wantWokenAsListed(t, s)
			}
		}
	}
}

// wantWokenAsListed asks that Post wakes those who wait in the order of List, and then nobody.
func wantWokenAsListed(t *testing.T, s semaphore) {
	t.Helper()
	for _, thread := range s.List() {
		want(t, s, post(), fmt.Sprint(thread, " OK"))
	}
	want(t, s, post(), "-1 OK")
}

// P14.1, P14.2: there and back it stands where it stood: among those of its priority, how long one has waited is all.
func TestChangeThereAndBack(t *testing.T) {
	for _, made := range empty(t) {
		x := after(made(), wait(3, 5), wait(1, 5), wait(2, 5))
		was := x.another()
		for thread := 1; thread <= 3; thread++ {
			for prio := 1; prio <= 31; prio++ {
				want(t, x, change(thread, prio), "OK")
				wantSame(t, "there", x, was, prio == 5)
				want(t, x, change(thread, 5), "OK")
				wantOrder(t, "back", x, "[3 1 2]")
				wantSame(t, "back", x, was, true)
			}
		}
	}
}

// P14.1, P14.2: each one of many leaves, the first, one between, and the last.
func TestLeaveOfEachOne(t *testing.T) {
	for name, made := range empty(t) {
		for gone := range 15 {
			x := made()
			var others []int
			for thread := range 15 {
				x.wait(thread, 1+(14-thread)/4)
				if thread != gone {
					others = append(others, thread)
				}
			}
			wantSteps(t, x, step{leave(gone), "OK", fmt.Sprint(name, " ", others)})
			wantRefused(t, x, leave(gone), "ErrNone")
			wantRefused(t, x, change(gone, 5), "ErrNone")
			wantRefused(t, x, leave(15), "ErrNone")
			wantRefused(t, x, change(15, 5), "ErrNone")
		}
	}
}

// P14.1: all threads wait for one semaphore, and each one that comes again is refused.
func TestAllThreadsWaitForOneSemaphore(t *testing.T) {
	s := someSem(t, 0)
	for thread := range 16 {
		want(t, s, wait(thread, 5), "false OK")
	}
	for thread := range 16 {
		for _, prio := range []int{1, 5, 31} {
			wantRefused(t, s, wait(thread, prio), "false ErrState")
		}
	}
	wantWokenAsListed(t, s.(semaphore))
}

// P14.1, P14.2: what is done to one is nothing to another.
func TestTwoAreApart(t *testing.T) {
	for name, made := range empty(t) {
		a, b := made(), made()
		want(t, a, leave(1), "ErrNone")
		a.wait(1, 5)
		wantStand(t, "the other one", b, name+" []")
		want(t, b, leave(1), "ErrNone")
		b.wait(1, 9)
		b.wait(2, 9)
		want(t, b, leave(1), "OK")
		wantStand(t, "the one", a, name+" [1]")
	}
}
