package waits_test

import (
	"math"
	"slices"
	"testing"

	"metronome/api"
	"metronome/waits"
)

// who is a thread that waits, with its priority.
func who(thread, prio int) api.Waiter {
	return api.Waiter{Thread: thread, Prio: prio}
}

// noLists are a nil and a zero one.
func noLists() []*waits.Waits {
	return []*waits.Waits{nil, {}}
}

// noPrios are numbers that are no priorities.
func noPrios() []int {
	return []int{0, -1, -2, -5, -31, -32, 32, 33, 63, 64, 69, 1 << 32, 1<<32 + 5, -1 << 32, math.MinInt, math.MinInt + 5, math.MaxInt}
}

// noThreads are numbers that are no threads.
func noThreads() []int {
	return []int{-1, -2, -15, -16, -17, 16, 17, 31, 32, 1 << 32, 1<<32 + 1, -1 << 32, math.MinInt, math.MinInt + 1, math.MaxInt}
}

func wantErr(t *testing.T, what string, got, want api.Errno) {
	t.Helper()
	if got != want {
		t.Errorf("%s: %v, want %v", what, got, want)
	}
}

// made is a list in which those wait, who came one behind the other.
func made(t *testing.T, all ...api.Waiter) *waits.Waits {
	t.Helper()
	w := waits.New()
	if w == nil {
		t.Fatal("New is nil")
	}
	for _, x := range all {
		wantErr(t, "Put", w.Put(x.Thread, x.Prio), api.OK)
	}
	return w
}

// crowd is all threads, rising, each with the priority that is told for it.
func crowd(prio func(thread int) int) []api.Waiter {
	var all []api.Waiter
	for thread := range api.MaxThreads {
		all = append(all, who(thread, prio(thread)))
	}
	return all
}

// alike is all threads, rising, all of one priority.
func alike(prio int) []api.Waiter {
	return crowd(func(int) int { return prio })
}

func threads(all []api.Waiter) []int {
	var list []int
	for _, x := range all {
		list = append(list, x.Thread)
	}
	return list
}

// without is all but that thread, in new memory.
func without(all []api.Waiter, thread int) []api.Waiter {
	return slices.DeleteFunc(slices.Clone(all), func(x api.Waiter) bool { return x.Thread == thread })
}

// gone are those that All goes over.
func gone(w *waits.Waits) []api.Waiter {
	return slices.Collect(w.All())
}

func wantThreads(t *testing.T, what string, got []int, want ...int) {
	t.Helper()
	if !slices.Equal(got, want) {
		t.Errorf("%s is %v, want %v", what, got, want)
	}
}

// wantOne asks for that thread.
func wantOne(t *testing.T, what string, tell func() (int, bool), want int) {
	t.Helper()
	if got, ok := tell(); got != want || !ok {
		t.Errorf("%s is %d, %v, want %d, true", what, got, ok, want)
	}
}

// wantNobody asks for no thread.
func wantNobody(t *testing.T, what string, tell func() (int, bool)) {
	t.Helper()
	if got, ok := tell(); got != 0 || ok {
		t.Errorf("%s is %d, %v, want 0, false", what, got, ok)
	}
}

// wantPrio asks for that priority; 0 is that of who does not wait.
func wantPrio(t *testing.T, w *waits.Waits, thread, want int) {
	t.Helper()
	if got, ok := w.Prio(thread); got != want || ok != (want != 0) {
		t.Errorf("Prio(%d) is %d, %v, want %d", thread, got, ok, want)
	}
	if got := w.Has(thread); got != (want != 0) {
		t.Errorf("Has(%d) is %v", thread, got)
	}
}

func wantSame(t *testing.T, what string, a, b *waits.Waits, want bool) {
	t.Helper()
	if waits.Same(a, b) != want || waits.Same(b, a) != want {
		t.Errorf("%s: Same is %v, %v, want %v", what, waits.Same(a, b), waits.Same(b, a), want)
	}
}

// wantWaits asks of all looks at a list that they say just that; the first one of the order first.
func wantWaits(t *testing.T, what string, w *waits.Waits, want ...api.Waiter) {
	t.Helper()
	if got := gone(w); !slices.Equal(got, want) {
		t.Errorf("%s: All goes over %v, want %v", what, got, want)
	}
	wantThreads(t, what+": List", w.List(), threads(want)...)
	if w.Len() != len(want) {
		t.Errorf("%s: Len is %d, want %d", what, w.Len(), len(want))
	}
	if len(want) == 0 {
		wantNobody(t, what+": First", w.First)
	} else {
		wantOne(t, what+": First", w.First, want[0].Thread)
	}
	prios := map[int]int{}
	for _, x := range want {
		prios[x.Thread] = x.Prio
	}
	for thread := -2; thread < api.MaxThreads+2; thread++ {
		wantPrio(t, w, thread, prios[thread])
	}
}

// P9.1, P9.2, P9.3
func TestInANewOneNobodyWaits(t *testing.T) {
	w := made(t)
	wantWaits(t, "new", w)
	wantNobody(t, "Take", w.Take)
	wantThreads(t, "Clear", w.Clear())
	wantWaits(t, "new, taken and cleared", w)
	wantSame(t, "new, taken and cleared", w, made(t), true)
}

// P9.1, P9.2: each thread, with each priority, alone.
func TestEachThreadMayWaitWithEachPriority(t *testing.T) {
	for prio := 1; prio <= 31; prio++ {
		for thread := 0; thread <= 15; thread++ {
			w, one := made(t), who(thread, prio)
			wantErr(t, "Put", w.Put(thread, prio), api.OK)
			wantWaits(t, "Put", w, one)
			wantOne(t, "Take", w.Take, thread)
			wantWaits(t, "Take", w)
			wantErr(t, "Put", w.Put(thread, prio), api.OK)
			wantErr(t, "Leave", w.Leave(thread), api.OK)
			wantWaits(t, "Leave", w)
			wantErr(t, "Put", w.Put(thread, prio), api.OK)
			wantThreads(t, "Clear", w.Clear(), thread)
			wantWaits(t, "Clear", w)
			wantErr(t, "Put", w.Put(thread, 32-prio), api.OK)
			wantErr(t, "Change", w.Change(thread, prio), api.OK)
			wantWaits(t, "Change", w, one)
		}
	}
}

// P9.1
func TestPutPutsBehindThoseOfItsPriority(t *testing.T) {
	w := made(t)
	wantErr(t, "Put", w.Put(7, 5), api.OK)
	wantWaits(t, "one", w, who(7, 5))
	wantErr(t, "Put", w.Put(3, 4), api.OK)
	wantWaits(t, "a lesser one", w, who(7, 5), who(3, 4))
	wantErr(t, "Put", w.Put(9, 6), api.OK)
	wantWaits(t, "a greater one", w, who(9, 6), who(7, 5), who(3, 4))
	wantErr(t, "Put", w.Put(1, 5), api.OK)
	wantWaits(t, "one beside another", w, who(9, 6), who(7, 5), who(1, 5), who(3, 4))
	wantErr(t, "Put", w.Put(15, 6), api.OK)
	wantErr(t, "Put", w.Put(0, 4), api.OK)
	wantWaits(t, "more", w, who(9, 6), who(15, 6), who(7, 5), who(1, 5), who(3, 4), who(0, 4))
}

// P9.1, P9.2: all the threads that there can be, all of one priority.
func TestManyOfOnePriority(t *testing.T) {
	for _, prio := range []int{1, 16, 31} {
		for _, rising := range []bool{true, false} {
			all := alike(prio)
			if !rising {
				slices.Reverse(all)
			}
			w := made(t)
			for i, x := range all {
				wantErr(t, "Put", w.Put(x.Thread, x.Prio), api.OK)
				wantWaits(t, "Put", w, all[:i+1]...)
			}
			for i, x := range all {
				wantOne(t, "Take", w.Take, x.Thread)
				wantWaits(t, "Take", w, all[i+1:]...)
			}
		}
	}
}

// P9.1, P9.2: all the threads that there can be, each of another priority, rising and falling.
func TestAllOfDifferentPriorities(t *testing.T) {
	up, down := crowd(func(thread int) int { return 1 + 2*thread }), crowd(func(thread int) int { return 31 - 2*thread })
	wantWaits(t, "falling", made(t, down...), down...)
	w := made(t, up...)
	slices.Reverse(up)
	wantWaits(t, "rising", w, up...)
	wantThreads(t, "Clear", w.Clear(), threads(up)...)
	wantWaits(t, "Clear", w)
}

// P9.1: the first one, the last one, and each one between; the others keep their order.
func TestLeaveOfEachOne(t *testing.T) {
	for _, all := range [][]api.Waiter{alike(5), crowd(func(thread int) int { return 31 - thread/3 })} {
		for thread := range api.MaxThreads {
			w, left := made(t, all...), without(all, thread)
			wantErr(t, "Leave", w.Leave(thread), api.OK)
			wantWaits(t, "Leave", w, left...)
			wantErr(t, "Leave", w.Leave(thread), api.ErrNone)
			wantSame(t, "Leave", w, made(t, left...), true)
		}
	}
}

// P9.1: till nobody is left, in whatever order.
func TestAListThatBecomesEmpty(t *testing.T) {
	for _, order := range [][]int{{4, 5, 6}, {4, 6, 5}, {5, 4, 6}, {5, 6, 4}, {6, 4, 5}, {6, 5, 4}} {
		left := []api.Waiter{who(4, 7), who(5, 7), who(6, 7)}
		w := made(t, left...)
		for _, thread := range order {
			wantErr(t, "Leave", w.Leave(thread), api.OK)
			left = without(left, thread)
			wantWaits(t, "Leave", w, left...)
		}
		wantSame(t, "empty again", w, made(t), true)
		wantNobody(t, "Take", w.Take)
		wantErr(t, "Put", w.Put(5, 7), api.OK)
		wantWaits(t, "Put", w, who(5, 7))
	}
}

// P9.1: who comes again waits from then on, however it left.
func TestWhoComesAgainWaitsFromThenOn(t *testing.T) {
	want := []api.Waiter{who(2, 5), who(3, 5), who(1, 5)}
	for what, leave := range map[string]func(*waits.Waits){
		"Leave": func(w *waits.Waits) { wantErr(t, "Leave", w.Leave(1), api.OK) },
		"Take":  func(w *waits.Waits) { wantOne(t, "Take", w.Take, 1) },
	} {
		w := made(t, who(1, 5), who(2, 5), who(3, 5))
		leave(w)
		wantErr(t, "Put", w.Put(1, 5), api.OK)
		wantWaits(t, what, w, want...)
		wantSame(t, what, w, made(t, want...), true)
	}
	w := made(t, who(1, 5), who(2, 5), who(3, 5))
	wantThreads(t, "Clear", w.Clear(), 1, 2, 3)
	for _, x := range want {
		wantErr(t, "Put", w.Put(x.Thread, x.Prio), api.OK)
	}
	wantWaits(t, "Clear", w, want...)
}

// P9.1: who comes again has the priority that it comes with, not the one that it had.
func TestWhoComesAgainHasItsNewPriority(t *testing.T) {
	w := made(t, who(1, 9), who(2, 5))
	wantErr(t, "Leave", w.Leave(1), api.OK)
	wantErr(t, "Put", w.Put(1, 4), api.OK)
	wantWaits(t, "lesser", w, who(2, 5), who(1, 4))
	wantErr(t, "Leave", w.Leave(2), api.OK)
	wantErr(t, "Put", w.Put(2, 31), api.OK)
	wantWaits(t, "greater", w, who(2, 31), who(1, 4))
}

// P9.1: who changes its priority keeps how long it has waited; so does everybody else.
func TestChangeKeepsHowLongOneHasWaited(t *testing.T) {
	came := []api.Waiter{who(4, 5), who(1, 9), who(3, 5), who(0, 9), who(2, 5)}
	for _, c := range []struct {
		what         string
		thread, prio int
		want         []api.Waiter
	}{
		{"the same, alone ahead", 1, 9, []api.Waiter{who(1, 9), who(0, 9), who(4, 5), who(3, 5), who(2, 5)}},
		{"the same, between", 3, 5, []api.Waiter{who(1, 9), who(0, 9), who(4, 5), who(3, 5), who(2, 5)}},
		{"up to others, ahead of them", 4, 9, []api.Waiter{who(4, 9), who(1, 9), who(0, 9), who(3, 5), who(2, 5)}},
		{"up to others, between them", 3, 9, []api.Waiter{who(1, 9), who(3, 9), who(0, 9), who(4, 5), who(2, 5)}},
		{"up to others, behind them", 2, 9, []api.Waiter{who(1, 9), who(0, 9), who(2, 9), who(4, 5), who(3, 5)}},
		{"up, beyond all", 2, 31, []api.Waiter{who(2, 31), who(1, 9), who(0, 9), who(4, 5), who(3, 5)}},
		{"up, to nobody", 2, 6, []api.Waiter{who(1, 9), who(0, 9), who(2, 6), who(4, 5), who(3, 5)}},
		{"down to others, between them", 1, 5, []api.Waiter{who(0, 9), who(4, 5), who(1, 5), who(3, 5), who(2, 5)}},
		{"down to others, behind all but one", 0, 5, []api.Waiter{who(1, 9), who(4, 5), who(3, 5), who(0, 5), who(2, 5)}},
		{"down, below all", 1, 1, []api.Waiter{who(0, 9), who(4, 5), who(3, 5), who(2, 5), who(1, 1)}},
		{"down, to nobody", 4, 4, []api.Waiter{who(1, 9), who(0, 9), who(3, 5), who(2, 5), who(4, 4)}},
	} {
		w := made(t, came...)
		was, _ := w.Prio(c.thread)
		wantErr(t, c.what, w.Change(c.thread, c.prio), api.OK)
		wantWaits(t, c.what, w, c.want...)
		wantErr(t, c.what, w.Change(c.thread, was), api.OK)
		wantSame(t, c.what+", and back", w, made(t, came...), true)
		wantWaits(t, c.what+", and back", w, who(1, 9), who(0, 9), who(4, 5), who(3, 5), who(2, 5))
	}
}

// P9.1: each one of all goes up and down through all priorities, and back.
func TestChangeThroughAllPriorities(t *testing.T) {
	all := alike(16)
	for thread := range api.MaxThreads {
		w, others := made(t, all...), without(all, thread)
		for prio := 1; prio <= 31; prio++ {
			wantErr(t, "Change", w.Change(thread, prio), api.OK)
			one := who(thread, prio)
			want := append(slices.Clone(others), one)
			if prio == 16 {
				want = all
			} else if prio > 16 {
				want = append([]api.Waiter{one}, others...)
			}
			wantWaits(t, "Change", w, want...)
		}
		wantErr(t, "Change", w.Change(thread, 16), api.OK)
		wantSame(t, "back", w, made(t, all...), true)
	}
}

// P9.1: wrong numbers, ahead of who waits and who does not; nothing is changed.
func TestNumbersThatMayNotBe(t *testing.T) {
	w := made(t, who(1, 5), who(2, 5), who(15, 31), who(0, 1))
	was := w.Copy()
	for _, prio := range noPrios() {
		for _, thread := range append(noThreads(), 0, 1, 2, 3, 14, 15) {
			wantErr(t, "Put", w.Put(thread, prio), api.ErrArg)
			wantErr(t, "Change", w.Change(thread, prio), api.ErrArg)
		}
	}
	for _, thread := range noThreads() {
		for _, prio := range []int{1, 5, 6, 31} {
			wantErr(t, "Put", w.Put(thread, prio), api.ErrArg)
			wantErr(t, "Change", w.Change(thread, prio), api.ErrArg)
		}
		wantErr(t, "Leave", w.Leave(thread), api.ErrArg)
		wantPrio(t, w, thread, 0)
	}
	wantSame(t, "refused", w, was, true)
	wantWaits(t, "refused", w, who(15, 31), who(1, 5), who(2, 5), who(0, 1))
}

// P9.1: wrong numbers, where nobody waits, and where all do.
func TestNumbersThatMayNotBeInAnEmptyAndAFullList(t *testing.T) {
	for _, all := range [][]api.Waiter{nil, alike(5)} {
		w := made(t, all...)
		for _, thread := range noThreads() {
			wantErr(t, "Put", w.Put(thread, 5), api.ErrArg)
			wantErr(t, "Change", w.Change(thread, 5), api.ErrArg)
			wantErr(t, "Leave", w.Leave(thread), api.ErrArg)
		}
		for _, prio := range noPrios() {
			wantErr(t, "Put", w.Put(3, prio), api.ErrArg)
			wantErr(t, "Change", w.Change(3, prio), api.ErrArg)
		}
		wantWaits(t, "refused", w, all...)
	}
}

// P9.1: one that waits already, with its own priority and with others; it keeps its place.
func TestPutOfOneThatWaits(t *testing.T) {
	w := made(t, who(0, 5), who(1, 5), who(2, 5), who(15, 8))
	was := w.Copy()
	for _, thread := range []int{0, 1, 2, 15} {
		for prio := 1; prio <= api.MaxPriority; prio++ {
			wantErr(t, "Put", w.Put(thread, prio), api.ErrState)
		}
	}
	wantSame(t, "refused", w, was, true)
	wantWaits(t, "refused", w, who(15, 8), who(0, 5), who(1, 5), who(2, 5))
	full := made(t, alike(3)...)
	for thread := range api.MaxThreads {
		wantErr(t, "Put", full.Put(thread, 3), api.ErrState)
	}
	wantWaits(t, "refused", full, alike(3)...)
}

// P9.1: one that never waited, and those that do no more.
func TestChangeAndLeaveOfOneThatDoesNotWait(t *testing.T) {
	empty := made(t)
	for thread := range api.MaxThreads {
		wantErr(t, "Change", empty.Change(thread, 5), api.ErrNone)
		wantErr(t, "Leave", empty.Leave(thread), api.ErrNone)
	}
	wantWaits(t, "refused", empty)
	w := made(t, who(0, 5), who(1, 5), who(15, 8))
	wantErr(t, "Leave", w.Leave(0), api.OK)
	wantOne(t, "Take", w.Take, 15)
	was := w.Copy()
	for _, thread := range []int{0, 2, 3, 14, 15} {
		for prio := 1; prio <= api.MaxPriority; prio++ {
			wantErr(t, "Change", w.Change(thread, prio), api.ErrNone)
		}
		wantErr(t, "Leave", w.Leave(thread), api.ErrNone)
	}
	wantSame(t, "refused", w, was, true)
	wantWaits(t, "refused", w, who(1, 5))
	wantThreads(t, "Clear", w.Clear(), 1)
	wantErr(t, "Change", w.Change(1, 5), api.ErrNone)
	wantErr(t, "Leave", w.Leave(1), api.ErrNone)
}

// P9.1
func TestListsAreApart(t *testing.T) {
	a, b := made(t), made(t)
	wantErr(t, "Put", a.Put(1, 5), api.OK)
	wantWaits(t, "another", b)
	wantErr(t, "Put", b.Put(1, 6), api.OK)
	wantErr(t, "Leave", a.Leave(1), api.OK)
	wantWaits(t, "another", b, who(1, 6))
}

// P9.2: whichever two priorities there are, the one that came first of the greater one.
func TestFirstIsOfTheGreatestPriority(t *testing.T) {
	for low := 1; low <= api.MaxPriority; low++ {
		for high := low + 1; high <= api.MaxPriority; high++ {
			w := made(t, who(3, low), who(6, high), who(4, low), who(5, high))
			wantOne(t, "First", w.First, 6)
			wantOne(t, "Take", w.Take, 6)
			wantOne(t, "Take", w.Take, 5)
			wantOne(t, "Take", w.Take, 3)
			wantOne(t, "Take", w.Take, 4)
			wantNobody(t, "Take", w.Take)
		}
	}
}

// P9.2: First lets all wait on.
func TestFirstLeavesAllAsItIs(t *testing.T) {
	w := made(t, who(0, 2), who(1, 4), who(2, 4))
	was := w.Copy()
	for range 5 {
		wantOne(t, "First", w.First, 1)
	}
	wantSame(t, "First", w, was, true)
}

// P9.2: thread 0 is somebody, and nobody is told as 0, too.
func TestThreadNoughtIsSomebody(t *testing.T) {
	w := made(t, who(0, 1))
	wantOne(t, "First", w.First, 0)
	wantOne(t, "Take", w.Take, 0)
	wantNobody(t, "First", w.First)
	wantNobody(t, "Take", w.Take)
}

// P9.2
func TestTakeIsFirstThatWaitsNoMore(t *testing.T) {
	w := made(t, who(1, 5), who(2, 9), who(3, 5), who(4, 9))
	for _, left := range [][]api.Waiter{
		{who(4, 9), who(1, 5), who(3, 5)},
		{who(1, 5), who(3, 5)},
		{who(3, 5)},
		{},
	} {
		first, _ := w.First()
		wantOne(t, "Take", w.Take, first)
		wantWaits(t, "Take", w, left...)
	}
	wantNobody(t, "Take", w.Take)
	wantWaits(t, "Take of nobody", w)
}

// P9.2
func TestClear(t *testing.T) {
	w := made(t, who(1, 5), who(2, 9), who(3, 5), who(0, 1), who(15, 31))
	wantThreads(t, "Clear", w.Clear(), 15, 2, 1, 3, 0)
	wantWaits(t, "cleared", w)
	wantSame(t, "cleared", w, made(t), true)
	wantThreads(t, "Clear", w.Clear())
	wantNobody(t, "Take", w.Take)
	wantErr(t, "Put", w.Put(3, 2), api.OK)
	wantErr(t, "Put", w.Put(1, 2), api.OK)
	wantWaits(t, "come again", w, who(3, 2), who(1, 2))
	wantThreads(t, "Clear of all", made(t, alike(7)...).Clear(), threads(alike(7))...)
}

// P9.2, P9.3: what is done with an answer is not done with the list, nor the other way round.
func TestWhatIsAnsweredIsTheCallers(t *testing.T) {
	all := []api.Waiter{who(3, 5), who(1, 5), who(2, 5)}
	for what, tell := range map[string]func(*waits.Waits) []int{
		"List":  (*waits.Waits).List,
		"Clear": func(w *waits.Waits) []int { return w.Copy().Clear() },
	} {
		w := made(t, all...)
		one, other := tell(w), tell(w)
		for i := range one {
			one[i] = 9
		}
		one = append(one[:1], 7, 7, 7, 7)
		wantThreads(t, what, other, 3, 1, 2)
		wantWaits(t, what, w, all...)
		wantErr(t, "Leave", w.Leave(3), api.OK)
		wantErr(t, "Put", w.Put(8, 31), api.OK)
		wantThreads(t, what+" when the list goes on", other, 3, 1, 2)
		wantThreads(t, what+", changed", one, 9, 7, 7, 7, 7)
	}
	w := made(t, all...)
	cleared := w.Clear()
	cleared[0] = 9
	wantWaits(t, "Clear", w)
	for _, thread := range []int{6, 7, 8} {
		wantErr(t, "Put", w.Put(thread, 5), api.OK)
	}
	wantThreads(t, "Clear when others come", cleared, 9, 1, 2)
	cleared[1] = 9
	wantWaits(t, "others", w, who(6, 5), who(7, 5), who(8, 5))
}

// P9.3: looks change nothing.
func TestLooksLeaveAllAsItIs(t *testing.T) {
	all := []api.Waiter{who(1, 5), who(2, 9), who(3, 5)}
	w := made(t, all...)
	for range 3 {
		wantWaits(t, "looked at", w, who(2, 9), who(1, 5), who(3, 5))
	}
	for _, thread := range append(noThreads(), 0, 4, 15) {
		wantPrio(t, w, thread, 0)
	}
	wantSame(t, "looked at", w, made(t, all...), true)
}

// P9.3: it may be left behind each one, and gone through again.
func TestAllIsLeftAndGoneThroughAgain(t *testing.T) {
	w := made(t, who(1, 5), who(2, 5), who(3, 9), who(0, 1), who(15, 31), who(7, 31))
	want := []api.Waiter{who(15, 31), who(7, 31), who(3, 9), who(1, 5), who(2, 5), who(0, 1)}
	all := w.All()
	for most := 1; most <= len(want); most++ {
		var got []api.Waiter
		for x := range all {
			got = append(got, x)
			if len(got) == most {
				break
			}
		}
		if !slices.Equal(got, want[:most]) {
			t.Errorf("All left behind %d goes over %v", most, got)
		}
	}
	if got := slices.Collect(all); !slices.Equal(got, want) {
		t.Errorf("All gone through again goes over %v", got)
	}
	wantWaits(t, "All", w, want...)
}

// P9.3: one that was left is asked for no more.
func TestAllEndsWhenItIsLeft(t *testing.T) {
	w := made(t, who(1, 5), who(2, 5), who(3, 9), who(0, 1))
	for most := 1; most <= 4; most++ {
		asked := 0
		w.All()(func(api.Waiter) bool {
			asked++
			return asked < most
		})
		if asked != most {
			t.Errorf("All told %d, want %d", asked, most)
		}
	}
}

// P9.3: two goings over one list at once.
func TestAllWithinAll(t *testing.T) {
	w := made(t, who(1, 5), who(2, 5), who(3, 9))
	all := w.All()
	n := 0
	for range all {
		if got := slices.Collect(all); !slices.Equal(got, []api.Waiter{who(3, 9), who(1, 5), who(2, 5)}) {
			t.Errorf("within: %v", got)
		}
		n++
	}
	if n != 3 {
		t.Errorf("%d around, want 3", n)
	}
}

// P9.3: who comes, leaves and changes by the way is not seen by it, but by the next one.
func TestAllGoesOverThoseThatWaitWhenItBegins(t *testing.T) {
	w := made(t, who(1, 5), who(2, 5), who(3, 5), who(4, 2))
	all := w.All()
	var got []api.Waiter
	for x := range all {
		if len(got) == 0 {
			wantErr(t, "Put", w.Put(9, 9), api.OK)
			wantErr(t, "Put", w.Put(6, 5), api.OK)
			wantErr(t, "Leave", w.Leave(2), api.OK)
			wantErr(t, "Change", w.Change(3, 1), api.OK)
			wantErr(t, "Change", w.Change(4, 31), api.OK)
		}
		got = append(got, x)
	}
	if want := []api.Waiter{who(1, 5), who(2, 5), who(3, 5), who(4, 2)}; !slices.Equal(got, want) {
		t.Errorf("All goes over %v, want %v", got, want)
	}
	got = nil
	for x := range w.All() {
		if len(got) == 0 {
			wantThreads(t, "Clear", w.Clear(), 4, 9, 1, 6, 3)
		}
		got = append(got, x)
	}
	if want := []api.Waiter{who(4, 31), who(9, 9), who(1, 5), who(6, 5), who(3, 1)}; !slices.Equal(got, want) {
		t.Errorf("All goes over %v, want %v", got, want)
	}
	wantWaits(t, "cleared", w)
}

// P9.4
func TestACopyGoesOnApart(t *testing.T) {
	w := made(t, who(1, 5), who(2, 5), who(3, 9))
	c := w.Copy()
	if c == nil || c == w {
		t.Fatal("Copy is no other list")
	}
	wantSame(t, "copied", c, w, true)
	wantWaits(t, "the copy", c, who(3, 9), who(1, 5), who(2, 5))
	wantOne(t, "Take", c.Take, 3)
	wantErr(t, "Change", c.Change(2, 6), api.OK)
	wantErr(t, "Put", c.Put(0, 31), api.OK)
	wantWaits(t, "the first one", w, who(3, 9), who(1, 5), who(2, 5))
	wantErr(t, "Leave", w.Leave(1), api.OK)
	wantErr(t, "Put", w.Put(8, 9), api.OK)
	wantErr(t, "Change", w.Change(3, 1), api.OK)
	wantWaits(t, "the copy", c, who(0, 31), who(2, 6), who(1, 5))
	wantWaits(t, "the first one", w, who(8, 9), who(2, 5), who(3, 1))
	wantSame(t, "gone on apart", c, w, false)
	wantThreads(t, "Clear", w.Clear(), 8, 2, 3)
	wantWaits(t, "the copy", c, who(0, 31), who(2, 6), who(1, 5))
}

// P9.4: a copy of a copy, of a new one, of a full one, and of one that was emptied.
func TestACopyIsTheSame(t *testing.T) {
	emptied := made(t, alike(9)...)
	emptied.Clear()
	for _, w := range []*waits.Waits{made(t), made(t, alike(1)...), made(t, alike(31)...), made(t, who(3, 3)), emptied} {
		c := w.Copy().Copy()
		if c == nil {
			t.Fatal("a copy is nil")
		}
		wantSame(t, "copied", c, w, true)
		wantWaits(t, "the copy", c, gone(w)...)
		for _, x := range []*waits.Waits{w, c} {
			x.Leave(3)
			wantErr(t, "Put", x.Put(3, 2), api.OK)
		}
		wantSame(t, "gone on alike", c, w, true)
	}
}

// P9.4: a copy knows who has waited longest, where the order does not yet tell it.
func TestACopyKnowsWhoHasWaitedLongest(t *testing.T) {
	c := made(t, who(7, 2), who(1, 5), who(4, 3)).Copy()
	for _, thread := range []int{1, 4, 7} {
		wantErr(t, "Change", c.Change(thread, 9), api.OK)
	}
	wantWaits(t, "the copy", c, who(7, 9), who(1, 9), who(4, 9))
}

// P9.4
func TestSameTellsOneListFromAnother(t *testing.T) {
	a := made(t, who(1, 5), who(2, 5), who(3, 5))
	for _, order := range [][]int{{1, 3, 2}, {2, 1, 3}, {2, 3, 1}, {3, 1, 2}, {3, 2, 1}} {
		b := made(t)
		for _, thread := range order {
			wantErr(t, "Put", b.Put(thread, 5), api.OK)
		}
		wantSame(t, "another order", a, b, false)
	}
	wantSame(t, "another priority", made(t, who(1, 5)), made(t, who(1, 6)), false)
	wantSame(t, "another thread", made(t, who(1, 5)), made(t, who(2, 5)), false)
	wantSame(t, "another last thread", a, made(t, who(1, 5), who(2, 5), who(4, 5)), false)
	wantSame(t, "another last priority", a, made(t, who(1, 5), who(2, 5), who(3, 4)), false)
	wantSame(t, "one more", a, made(t, who(1, 5), who(2, 5)), false)
	wantSame(t, "one ahead", a, made(t, who(2, 5), who(3, 5)), false)
	wantSame(t, "priorities the other way", made(t, who(1, 5), who(2, 6)), made(t, who(1, 6), who(2, 5)), false)
	wantSame(t, "one and none", made(t, who(0, 1)), made(t), false)
	wantSame(t, "none", made(t), made(t), true)
	wantSame(t, "that one", a, made(t, who(1, 5), who(2, 5), who(3, 5)), true)
	wantSame(t, "itself", a, a, true)
}

// P9.4: of lists whose order is one, those that came in another order differ.
func TestSameTellsWhoCameFirstOfDifferentPriorities(t *testing.T) {
	a, b := made(t, who(1, 5), who(2, 9)), made(t, who(2, 9), who(1, 5))
	wantThreads(t, "List", a.List(), b.List()...)
	wantSame(t, "another order of coming", a, b, false)
	for _, w := range []*waits.Waits{a, b} {
		wantErr(t, "Change", w.Change(1, 9), api.OK)
	}
	wantSame(t, "another order of coming", a, b, false)
	wantThreads(t, "List", a.List(), 1, 2)
	wantThreads(t, "List", b.List(), 2, 1)
	for _, w := range []*waits.Waits{a, b} {
		wantErr(t, "Leave", w.Leave(1), api.OK)
	}
	wantSame(t, "who is left came first in both", a, b, true)
}

// P9.4: who has left, and what priorities were by the way, are nothing to Same.
func TestSameHangsOnNoWayThere(t *testing.T) {
	a := made(t, who(1, 5), who(2, 5), who(3, 9))
	b := made(t, who(2, 9), who(4, 31), who(1, 7))
	wantOne(t, "Take", b.Take, 4)
	wantErr(t, "Leave", b.Leave(2), api.OK)
	wantErr(t, "Put", b.Put(2, 1), api.OK)
	wantErr(t, "Put", b.Put(8, 5), api.OK)
	wantErr(t, "Put", b.Put(3, 9), api.OK)
	wantErr(t, "Leave", b.Leave(8), api.OK)
	wantErr(t, "Change", b.Change(1, 5), api.OK)
	wantErr(t, "Change", b.Change(2, 5), api.OK)
	wantSame(t, "another way there", a, b, true)
	a.Clear()
	wantSame(t, "none any more", a, made(t), true)
}

// P9.4
func TestSameOfNoLists(t *testing.T) {
	for _, a := range noLists() {
		for _, b := range noLists() {
			wantSame(t, "none", a, b, true)
		}
		for _, w := range []*waits.Waits{made(t), made(t, alike(1)...), made(t, who(0, 31))} {
			wantSame(t, "none and one", a, w, false)
		}
	}
}

// P9.1 to P9.4: ErrNil ahead of all, and else nothing.
func TestNoLists(t *testing.T) {
	for _, w := range noLists() {
		for _, thread := range append(noThreads(), 0, 1, 15) {
			for _, prio := range append(noPrios(), 1, 5, 31) {
				wantErr(t, "Put", w.Put(thread, prio), api.ErrNil)
				wantErr(t, "Change", w.Change(thread, prio), api.ErrNil)
			}
			wantErr(t, "Leave", w.Leave(thread), api.ErrNil)
			wantPrio(t, w, thread, 0)
		}
		wantNobody(t, "Take", w.Take)
		wantThreads(t, "Clear", w.Clear())
		wantWaits(t, "none", w)
		if w.All() == nil {
			t.Error("one can't range over none")
		}
		if c := w.Copy(); c != nil {
			t.Errorf("Copy of none is %v", c)
		}
		wantSame(t, "refused", w, nil, true)
	}
}

// The chapter's examples.
func TestExamples(t *testing.T) {
	w := made(t)
	wantErr(t, "Put(1, 5)", w.Put(1, 5), api.OK)
	wantErr(t, "Put(2, 9)", w.Put(2, 9), api.OK)
	wantErr(t, "Put(3, 5)", w.Put(3, 5), api.OK)
	wantErr(t, "Put(1, 7)", w.Put(1, 7), api.ErrState)
	wantErr(t, "Put(16, 1)", w.Put(16, 1), api.ErrArg)
	wantErr(t, "Put(4, 32)", w.Put(4, 32), api.ErrArg)
	wantThreads(t, "List", w.List(), 2, 1, 3)
	wantErr(t, "Change(3, 9)", w.Change(3, 9), api.OK)
	wantThreads(t, "List", w.List(), 2, 3, 1)
	wantErr(t, "Change(1, 9)", w.Change(1, 9), api.OK)
	wantThreads(t, "List", w.List(), 1, 2, 3)
	wantErr(t, "Change(0, 1)", w.Change(0, 1), api.ErrNone)
	wantOne(t, "Take", w.Take, 1)
	wantErr(t, "Leave(2)", w.Leave(2), api.OK)
	wantOne(t, "First", w.First, 3)
	if w.Len() != 1 {
		t.Errorf("Len is %d", w.Len())
	}
	wantThreads(t, "Clear", w.Clear(), 3)
}
