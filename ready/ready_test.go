package ready_test

import (
	"math"
	"slices"
	"testing"

	"metronome/api"
	"metronome/ready"
)

// standing is a thread in the sequence of a priority.
type standing struct {
	prio, thread int
}

// noLists are a nil and a zero one.
func noLists() []*ready.Ready {
	return []*ready.Ready{nil, {}}
}

// noPrios are numbers that are no priorities.
func noPrios() []int {
	return []int{0, -1, -2, -5, -31, -32, 32, 33, 47, 48, 63, 64, 69, 1 << 32, 1<<32 + 5, -1 << 32, math.MinInt, math.MinInt + 5, math.MaxInt}
}

// noThreads are numbers that are no threads.
func noThreads() []int {
	return []int{-1, -2, -16, -27, -31, -32, 16, 17, 31, 32, 48, 1 << 32, 1<<32 + 1, -1 << 32, math.MinInt, math.MinInt + 1, math.MaxInt}
}

func wantErr(t *testing.T, what string, got, want api.Errno) {
	t.Helper()
	if got != want {
		t.Errorf("%s: %v, want %v", what, got, want)
	}
}

// made is a ready list in which those stand, put there one behind the other.
func made(t *testing.T, all ...standing) *ready.Ready {
	t.Helper()
	r := ready.New()
	if r == nil {
		t.Fatal("New is nil")
	}
	for _, s := range all {
		wantErr(t, "Tail", r.Tail(s.prio, s.thread), api.OK)
	}
	return r
}

// crowd is all threads in one sequence, rising.
func crowd(t *testing.T, prio int) *ready.Ready {
	t.Helper()
	r := made(t)
	for thread := range api.MaxThreads {
		wantErr(t, "Tail", r.Tail(prio, thread), api.OK)
	}
	return r
}

func rising() []int {
	var all []int
	for thread := range api.MaxThreads {
		all = append(all, thread)
	}
	return all
}

func wantFirst(t *testing.T, r *ready.Ready, want int) {
	t.Helper()
	if got, ok := r.First(); got != want || !ok {
		t.Errorf("First is %d, %v, want %d", got, ok, want)
	}
}

func wantNoFirst(t *testing.T, r *ready.Ready) {
	t.Helper()
	if got, ok := r.First(); got != 0 || ok {
		t.Errorf("First is %d, %v, want 0, false", got, ok)
	}
}

func wantPrio(t *testing.T, r *ready.Ready, thread, want int) {
	t.Helper()
	if got, ok := r.Prio(thread); got != want || !ok {
		t.Errorf("Prio(%d) is %d, %v, want %d", thread, got, ok, want)
	}
}

func wantNoPrio(t *testing.T, r *ready.Ready, thread int) {
	t.Helper()
	if got, ok := r.Prio(thread); got != 0 || ok {
		t.Errorf("Prio(%d) is %d, %v, want 0, false", thread, got, ok)
	}
}

func wantList(t *testing.T, r *ready.Ready, prio int, want ...int) {
	t.Helper()
	if got := r.List(prio); !slices.Equal(got, want) {
		t.Errorf("List(%d) is %v, want %v", prio, got, want)
	}
}

func wantSame(t *testing.T, what string, a, b *ready.Ready, want bool) {
	t.Helper()
	if ready.Same(a, b) != want || ready.Same(b, a) != want {
		t.Errorf("%s: Same is %v, %v, want %v", what, ready.Same(a, b), ready.Same(b, a), want)
	}
}

// gone are those that All goes over.
func gone(r *ready.Ready) []standing {
	var all []standing
	for prio, thread := range r.All() {
		all = append(all, standing{prio, thread})
	}
	return all
}

// wantReady asks of all looks at a ready list that they say just that; the first one first.
func wantReady(t *testing.T, what string, r *ready.Ready, want ...standing) {
	t.Helper()
	if got := gone(r); !slices.Equal(got, want) {
		t.Errorf("%s: All goes over %v, want %v", what, got, want)
	}
	if r.Len() != len(want) {
		t.Errorf("%s: Len is %d, want %d", what, r.Len(), len(want))
	}
	lists := map[int][]int{}
	prios := map[int]int{}
	for _, s := range want {
		lists[s.prio] = append(lists[s.prio], s.thread)
		prios[s.thread] = s.prio
	}
	for prio := -2; prio <= api.MaxPriority+2; prio++ {
		wantList(t, r, prio, lists[prio]...)
	}
	for thread := -2; thread < api.MaxThreads+2; thread++ {
		if prios[thread] == 0 {
			wantNoPrio(t, r, thread)
		} else {
			wantPrio(t, r, thread, prios[thread])
		}
	}
	if len(want) == 0 {
		wantNoFirst(t, r)
	} else {
		wantFirst(t, r, want[0].thread)
	}
}

// wantCheap asks that the call adds no more than 8 steps.
func wantCheap(t *testing.T, what string, r *ready.Ready, call func()) {
	t.Helper()
	was := r.Steps()
	call()
	if n := r.Steps() - was; n < 0 || n > 8 {
		t.Errorf("%s adds %d steps", what, n)
	}
}

// P5.1, P5.2
func TestInANewOneNobodyStands(t *testing.T) {
	wantReady(t, "new", made(t))
	if r := made(t); r.Steps() != 0 {
		t.Errorf("a new one has %d steps", r.Steps())
	}
}

// P5.1: each thread, in each priority, alone.
func TestEachThreadMayStandInEachPriority(t *testing.T) {
	for prio := 1; prio <= 31; prio++ {
		for thread := 0; thread <= 15; thread++ {
			r := made(t)
			wantErr(t, "Tail", r.Tail(prio, thread), api.OK)
			wantReady(t, "Tail", r, standing{prio, thread})
			wantErr(t, "Remove", r.Remove(thread), api.OK)
			wantReady(t, "Remove", r)
			wantErr(t, "Head", r.Head(prio, thread), api.OK)
			wantReady(t, "Head", r, standing{prio, thread})
			wantErr(t, "Remove", r.Remove(thread), api.OK)
			wantReady(t, "Remove", r)
		}
	}
}

// P5.1
func TestTailPutsBehindAndHeadInFront(t *testing.T) {
	r := made(t, standing{7, 4})
	wantErr(t, "Tail", r.Tail(7, 0), api.OK)
	wantList(t, r, 7, 4, 0)
	wantErr(t, "Head", r.Head(7, 15), api.OK)
	wantList(t, r, 7, 15, 4, 0)
	wantErr(t, "Tail", r.Tail(7, 9), api.OK)
	wantList(t, r, 7, 15, 4, 0, 9)
	wantErr(t, "Head", r.Head(7, 1), api.OK)
	wantReady(t, "Head", r, standing{7, 1}, standing{7, 15}, standing{7, 4}, standing{7, 0}, standing{7, 9})
}

// P5.1: all threads in one sequence, from either side.
func TestAllThreadsInOneSequence(t *testing.T) {
	for _, prio := range []int{1, 16, api.MaxPriority} {
		tail, head := made(t), made(t)
		for thread := range api.MaxThreads {
			wantErr(t, "Tail", tail.Tail(prio, thread), api.OK)
			wantFirst(t, tail, 0)
			wantErr(t, "Head", head.Head(prio, thread), api.OK)
			wantFirst(t, head, thread)
		}
		want := rising()
		wantList(t, tail, prio, want...)
		slices.Reverse(want)
		wantList(t, head, prio, want...)
		if tail.Len() != 16 || head.Len() != 16 {
			t.Errorf("Len is %d, %d", tail.Len(), head.Len())
		}
	}
}

// P5.1: the head, the tail, and each one in the middle; the others keep their order.
func TestRemoveOfEachOneInASequence(t *testing.T) {
	for thread := range api.MaxThreads {
		r := crowd(t, 3)
		wantErr(t, "Remove", r.Remove(thread), api.OK)
		left := slices.Delete(rising(), thread, thread+1)
		wantList(t, r, 3, left...)
		wantNoPrio(t, r, thread)
		wantFirst(t, r, left[0])
		wantErr(t, "Remove", r.Remove(thread), api.ErrNone)
		wantErr(t, "Tail", r.Tail(3, thread), api.OK)
		wantList(t, r, 3, append(left, thread)...)
		wantErr(t, "Remove", r.Remove(thread), api.OK)
		wantErr(t, "Head", r.Head(3, thread), api.OK)
		wantList(t, r, 3, append([]int{thread}, left...)...)
	}
}

// P5.1: from the head on, from the tail on, and from the middle, till nobody is left.
func TestASequenceThatBecomesEmpty(t *testing.T) {
	for _, prio := range []int{1, 2, 30, api.MaxPriority} {
		for _, order := range [][]int{{4, 5, 6}, {4, 6, 5}, {5, 4, 6}, {5, 6, 4}, {6, 4, 5}, {6, 5, 4}} {
			r := made(t, standing{prio, 4}, standing{prio, 5}, standing{prio, 6})
			left := []standing{{prio, 4}, {prio, 5}, {prio, 6}}
			for _, thread := range order {
				wantErr(t, "Remove", r.Remove(thread), api.OK)
				left = slices.DeleteFunc(left, func(s standing) bool { return s.thread == thread })
				wantReady(t, "Remove", r, left...)
			}
			wantSame(t, "empty again", r, made(t), true)
			wantErr(t, "Tail", r.Tail(prio, 5), api.OK)
			wantReady(t, "Tail", r, standing{prio, 5})
		}
	}
}

// P5.1: who is taken out of one sequence may be put into another.
func TestOneGoesFromSequenceToSequence(t *testing.T) {
	r := made(t, standing{5, 0}, standing{5, 1}, standing{5, 2}, standing{9, 3})
	wantErr(t, "Remove", r.Remove(1), api.OK)
	wantErr(t, "Head", r.Head(9, 1), api.OK)
	wantReady(t, "to 9", r, standing{9, 1}, standing{9, 3}, standing{5, 0}, standing{5, 2})
	wantErr(t, "Remove", r.Remove(3), api.OK)
	wantErr(t, "Tail", r.Tail(5, 3), api.OK)
	wantReady(t, "to 5", r, standing{9, 1}, standing{5, 0}, standing{5, 2}, standing{5, 3})
	wantErr(t, "Remove", r.Remove(1), api.OK)
	wantErr(t, "Head", r.Head(1, 1), api.OK)
	wantReady(t, "to 1", r, standing{5, 0}, standing{5, 2}, standing{5, 3}, standing{1, 1})
}

// P5.1: wrong numbers, ahead of who stands in it, and of who does not; nothing is changed.
func TestNumbersThatMayNotBe(t *testing.T) {
	r := made(t, standing{5, 1}, standing{5, 2}, standing{31, 15}, standing{1, 0})
	was, steps := r.Copy(), r.Steps()
	for _, prio := range noPrios() {
		for _, thread := range append(noThreads(), 0, 1, 2, 3, 14, 15) {
			wantErr(t, "Tail", r.Tail(prio, thread), api.ErrArg)
			wantErr(t, "Head", r.Head(prio, thread), api.ErrArg)
		}
		wantList(t, r, prio)
	}
	for _, thread := range noThreads() {
		for _, prio := range []int{1, 5, 6, 31} {
			wantErr(t, "Tail", r.Tail(prio, thread), api.ErrArg)
			wantErr(t, "Head", r.Head(prio, thread), api.ErrArg)
		}
		wantErr(t, "Remove", r.Remove(thread), api.ErrArg)
		wantNoPrio(t, r, thread)
	}
	wantSame(t, "refused", r, was, true)
	if r.Steps() != steps {
		t.Errorf("refused calls add %d steps", r.Steps()-steps)
	}
	wantReady(t, "refused", r, standing{31, 15}, standing{5, 1}, standing{5, 2}, standing{1, 0})
}

// P5.1: one that stands in it already, in the same sequence and in another: head, middle and tail.
func TestOneThatStandsInItAlready(t *testing.T) {
	r := made(t, standing{5, 0}, standing{5, 1}, standing{5, 2}, standing{8, 15})
	was, steps := r.Copy(), r.Steps()
	for _, thread := range []int{0, 1, 2, 15} {
		for prio := 1; prio <= api.MaxPriority; prio++ {
			wantErr(t, "Tail", r.Tail(prio, thread), api.ErrState)
			wantErr(t, "Head", r.Head(prio, thread), api.ErrState)
		}
	}
	wantSame(t, "refused", r, was, true)
	if r.Steps() != steps {
		t.Errorf("refused calls add %d steps", r.Steps()-steps)
	}
	wantReady(t, "refused", r, standing{8, 15}, standing{5, 0}, standing{5, 1}, standing{5, 2})
}

// P5.1: one that never stood in it, and one that does no more.
func TestOneThatDoesNotStandInIt(t *testing.T) {
	empty := made(t)
	for thread := range api.MaxThreads {
		wantErr(t, "Remove", empty.Remove(thread), api.ErrNone)
	}
	wantReady(t, "refused", empty)
	r := made(t, standing{5, 0}, standing{5, 1}, standing{8, 15})
	wantErr(t, "Remove", r.Remove(0), api.OK)
	was, steps := r.Copy(), r.Steps()
	for _, thread := range []int{0, 2, 3, 14} {
		wantErr(t, "Remove", r.Remove(thread), api.ErrNone)
	}
	wantSame(t, "refused", r, was, true)
	if r.Steps() != steps {
		t.Errorf("refused calls add %d steps", r.Steps()-steps)
	}
	wantReady(t, "refused", r, standing{8, 15}, standing{5, 1})
}

// P5.1
func TestListsAreApart(t *testing.T) {
	a, b := made(t), made(t)
	wantErr(t, "Tail", a.Tail(5, 1), api.OK)
	wantReady(t, "another", b)
	wantErr(t, "Head", b.Head(6, 1), api.OK)
	wantErr(t, "Remove", a.Remove(1), api.OK)
	wantReady(t, "another", b, standing{6, 1})
}

// P5.2: whichever two priorities there are, the head of the greater one.
func TestFirstIsOfTheGreatestPriority(t *testing.T) {
	for low := 1; low <= api.MaxPriority; low++ {
		for high := low + 1; high <= api.MaxPriority; high++ {
			r := made(t, standing{low, 3}, standing{low, 4}, standing{high, 5}, standing{high, 6})
			wantFirst(t, r, 5)
			wantErr(t, "Head", r.Head(high, 7), api.OK)
			wantFirst(t, r, 7)
			wantErr(t, "Head", r.Head(low, 8), api.OK)
			wantFirst(t, r, 7)
			for _, thread := range []int{7, 5, 6} {
				wantErr(t, "Remove", r.Remove(thread), api.OK)
			}
			wantFirst(t, r, 8)
			wantErr(t, "Remove", r.Remove(8), api.OK)
			wantFirst(t, r, 3)
		}
	}
}

// P5.2: First takes nobody out.
func TestFirstLeavesAllAsItIs(t *testing.T) {
	r := made(t, standing{2, 0}, standing{4, 1}, standing{4, 2})
	was := r.Copy()
	for range 5 {
		wantFirst(t, r, 1)
	}
	wantSame(t, "First", r, was, true)
}

// P5.2: one in each of several; the greatest and the least one among them.
func TestOneInEachOfSeveral(t *testing.T) {
	r := made(t)
	var want []standing
	for thread := range api.MaxThreads {
		prio := 1 + 2*thread
		wantErr(t, "Tail", r.Tail(prio, thread), api.OK)
		want = append([]standing{{prio, thread}}, want...)
		wantReady(t, "Tail", r, want...)
	}
	for len(want) > 0 {
		wantErr(t, "Remove", r.Remove(want[0].thread), api.OK)
		want = want[1:]
		wantReady(t, "Remove", r, want...)
	}
}

// P5.2: what is done with an answer is not done with the list.
func TestWhatListAnsweredIsTheCallers(t *testing.T) {
	r := made(t, standing{5, 3}, standing{5, 1}, standing{5, 2})
	one, other := r.List(5), r.List(5)
	for i := range one {
		one[i] = 9
	}
	one = append(one[:1], 7, 7, 7, 7)
	if !slices.Equal(other, []int{3, 1, 2}) {
		t.Errorf("another answer is %v", other)
	}
	wantReady(t, "changed", r, standing{5, 3}, standing{5, 1}, standing{5, 2})
	wantErr(t, "Remove", r.Remove(1), api.OK)
	if !slices.Equal(other, []int{3, 1, 2}) {
		t.Errorf("an answer is %v when the list goes on", other)
	}
	if len(one) != 5 {
		t.Errorf("an answer has %d", len(one))
	}
}

// P5.2: it may be left behind each one, and gone through again.
func TestAllIsLeftAndGoneThroughAgain(t *testing.T) {
	r := made(t, standing{5, 1}, standing{5, 2}, standing{9, 3}, standing{1, 0}, standing{31, 15}, standing{31, 7})
	want := []standing{{31, 15}, {31, 7}, {9, 3}, {5, 1}, {5, 2}, {1, 0}}
	all := r.All()
	for most := 1; most <= len(want); most++ {
		var got []standing
		for prio, thread := range all {
			got = append(got, standing{prio, thread})
			if len(got) == most {
				break
			}
		}
		if !slices.Equal(got, want[:most]) {
			t.Errorf("All left behind %d goes over %v", most, got)
		}
	}
	wantReady(t, "All", r, want...)
}

// P5.2: one that was left is asked for no more.
func TestAllEndsWhenItIsLeft(t *testing.T) {
	r := made(t, standing{5, 1}, standing{5, 2}, standing{9, 3}, standing{1, 0})
	for most := 1; most <= 4; most++ {
		asked := 0
		r.All()(func(prio, thread int) bool {
			asked++
			return asked < most
		})
		if asked != most {
			t.Errorf("All told %d, want %d", asked, most)
		}
	}
}

// P5.2: two goings over one list at once.
func TestAllWithinAll(t *testing.T) {
	r := made(t, standing{5, 1}, standing{5, 2}, standing{9, 3})
	want := []standing{{9, 3}, {5, 1}, {5, 2}}
	all := r.All()
	n := 0
	for range all {
		i := 0
		for prio, thread := range all {
			if (standing{prio, thread}) != want[i] {
				t.Errorf("within: %d, %d", prio, thread)
			}
			i++
			n++
		}
	}
	if n != 9 {
		t.Errorf("%d within, want 9", n)
	}
}

// P5.2: what is put in and taken out by the way is not seen by it, but by the next one.
func TestAllGoesOverWhatThereIsWhenItBegins(t *testing.T) {
	r := made(t, standing{5, 1}, standing{5, 2}, standing{5, 3}, standing{2, 4})
	all := r.All()
	wantErr(t, "Tail", r.Tail(9, 9), api.OK)
	var got []standing
	for prio, thread := range all {
		if thread == 9 {
			wantErr(t, "Remove", r.Remove(9), api.OK)
			wantErr(t, "Remove", r.Remove(2), api.OK)
			wantErr(t, "Tail", r.Tail(2, 2), api.OK)
			wantErr(t, "Head", r.Head(5, 6), api.OK)
			wantErr(t, "Tail", r.Tail(5, 7), api.OK)
			wantErr(t, "Remove", r.Remove(4), api.OK)
			wantErr(t, "Tail", r.Tail(1, 8), api.OK)
		}
		got = append(got, standing{prio, thread})
	}
	if want := []standing{{9, 9}, {5, 1}, {5, 2}, {5, 3}, {2, 4}}; !slices.Equal(got, want) {
		t.Errorf("All goes over %v, want %v", got, want)
	}
	got = nil
	for prio, thread := range all {
		got = append(got, standing{prio, thread})
	}
	if want := []standing{{5, 6}, {5, 1}, {5, 3}, {5, 7}, {2, 2}, {1, 8}}; !slices.Equal(got, want) {
		t.Errorf("All gone through again goes over %v, want %v", got, want)
	}
}

// P5.3: a list of whatever length; from the head, from the tail, and from the middle.
func TestNoCallAddsMoreThanEightSteps(t *testing.T) {
	for _, prio := range []int{1, api.MaxPriority} {
		r := made(t)
		for thread := range api.MaxThreads {
			wantCheap(t, "Tail", r, func() { wantErr(t, "Tail", r.Tail(prio, thread), api.OK) })
			wantCheap(t, "First", r, func() { wantFirst(t, r, 0) })
		}
		for _, thread := range []int{7, 0, 15, 8, 1, 14} {
			wantCheap(t, "Remove", r, func() { wantErr(t, "Remove", r.Remove(thread), api.OK) })
			wantCheap(t, "Head", r, func() { wantErr(t, "Head", r.Head(prio, thread), api.OK) })
			wantCheap(t, "First", r, func() { wantFirst(t, r, thread) })
			wantCheap(t, "Remove", r, func() { wantErr(t, "Remove", r.Remove(thread), api.OK) })
			wantCheap(t, "Tail", r, func() { wantErr(t, "Tail", r.Tail(prio, thread), api.OK) })
		}
		for range api.MaxThreads {
			wantCheap(t, "First and Remove", r, func() {
				first, _ := r.First()
				wantErr(t, "Remove", r.Remove(first), api.OK)
			})
		}
		wantCheap(t, "First", r, func() { wantNoFirst(t, r) })
	}
}

// P5.3: they are counted, of those four calls alone.
func TestStepsCountWhatIsLookedAtAndChanged(t *testing.T) {
	r := crowd(t, 5)
	calls := map[string]func(){
		"First":  func() { r.First() },
		"Remove": func() { r.Remove(3) },
		"Tail":   func() { r.Tail(5, 3) },
		"Head":   func() { r.Remove(3); r.Head(5, 3) },
	}
	for _, name := range []string{"First", "Remove", "Tail", "Head"} {
		was := r.Steps()
		calls[name]()
		if r.Steps() <= was {
			t.Errorf("%s adds nothing to %d", name, was)
		}
	}
	was := r.Steps()
	for range r.All() {
	}
	r.List(5)
	r.Prio(3)
	r.Len()
	r.Copy()
	ready.Same(r, r)
	if r.Steps() != was {
		t.Errorf("looks add %d steps", r.Steps()-was)
	}
}

// P5.3: a copy has been as far, and counts on by itself.
func TestStepsOfACopy(t *testing.T) {
	r := crowd(t, 5)
	c := r.Copy()
	if c.Steps() != r.Steps() {
		t.Errorf("a copy has %d steps, want %d", c.Steps(), r.Steps())
	}
	was := r.Steps()
	c.Remove(3)
	if r.Steps() != was {
		t.Errorf("a copy's call adds %d steps", r.Steps()-was)
	}
}

// P5.4
func TestACopyGoesOnApart(t *testing.T) {
	r := made(t, standing{5, 1}, standing{5, 2}, standing{9, 3})
	c := r.Copy()
	if c == nil || c == r {
		t.Fatal("Copy is no other list")
	}
	wantSame(t, "copied", c, r, true)
	wantReady(t, "the copy", c, standing{9, 3}, standing{5, 1}, standing{5, 2})
	wantErr(t, "Remove", c.Remove(3), api.OK)
	wantErr(t, "Head", c.Head(5, 3), api.OK)
	wantErr(t, "Tail", c.Tail(31, 0), api.OK)
	wantReady(t, "the first one", r, standing{9, 3}, standing{5, 1}, standing{5, 2})
	wantErr(t, "Remove", r.Remove(1), api.OK)
	wantErr(t, "Tail", r.Tail(1, 1), api.OK)
	wantReady(t, "the copy", c, standing{31, 0}, standing{5, 3}, standing{5, 1}, standing{5, 2})
	wantReady(t, "the first one", r, standing{9, 3}, standing{5, 2}, standing{1, 1})
	wantSame(t, "gone on apart", c, r, false)
}

// P5.4: a copy of a copy, of a new one, and of a full one.
func TestACopyIsTheSame(t *testing.T) {
	for _, r := range []*ready.Ready{made(t), crowd(t, 1), crowd(t, 31), made(t, standing{3, 3})} {
		c := r.Copy().Copy()
		wantSame(t, "copied", c, r, true)
		wantReady(t, "the copy", c, gone(r)...)
		r.Remove(3)
		c.Remove(3)
		wantErr(t, "Head", r.Head(2, 3), api.OK)
		wantErr(t, "Head", c.Head(2, 3), api.OK)
		wantSame(t, "gone on alike", c, r, true)
	}
}

// P5.4
func TestSameTellsOneOrderFromAnother(t *testing.T) {
	a := made(t, standing{5, 1}, standing{5, 2}, standing{5, 3})
	for _, order := range [][]int{{1, 3, 2}, {2, 1, 3}, {2, 3, 1}, {3, 1, 2}, {3, 2, 1}} {
		b := made(t)
		for _, thread := range order {
			wantErr(t, "Tail", b.Tail(5, thread), api.OK)
		}
		wantSame(t, "another order", a, b, false)
		wantSame(t, "that order", b.Copy(), b, true)
	}
	wantSame(t, "another priority", made(t, standing{5, 1}), made(t, standing{6, 1}), false)
	wantSame(t, "another thread", made(t, standing{5, 1}), made(t, standing{5, 2}), false)
	wantSame(t, "one more", a, made(t, standing{5, 1}, standing{5, 2}), false)
	wantSame(t, "one ahead", a, made(t, standing{5, 2}, standing{5, 3}), false)
	wantSame(t, "threads the other way", made(t, standing{5, 1}, standing{6, 2}), made(t, standing{6, 1}, standing{5, 2}), false)
	wantSame(t, "one and none", made(t, standing{1, 0}), made(t), false)
	wantSame(t, "none", made(t), made(t), true)
}

// P5.4: ways there and steps are nothing to Same.
func TestSameHangsOnNoWayThere(t *testing.T) {
	a := made(t, standing{5, 1}, standing{5, 2}, standing{9, 3})
	b := made(t, standing{9, 2}, standing{5, 4}, standing{5, 1})
	wantErr(t, "Remove", b.Remove(2), api.OK)
	wantErr(t, "Remove", b.Remove(4), api.OK)
	wantErr(t, "Remove", b.Remove(1), api.OK)
	wantErr(t, "Head", b.Head(9, 3), api.OK)
	wantErr(t, "Head", b.Head(5, 2), api.OK)
	wantErr(t, "Head", b.Head(5, 1), api.OK)
	b.First()
	wantSame(t, "another way there", a, b, true)
	wantSame(t, "with itself", a, a, true)
}

// P5.4
func TestSameOfNoLists(t *testing.T) {
	for _, a := range noLists() {
		for _, b := range noLists() {
			wantSame(t, "none", a, b, true)
		}
		for _, r := range []*ready.Ready{made(t), crowd(t, 1), made(t, standing{31, 0})} {
			wantSame(t, "none and one", a, r, false)
		}
	}
}

// P5.1 to P5.4: ErrNil ahead of all, and else nothing.
func TestNoLists(t *testing.T) {
	for _, r := range noLists() {
		for _, thread := range append(noThreads(), 0, 1, 15) {
			for _, prio := range append(noPrios(), 1, 5, 31) {
				wantErr(t, "Tail", r.Tail(prio, thread), api.ErrNil)
				wantErr(t, "Head", r.Head(prio, thread), api.ErrNil)
				wantList(t, r, prio)
			}
			wantErr(t, "Remove", r.Remove(thread), api.ErrNil)
			wantNoPrio(t, r, thread)
		}
		wantReady(t, "none", r)
		if r.All() == nil || r.Steps() != 0 {
			t.Error("one can't range over none, or it has steps")
		}
		if c := r.Copy(); c != nil {
			t.Errorf("Copy of none is %v", c)
		}
	}
}

// P5.1: refused calls leave a zero list zero.
func TestAZeroListStaysZero(t *testing.T) {
	var zero ready.Ready
	wantErr(t, "Tail", zero.Tail(5, 1), api.ErrNil)
	wantErr(t, "Head", zero.Head(5, 1), api.ErrNil)
	wantErr(t, "Remove", zero.Remove(1), api.ErrNil)
	wantNoFirst(t, &zero)
	if zero != (ready.Ready{}) {
		t.Errorf("a zero list is %v", zero)
	}
}

// The chapter's examples.
func TestExamples(t *testing.T) {
	r := made(t)
	wantErr(t, "Tail(0, 1)", r.Tail(0, 1), api.ErrArg)
	wantErr(t, "Tail(32, 1)", r.Tail(32, 1), api.ErrArg)
	wantErr(t, "Tail(5, 16)", r.Tail(5, 16), api.ErrArg)
	wantErr(t, "Tail(5, 1)", r.Tail(5, 1), api.OK)
	wantErr(t, "Tail(7, 1)", r.Tail(7, 1), api.ErrState)
	wantErr(t, "Tail(5, 2)", r.Tail(5, 2), api.OK)
	wantErr(t, "Head(5, 3)", r.Head(5, 3), api.OK)
	wantList(t, r, 5, 3, 1, 2)
	wantFirst(t, r, 3)
	wantErr(t, "Tail(9, 4)", r.Tail(9, 4), api.OK)
	wantFirst(t, r, 4)
	wantErr(t, "Remove(4)", r.Remove(4), api.OK)
	wantErr(t, "Remove(4)", r.Remove(4), api.ErrNone)
	wantFirst(t, r, 3)
	wantPrio(t, r, 2, 5)
}
