package wheel_test

import (
	"math"
	"slices"
	"testing"

	"metronome/api"
	"metronome/wheel"
)

// entry is a number and its deadline.
type entry struct {
	id int
	at int64
}

// noWheels are a nil and a zero one.
func noWheels() []*wheel.Wheel {
	return []*wheel.Wheel{nil, {}}
}

// noIDs are numbers that a wheel hasn't.
func noIDs() []int {
	return []int{-1, -2, -63, -64, -65, 64, 65, 127, 128, 1 << 32, 1<<32 + 3, -1 << 32, math.MinInt, math.MinInt + 3, math.MaxInt}
}

// noTimes are times that may not be.
func noTimes() []int64 {
	return []int64{-1, -2, -5, -63, -64, -65, api.MaxTime + 1, api.MaxTime + 64, 2 * api.MaxTime, -api.MaxTime, math.MinInt64, math.MinInt64 + 5, math.MaxInt64}
}

func wantErr(t *testing.T, what string, got, want api.Errno) {
	t.Helper()
	if got != want {
		t.Errorf("%s: %v, want %v", what, got, want)
	}
}

// set sets them all, one behind the other.
func set(t *testing.T, w *wheel.Wheel, all ...entry) {
	t.Helper()
	for _, e := range all {
		wantErr(t, "Set", w.Set(e.id, e.at), api.OK)
	}
}

// made is a wheel in which those were set, one behind the other.
func made(t *testing.T, all ...entry) *wheel.Wheel {
	t.Helper()
	w := wheel.New()
	if w == nil {
		t.Fatal("New is nil")
	}
	set(t, w, all...)
	return w
}

// crowd is all numbers, rising, each at the time that is told for it.
func crowd(at func(id int) int64) []entry {
	var all []entry
	for id := range api.MaxIds {
		all = append(all, entry{id, at(id)})
	}
	return all
}

func ids(all []entry) []int {
	var list []int
	for _, e := range all {
		list = append(list, e.id)
	}
	return list
}

func wantAt(t *testing.T, w *wheel.Wheel, id int, want int64) {
	t.Helper()
	if got, ok := w.At(id); got != want || !ok {
		t.Errorf("At(%d) is %d, %v, want %d, true", id, got, ok, want)
	}
}

func wantNoAt(t *testing.T, w *wheel.Wheel, id int) {
	t.Helper()
	if got, ok := w.At(id); got != 0 || ok {
		t.Errorf("At(%d) is %d, %v, want 0, false", id, got, ok)
	}
}

func wantDue(t *testing.T, w *wheel.Wheel, now int64, want ...int) {
	t.Helper()
	if got := w.Due(now); !slices.Equal(got, want) {
		t.Errorf("Due(%d) is %v, want %v", now, got, want)
	}
}

func wantSame(t *testing.T, what string, a, b *wheel.Wheel, want bool) {
	t.Helper()
	if wheel.Same(a, b) != want || wheel.Same(b, a) != want {
		t.Errorf("%s: Same is %v, %v, want %v", what, wheel.Same(a, b), wheel.Same(b, a), want)
	}
}

// gone are those that All goes over.
func gone(w *wheel.Wheel) []entry {
	var all []entry
	for id, at := range w.All() {
		all = append(all, entry{id, at})
	}
	return all
}

// wantWheel asks of all looks at a wheel that they say just that; the first one in order first.
func wantWheel(t *testing.T, what string, w *wheel.Wheel, want ...entry) {
	t.Helper()
	if got := gone(w); !slices.Equal(got, want) {
		t.Errorf("%s: All goes over %v, want %v", what, got, want)
	}
	if w.Len() != len(want) {
		t.Errorf("%s: Len is %d, want %d", what, w.Len(), len(want))
	}
	first, there := entry{}, len(want) > 0
	if there {
		first = want[0]
	}
	if id, at, ok := w.First(); (entry{id, at}) != first || ok != there {
		t.Errorf("%s: First is %d, %d, %v, want %v, %v", what, id, at, ok, first, there)
	}
	times := map[int]int64{}
	for _, e := range want {
		times[e.id] = e.at
	}
	for id := -2; id < api.MaxIds+2; id++ {
		if at, ok := times[id]; ok {
			wantAt(t, w, id, at)
		} else {
			wantNoAt(t, w, id)
		}
	}
}

// P7.1, P7.3
func TestANewOneHasNoDeadlines(t *testing.T) {
	wantWheel(t, "new", made(t))
	wantDue(t, made(t), math.MaxInt64)
	a, b := made(t), made(t)
	set(t, a, entry{1, 5})
	wantWheel(t, "another new one", b)
}

// P7.1, P7.3
func TestSetGivesADeadline(t *testing.T) {
	w := made(t)
	set(t, w, entry{7, 20})
	wantWheel(t, "one", w, entry{7, 20})
	set(t, w, entry{3, 30})
	wantWheel(t, "a later one", w, entry{7, 20}, entry{3, 30})
	set(t, w, entry{9, 10})
	wantWheel(t, "an earlier one", w, entry{9, 10}, entry{7, 20}, entry{3, 30})
	set(t, w, entry{1, 20})
	wantWheel(t, "one of the same time", w, entry{9, 10}, entry{7, 20}, entry{1, 20}, entry{3, 30})
}

// P7.1: the first and the last number, the first and the last time.
func TestTheEdgesOfNumbersAndTimes(t *testing.T) {
	for _, id := range []int{0, api.MaxIds - 1} {
		for _, at := range []int64{0, 1, 63, 64, 65, api.MaxTime - 64, api.MaxTime - 1, api.MaxTime} {
			w := made(t, entry{id, at})
			wantWheel(t, "an edge", w, entry{id, at})
			wantDue(t, w, at-1)
			wantDue(t, w, at, id)
			wantWheel(t, "an edge that was told", w)
		}
	}
	w := made(t, entry{63, api.MaxTime}, entry{0, api.MaxTime}, entry{62, 0}, entry{1, 0})
	wantWheel(t, "all edges", w, entry{62, 0}, entry{1, 0}, entry{63, api.MaxTime}, entry{0, api.MaxTime})
}

// P7.1: the elder deadline is gone, and it was set now.
func TestANumberIsSetAnew(t *testing.T) {
	others := []entry{{1, 10}, {2, 20}, {3, 20}, {4, 30}, {5, 84}}
	for _, c := range []struct {
		what string
		anew entry
		want []entry
	}{
		{"earlier, beside one", entry{2, 10}, []entry{{1, 10}, {2, 10}, {3, 20}, {4, 30}, {5, 84}}},
		{"earlier, ahead of all", entry{4, 0}, []entry{{4, 0}, {1, 10}, {2, 20}, {3, 20}, {5, 84}}},
		{"later, beside one", entry{2, 30}, []entry{{1, 10}, {3, 20}, {4, 30}, {2, 30}, {5, 84}}},
		{"later, behind all", entry{1, 85}, []entry{{2, 20}, {3, 20}, {4, 30}, {5, 84}, {1, 85}}},
		{"the same time, with others", entry{2, 20}, []entry{{1, 10}, {3, 20}, {2, 20}, {4, 30}, {5, 84}}},
		{"the same time, the last one", entry{3, 20}, []entry{{1, 10}, {2, 20}, {3, 20}, {4, 30}, {5, 84}}},
		{"the same time, alone", entry{1, 10}, others},
		{"the same modulo 64, later", entry{2, 84}, []entry{{1, 10}, {3, 20}, {4, 30}, {5, 84}, {2, 84}}},
		{"the same modulo 64, earlier", entry{5, 20}, []entry{{1, 10}, {2, 20}, {3, 20}, {5, 20}, {4, 30}}},
	} {
		w := made(t, others...)
		set(t, w, c.anew)
		wantWheel(t, c.what, w, c.want...)
		wantDue(t, w, api.MaxTime, ids(c.want)...)
		wantWheel(t, c.what+", told", w)
	}
}

// P7.1: away and back to the same time is behind those that were set ahead.
func TestWhoWasCancelledOrMovedIsYoungest(t *testing.T) {
	w := made(t, entry{1, 5}, entry{2, 5}, entry{3, 5})
	wantErr(t, "Cancel", w.Cancel(1), api.OK)
	set(t, w, entry{1, 5})
	wantWheel(t, "cancelled", w, entry{2, 5}, entry{3, 5}, entry{1, 5})
	set(t, w, entry{2, 9}, entry{2, 5})
	wantWheel(t, "moved", w, entry{3, 5}, entry{1, 5}, entry{2, 5})
	wantDue(t, w, 5, 3, 1, 2)
	set(t, w, entry{2, 5}, entry{3, 5}, entry{1, 5})
	wantWheel(t, "told", w, entry{2, 5}, entry{3, 5}, entry{1, 5})
}

// P7.1, P7.2, P7.3: all numbers, rising, falling, mixed, and with the same deadline.
func TestAllNumbersHaveADeadline(t *testing.T) {
	for _, at := range []func(id int) int64{
		func(int) int64 { return 0 },
		func(int) int64 { return 77 },
		func(int) int64 { return api.MaxTime },
		func(id int) int64 { return int64(id) },
		func(id int) int64 { return api.MaxTime - int64(id) },
		func(id int) int64 { return 5 + 64*int64(id) },
		func(id int) int64 { return 5 + 64*int64(63-id) },
		func(id int) int64 { return int64(id) % 3 },
		func(id int) int64 { return 64 * (int64(id) % 3) },
		func(id int) int64 { return int64(id) * 37 % 101 },
	} {
		all := crowd(at)
		want := slices.Clone(all)
		slices.SortStableFunc(want, func(a, b entry) int { return int(a.at - b.at) })
		w := made(t, all...)
		wantWheel(t, "all", w, want...)
		for range 2 {
			wantWheel(t, "a copy", w.Copy(), want...)
			wantDue(t, w, api.MaxTime, ids(want)...)
			wantWheel(t, "none", w)
			set(t, w, all...)
		}
		slices.Reverse(all)
		set(t, w, all...)
		slices.SortStableFunc(all, func(a, b entry) int { return int(a.at - b.at) })
		wantWheel(t, "all anew, the other way round", w, all...)
	}
}

// P7.2: what is alike modulo 64 is not the same.
func TestTimesThatAreAlikeModulo64(t *testing.T) {
	w := made(t, entry{9, 100}, entry{8, 36}, entry{7, 164}, entry{6, 36}, entry{5, 100}, entry{4, 36 + 1<<39})
	wantWheel(t, "alike", w, entry{8, 36}, entry{6, 36}, entry{9, 100}, entry{5, 100}, entry{7, 164}, entry{4, 36 + 1<<39})
	wantDue(t, w, 35)
	wantDue(t, w, 36, 8, 6)
	wantDue(t, w, 37)
	wantDue(t, w, 99)
	wantDue(t, w, 100, 9, 5)
	wantDue(t, w, 163)
	wantDue(t, w, 1<<39, 7)
	wantWheel(t, "the last one", w, entry{4, 36 + 1<<39})
	wantDue(t, w, 35+1<<39)
	wantDue(t, w, 36+1<<39, 4)
}

// P7.2: just below a deadline, at it, beyond it.
func TestDueBelowAtAndBeyond(t *testing.T) {
	for _, at := range []int64{0, 1, 5, 63, 64, 65, 128, 1 << 32, 1<<32 + 64, api.MaxTime - 1, api.MaxTime} {
		for _, beyond := range []int64{0, 1, 2, 63, 64, 65, 1000} {
			w := made(t, entry{3, at})
			wantDue(t, w, at-1)
			wantWheel(t, "below", w, entry{3, at})
			wantDue(t, w, at-64)
			wantDue(t, w, at+beyond, 3)
			wantWheel(t, "told", w)
		}
	}
}

// P7.2: several rings, in order of times, not of rings, and not of numbers.
func TestDueIsInOrder(t *testing.T) {
	w := made(t, entry{1, 70}, entry{2, 3}, entry{3, 64}, entry{4, 63}, entry{5, 129}, entry{6, 64}, entry{0, 130})
	wantDue(t, w, 129, 2, 4, 3, 6, 1, 5)
	wantWheel(t, "left", w, entry{0, 130})
}

// P7.2: those that are not due keep their deadlines and their order.
func TestDueLeavesTheOthers(t *testing.T) {
	w := made(t, entry{1, 74}, entry{2, 10}, entry{3, 74}, entry{4, 138}, entry{5, 10}, entry{6, 74}, entry{7, 11})
	wantDue(t, w, 10, 2, 5)
	wantWheel(t, "others", w, entry{7, 11}, entry{1, 74}, entry{3, 74}, entry{6, 74}, entry{4, 138})
	set(t, w, entry{5, 74})
	wantDue(t, w, 74, 7, 1, 3, 6, 5)
	wantWheel(t, "others", w, entry{4, 138})
}

// P7.2: any now may be asked; what is told hangs on no now that was asked ahead.
func TestAnyNowMayBeAsked(t *testing.T) {
	w := made(t, entry{1, 0}, entry{2, api.MaxTime})
	for _, now := range []int64{-1, -64, -api.MaxTime, math.MinInt64, math.MinInt64 + 1} {
		wantDue(t, w, now)
		wantWheel(t, "below 0", w, entry{1, 0}, entry{2, api.MaxTime})
	}
	for _, now := range []int64{api.MaxTime, api.MaxTime + 1, 2 * api.MaxTime, math.MaxInt64 - 1, math.MaxInt64} {
		wantDue(t, w.Copy(), now, 1, 2)
		wantDue(t, made(t), now)
	}
	wantDue(t, w, 1000, 1)
	set(t, w, entry{3, 500}, entry{4, 7}, entry{5, 1000})
	wantDue(t, w, 6)
	wantDue(t, w, 7, 4)
	wantDue(t, w, 499)
	wantDue(t, w, math.MaxInt64, 3, 5, 2)
	set(t, w, entry{3, 0}, entry{4, 1})
	wantDue(t, w, -1)
	wantDue(t, w, 0, 3)
	wantDue(t, w, 1, 4)
}

// P7.2, P7.4
func TestWhatWasToldHasNoDeadlineAnyMore(t *testing.T) {
	w := made(t, entry{1, 5}, entry{2, 5}, entry{3, 69})
	wantDue(t, w, 5, 1, 2)
	wantNoAt(t, w, 1)
	wantErr(t, "Cancel of one that was told", w.Cancel(1), api.ErrNone)
	for _, now := range []int64{5, 4, 6, 68} {
		wantDue(t, w, now)
	}
	set(t, w, entry{1, 5})
	wantDue(t, w, 69, 1, 3)
	wantDue(t, w, math.MaxInt64)
}

// P7.2: what was answered is the caller's.
func TestChangingWhatDueAnsweredChangesNothing(t *testing.T) {
	w := made(t, entry{1, 5}, entry{2, 5}, entry{3, 69}, entry{4, 69}, entry{5, 133})
	due := w.Due(5)
	due = append(due[:0], 60, 61)
	due = append(due, 62, 63)
	wantWheel(t, "changed", w, entry{3, 69}, entry{4, 69}, entry{5, 133})
	later := w.Due(69)
	due[0], due[1] = 50, 51
	if !slices.Equal(later, []int{3, 4}) {
		t.Errorf("a later answer is %v", later)
	}
	later[0] = 5
	set(t, w, entry{6, 5})
	if !slices.Equal(later, []int{5, 4}) {
		t.Errorf("an answer was changed: %v", later)
	}
	wantWheel(t, "changed", w, entry{6, 5}, entry{5, 133})
}

// P7.1
func TestCancelTakesADeadlineAway(t *testing.T) {
	w := made(t, entry{1, 5}, entry{2, 5}, entry{3, 69}, entry{4, 5}, entry{0, 0}, entry{63, api.MaxTime})
	wantErr(t, "Cancel", w.Cancel(2), api.OK)
	wantWheel(t, "one less", w, entry{0, 0}, entry{1, 5}, entry{4, 5}, entry{3, 69}, entry{63, api.MaxTime})
	wantErr(t, "Cancel again", w.Cancel(2), api.ErrNone)
	wantErr(t, "Cancel of the first one", w.Cancel(0), api.OK)
	wantErr(t, "Cancel of the last one", w.Cancel(63), api.OK)
	wantWheel(t, "three less", w, entry{1, 5}, entry{4, 5}, entry{3, 69})
	wantDue(t, w, math.MaxInt64, 1, 4, 3)
	for id := range api.MaxIds {
		wantErr(t, "Cancel of one that has none", w.Cancel(id), api.ErrNone)
	}
}

// P7.1: what is refused changes nothing.
func TestWrongNumbersAndTimes(t *testing.T) {
	have := []entry{{0, 0}, {3, 5}, {62, 5}, {63, api.MaxTime}}
	w := made(t, have...)
	for _, id := range noIDs() {
		for _, at := range append(noTimes(), 0, 5, api.MaxTime) {
			wantErr(t, "Set of no number", w.Set(id, at), api.ErrArg)
		}
		wantErr(t, "Cancel of no number", w.Cancel(id), api.ErrArg)
		wantNoAt(t, w, id)
	}
	for id := range api.MaxIds {
		for _, at := range noTimes() {
			wantErr(t, "Set at no time", w.Set(id, at), api.ErrArg)
		}
	}
	wantErr(t, "Cancel of one that has none", w.Cancel(1), api.ErrNone)
	wantWheel(t, "refused", w, have...)
	wantSame(t, "refused", w, made(t, have...), true)
}

// P7.3: what there is when All is called, whatever becomes of the wheel.
func TestAllGoesOverWhatThereIsWhenItIsCalled(t *testing.T) {
	w := made(t, entry{1, 5}, entry{2, 5}, entry{3, 4})
	all := w.All()
	wantDue(t, w, 4, 3)
	wantErr(t, "Cancel", w.Cancel(2), api.OK)
	set(t, w, entry{1, 9}, entry{7, 0})
	for range 2 {
		var got []entry
		for id, at := range all {
			got = append(got, entry{id, at})
			set(t, w, entry{20 + len(got), 4})
		}
		if want := []entry{{3, 4}, {1, 5}, {2, 5}}; !slices.Equal(got, want) {
			t.Errorf("All goes over %v, want %v", got, want)
		}
	}
	wantWheel(t, "now", w, entry{7, 0}, entry{21, 4}, entry{22, 4}, entry{23, 4}, entry{1, 9})
}

// P7.3
func TestAllMayBeLeftAnywhereAndGoneOverAgain(t *testing.T) {
	want := crowd(func(id int) int64 { return int64(id) / 4 })
	all := made(t, want...).All()
	for leave := range len(want) + 1 {
		var got []entry
		for id, at := range all {
			if len(got) == leave {
				break
			}
			got = append(got, entry{id, at})
		}
		if !slices.Equal(got, want[:leave]) {
			t.Errorf("left behind %d: %v", leave, got)
		}
	}
	calls := 0
	all(func(int, int64) bool { calls++; return calls < 2 })
	if calls != 2 {
		t.Errorf("it was left at 2, and asked %d times", calls)
	}
}

// P7.3: two may go over it at once.
func TestAllWithinAll(t *testing.T) {
	w := made(t, entry{1, 5}, entry{2, 5}, entry{3, 69})
	all, n := w.All(), 0
	for range all {
		for range all {
			n++
		}
	}
	if n != 9 {
		t.Errorf("%d, want 9", n)
	}
}

// P7.3: looks change nothing.
func TestLooksChangeNothing(t *testing.T) {
	w := made(t, entry{1, 69}, entry{2, 5}, entry{3, 5}, entry{4, 133})
	was := w.Copy()
	for range 3 {
		wantWheel(t, "looked at", w, entry{2, 5}, entry{3, 5}, entry{1, 69}, entry{4, 133})
		wantSame(t, "looked at", w, was, true)
	}
	wantDue(t, w, 200, 2, 3, 1, 4)
}

// P7.3
func TestACopyGoesOnApart(t *testing.T) {
	have := []entry{{1, 5}, {2, 5}, {3, 69}, {4, 69}}
	for _, change := range []func(w *wheel.Wheel){
		func(w *wheel.Wheel) { w.Due(5) },
		func(w *wheel.Wheel) { w.Due(69) },
		func(w *wheel.Wheel) { w.Cancel(1) },
		func(w *wheel.Wheel) { w.Cancel(3) },
		func(w *wheel.Wheel) { w.Set(1, 5) },
		func(w *wheel.Wheel) { w.Set(5, 5) },
		func(w *wheel.Wheel) { w.Set(3, 70); w.Set(6, 69); w.Set(7, 69) },
	} {
		w := made(t, have...)
		c := w.Copy()
		wantSame(t, "a copy", w, c, true)
		change(w)
		wantWheel(t, "a copy", c, have...)
		wantSame(t, "changed", w, c, false)
		change(c)
		wantSame(t, "both changed", w, c, true)
		c = w.Copy()
		was := gone(w)
		set(t, c, entry{9, 5}, entry{2, 0})
		set(t, w, entry{10, 5})
		wantErr(t, "Cancel", w.Cancel(10), api.OK)
		wantWheel(t, "of which a copy was changed", w, was...)
	}
	for range 3 {
		w := made(t, have...)
		a, b := w.Copy(), w.Copy()
		set(t, a, entry{8, 5})
		set(t, b, entry{9, 5})
		set(t, w, entry{7, 5})
		wantWheel(t, "one copy", a, entry{1, 5}, entry{2, 5}, entry{8, 5}, entry{3, 69}, entry{4, 69})
		wantWheel(t, "another copy", b, entry{1, 5}, entry{2, 5}, entry{9, 5}, entry{3, 69}, entry{4, 69})
		wantWheel(t, "the wheel", w, entry{1, 5}, entry{2, 5}, entry{7, 5}, entry{3, 69}, entry{4, 69})
	}
}

// P7.3: a copy of one without deadlines is one.
func TestACopyOfANewOneIsNoNilOne(t *testing.T) {
	c := made(t).Copy()
	if c == nil {
		t.Fatal("Copy is nil")
	}
	wantErr(t, "Set", c.Set(1, 5), api.OK)
	wantWheel(t, "a copy", c, entry{1, 5})
}

// P7.3
func TestSameTellsOneOrderFromAnother(t *testing.T) {
	a := made(t, entry{1, 5}, entry{2, 5}, entry{3, 5})
	for _, order := range [][]int{{1, 3, 2}, {2, 1, 3}, {2, 3, 1}, {3, 1, 2}, {3, 2, 1}} {
		b := made(t)
		for _, id := range order {
			set(t, b, entry{id, 5})
		}
		wantSame(t, "another order", a, b, false)
		wantSame(t, "that order", b.Copy(), b, true)
	}
	wantSame(t, "another time", made(t, entry{1, 5}), made(t, entry{1, 6}), false)
	wantSame(t, "a time that is alike modulo 64", made(t, entry{1, 5}), made(t, entry{1, 69}), false)
	wantSame(t, "another number", made(t, entry{1, 5}), made(t, entry{2, 5}), false)
	wantSame(t, "one more", a, made(t, entry{1, 5}, entry{2, 5}), false)
	wantSame(t, "times the other way", made(t, entry{1, 5}, entry{2, 6}), made(t, entry{1, 6}, entry{2, 5}), false)
	wantSame(t, "one and none", made(t, entry{0, 0}), made(t), false)
	wantSame(t, "none", made(t), made(t), true)
	wantSame(t, "with itself", a, a, true)
}

// P7.3: the order is by deadlines first: how those of several times were set is nothing to it, nor what was told.
func TestSameHangsOnNoWayThere(t *testing.T) {
	a := made(t, entry{1, 5}, entry{2, 69}, entry{3, 6}, entry{4, 5})
	b := made(t, entry{9, 1}, entry{3, 6}, entry{8, 5}, entry{2, 69}, entry{4, 9}, entry{1, 5}, entry{4, 5})
	wantErr(t, "Cancel", b.Cancel(8), api.OK)
	wantDue(t, b, 1, 9)
	wantSame(t, "another way there", a, b, true)
	wantDue(t, a, 69, 1, 4, 3, 2)
	wantSame(t, "none any more", a, made(t), true)
}

// P7.3
func TestSameOfNoWheels(t *testing.T) {
	for _, a := range noWheels() {
		for _, b := range noWheels() {
			wantSame(t, "none", a, b, true)
		}
		for _, w := range []*wheel.Wheel{made(t), made(t, entry{0, 0}), made(t, entry{63, 5}, entry{1, 5})} {
			wantSame(t, "none and one", a, w, false)
		}
	}
}

// P7.1 to P7.3: ErrNil ahead of all, and else nothing.
func TestNoWheels(t *testing.T) {
	for _, w := range noWheels() {
		for _, id := range append(noIDs(), 0, 1, 63) {
			for _, at := range append(noTimes(), 0, 5, api.MaxTime) {
				wantErr(t, "Set", w.Set(id, at), api.ErrNil)
				wantDue(t, w, at)
			}
			wantErr(t, "Cancel", w.Cancel(id), api.ErrNil)
			wantNoAt(t, w, id)
		}
		wantWheel(t, "none", w)
		if w.All() == nil {
			t.Error("one can't range over none")
		}
		if c := w.Copy(); c != nil {
			t.Errorf("Copy of none is %v", c)
		}
		wantSame(t, "refused", w, nil, true)
	}
}

// The chapter's examples.
func TestExamples(t *testing.T) {
	w := made(t, entry{3, 10}, entry{1, 5}, entry{2, 5}, entry{3, 5})
	if id, at, ok := w.First(); id != 1 || at != 5 || !ok {
		t.Errorf("First is %d, %d, %v", id, at, ok)
	}
	wantDue(t, w, 4)
	wantDue(t, w, 7, 1, 2, 3)
	if w.Len() != 0 {
		t.Errorf("Len is %d", w.Len())
	}
	wantErr(t, "Set(64, 1)", w.Set(64, 1), api.ErrArg)
	wantErr(t, "Set(0, -1)", w.Set(0, -1), api.ErrArg)
	wantErr(t, "Cancel(0)", w.Cancel(0), api.ErrNone)
}
