package turns_test

import (
	"math"
	"slices"
	"testing"

	"metronome/api"
	"metronome/turns"
)

// member is a thread that is in a sequence, with what it has.
type member struct {
	thread, prio int
	robin        bool
	left         int
}

// robin is one to be added as a robin; what is left to it is told by full.
func robin(thread, prio int) member { return member{thread, prio, true, 0} }

// plain is one to be added as none.
func plain(thread, prio int) member { return member{thread, prio, false, 0} }

// noTurns are nil and zero ones.
func noTurns() []*turns.Turns {
	return []*turns.Turns{nil, {}}
}

// noQuanta are numbers that are no quanta.
func noQuanta() []int {
	return []int{0, -1, -2, -99, -100, 101, 102, 127, 128, 200, 256, 1 << 32, 1<<32 + 2, -1 << 32, math.MinInt, math.MinInt + 2, math.MaxInt}
}

// noPrios are numbers that are no priorities.
func noPrios() []int {
	return []int{0, -1, -2, -5, -31, -32, 32, 33, 63, 64, 69, 1 << 32, 1<<32 + 5, -1 << 32, math.MinInt, math.MinInt + 5, math.MaxInt}
}

// noThreads are numbers that are no threads.
func noThreads() []int {
	return []int{-1, -2, -15, -16, -17, 16, 17, 31, 32, 1 << 32, 1<<32 + 1, -1 << 32, math.MinInt, math.MinInt + 1, math.MaxInt}
}

func wantErr(t *testing.T, what string, got, want api.Errno) {
	t.Helper()
	if got != want {
		t.Errorf("%s: %v, want %v", what, got, want)
	}
}

// made is turns to which those were added, one behind the other.
func made(t *testing.T, quantum int, all ...member) *turns.Turns {
	t.Helper()
	x, err := turns.New(quantum)
	if x == nil || err != api.OK {
		t.Fatalf("New(%d) is %v, %v", quantum, x, err)
	}
	for _, m := range all {
		wantErr(t, "Add", x.Add(m.thread, m.prio, m.robin), api.OK)
	}
	return x
}

// crowd is all threads of one priority, rising.
func crowd(prio int, robin bool) []member {
	var all []member
	for thread := range api.MaxThreads {
		all = append(all, member{thread, prio, robin, 0})
	}
	return all
}

// full is those with that quantum left to each.
func full(quantum int, all ...member) []member {
	var list []member
	for _, m := range all {
		m.left = quantum
		list = append(list, m)
	}
	return list
}

// byTurns is those in the order of falling priorities, in which they are to be told.
func byTurns(all []member) []member {
	list := slices.Clone(all)
	slices.SortStableFunc(list, func(a, b member) int { return b.prio - a.prio })
	return list
}

// isRobin plays one that is in a sequence apart from all others: a tick is seen by it, if it is a robin.
func isRobin(x *turns.Turns, thread int) bool {
	alone := x.Copy()
	for other := range api.MaxThreads {
		if other != thread {
			alone.Leave(other)
		}
	}
	was, _ := alone.Left(thread)
	_, told := alone.Tick()
	now, _ := alone.Left(thread)
	return told || was != now
}

func wantOne(t *testing.T, what string, tell func() (int, bool), want int) {
	t.Helper()
	if got, ok := tell(); got != want || !ok {
		t.Errorf("%s is %d, %v, want %d, true", what, got, ok, want)
	}
}

func wantNobody(t *testing.T, what string, tell func() (int, bool)) {
	t.Helper()
	if got, ok := tell(); got != 0 || ok {
		t.Errorf("%s is %d, %v, want 0, false", what, got, ok)
	}
}

func wantOf(t *testing.T, what string, x *turns.Turns, prio int, want ...int) {
	t.Helper()
	if got := x.Of(prio); !slices.Equal(got, want) {
		t.Errorf("%s: Of(%d) is %v, want %v", what, prio, got, want)
	}
}

// wantHas asks for priority and what is left; 0 is of one that is in no sequence.
func wantHas(t *testing.T, what string, x *turns.Turns, thread, prio, left int) {
	t.Helper()
	if got, ok := x.Prio(thread); got != prio || ok != (prio != 0) {
		t.Errorf("%s: Prio(%d) is %d, %v, want %d", what, thread, got, ok, prio)
	}
	if got, ok := x.Left(thread); got != left || ok != (prio != 0) {
		t.Errorf("%s: Left(%d) is %d, %v, want %d", what, thread, got, ok, left)
	}
}

func wantSame(t *testing.T, what string, a, b *turns.Turns, want bool) {
	t.Helper()
	if turns.Same(a, b) != want || turns.Same(b, a) != want {
		t.Errorf("%s: Same is %v, %v, want %v", what, turns.Same(a, b), turns.Same(b, a), want)
	}
}

// wantTurns asks of all looks that they say just that; each sequence from its head on.
func wantTurns(t *testing.T, what string, x *turns.Turns, want ...member) {
	t.Helper()
	var seqs [api.MaxPriority + 1][]int
	var has [api.MaxThreads]member
	for _, m := range want {
		seqs[m.prio] = append(seqs[m.prio], m.thread)
		has[m.thread] = m
	}
	for prio, seq := range seqs {
		wantOf(t, what, x, prio, seq...)
	}
	for thread, m := range has {
		wantHas(t, what, x, thread, m.prio, m.left)
		if m.prio != 0 && isRobin(x, thread) != m.robin {
			t.Errorf("%s: that %d is a robin is %v", what, thread, !m.robin)
		}
	}
	if x.Len() != len(want) {
		t.Errorf("%s: Len is %d, want %d", what, x.Len(), len(want))
	}
	if len(want) == 0 {
		wantNobody(t, what+": Runs", x.Runs)
	} else {
		wantOne(t, what+": Runs", x.Runs, byTurns(want)[0].thread)
	}
}

// P10.1: the least quantum, the greatest, and those between: each is a robin's when it comes.
func TestNewHasNobody(t *testing.T) {
	for quantum := 1; quantum <= api.MaxQuantum; quantum++ {
		x := made(t, quantum)
		wantTurns(t, "new", x)
		wantNobody(t, "Tick of nobody", x.Tick)
		wantErr(t, "Add", x.Add(3, 5, true), api.OK)
		wantHas(t, "added", x, 3, 5, quantum)
	}
}

// P10.1
func TestNewOfNoQuantum(t *testing.T) {
	for _, quantum := range noQuanta() {
		if x, err := turns.New(quantum); x != nil || err != api.ErrArg {
			t.Errorf("New(%d) is %v, %v", quantum, x, err)
		}
	}
}

// P10.1
func TestTurnsAreApart(t *testing.T) {
	a, b := made(t, 2), made(t, 2)
	wantErr(t, "Add", a.Add(1, 5, true), api.OK)
	wantTurns(t, "others", b)
	wantErr(t, "Add", b.Add(1, 6, false), api.OK)
	wantErr(t, "Leave", a.Leave(1), api.OK)
	wantTurns(t, "others", b, full(2, plain(1, 6))...)
}

// P10.1: each goes to the tail, with a full quantum, whatever is left to others.
func TestAddGoesToTheTail(t *testing.T) {
	x := made(t, 3, robin(1, 5), plain(0, 5), robin(2, 7))
	wantTurns(t, "added", x, full(3, robin(1, 5), plain(0, 5), robin(2, 7))...)
	wantNobody(t, "Tick", x.Tick)
	wantErr(t, "Add", x.Add(15, 7, true), api.OK)
	wantErr(t, "Add", x.Add(9, 7, false), api.OK)
	wantTurns(t, "added", x,
		member{2, 7, true, 2}, member{15, 7, true, 3}, member{9, 7, false, 3}, member{1, 5, true, 3}, member{0, 5, false, 3})
}

// P10.1: each thread of each priority alone, of the least and the greatest too.
func TestAddAndLeaveOfOneAlone(t *testing.T) {
	for _, is := range []bool{false, true} {
		for thread := range api.MaxThreads {
			for prio := 1; prio <= api.MaxPriority; prio++ {
				x := made(t, 2, member{thread, prio, is, 0})
				wantTurns(t, "added", x, member{thread, prio, is, 2})
				wantErr(t, "Leave", x.Leave(thread), api.OK)
				wantTurns(t, "left", x)
				wantSame(t, "left", x, made(t, 2), true)
			}
		}
	}
}

// P10.1: all that there can be, of one priority, and of one each.
func TestAddAndLeaveOfAll(t *testing.T) {
	for _, prio := range []int{1, 17, api.MaxPriority} {
		all := crowd(prio, true)
		x := made(t, 4, all...)
		wantTurns(t, "all", x, full(4, all...)...)
		for len(all) > 0 {
			middle := len(all) / 2
			wantErr(t, "Leave", x.Leave(all[middle].thread), api.OK)
			all = slices.Delete(all, middle, middle+1)
			wantTurns(t, "left", x, full(4, all...)...)
		}
	}
	x := made(t, 1)
	for thread := range api.MaxThreads {
		wantErr(t, "Add", x.Add(thread, 1+2*thread, thread%2 == 0), api.OK)
	}
	for thread := api.MaxThreads - 1; thread >= 0; thread-- {
		wantOne(t, "Runs", x.Runs, thread)
		wantErr(t, "Leave", x.Leave(thread), api.OK)
	}
	wantTurns(t, "left", x)
}

// P10.1: the head, one between and the tail leave; the others keep their order and what is left to them.
func TestLeaveLetsTheOthersBe(t *testing.T) {
	for _, thread := range []int{3, 1, 2} {
		all := []member{{3, 5, true, 2}, {1, 5, true, 3}, {2, 5, false, 3}}
		x := made(t, 3, robin(3, 5), robin(1, 5), plain(2, 5))
		wantNobody(t, "Tick", x.Tick)
		wantTurns(t, "a tick", x, all...)
		wantErr(t, "Leave", x.Leave(thread), api.OK)
		wantTurns(t, "left", x, slices.DeleteFunc(all, func(m member) bool { return m.thread == thread })...)
	}
}

// P10.1: it has a full quantum again, is a robin or not as it is told now, and is at the tail.
func TestWhoLeavesAndComesAgain(t *testing.T) {
	x := made(t, 5, robin(1, 5), robin(2, 5))
	for range 3 {
		wantNobody(t, "Tick", x.Tick)
	}
	wantHas(t, "three ticks", x, 1, 5, 2)
	wantErr(t, "Leave", x.Leave(1), api.OK)
	wantHas(t, "left", x, 1, 0, 0)
	wantErr(t, "Add", x.Add(1, 5, true), api.OK)
	wantTurns(t, "come again", x, full(5, robin(2, 5), robin(1, 5))...)
	wantErr(t, "Leave", x.Leave(2), api.OK)
	wantErr(t, "Add", x.Add(2, 31, false), api.OK)
	wantTurns(t, "come again", x, full(5, plain(2, 31), robin(1, 5))...)
}

// P10.2: whichever two priorities there are, the head of the greater one's.
func TestRunsIsTheHeadOfTheGreatest(t *testing.T) {
	for low := 1; low <= api.MaxPriority; low++ {
		for high := low + 1; high <= api.MaxPriority; high++ {
			x := made(t, 2, plain(3, low), plain(6, high), plain(4, low), plain(5, high))
			for _, thread := range []int{6, 5, 3, 4} {
				wantOne(t, "Runs", x.Runs, thread)
				wantErr(t, "Leave", x.Leave(thread), api.OK)
			}
			wantNobody(t, "Runs", x.Runs)
		}
	}
}

// P10.2: thread 0 is somebody, and nobody is told as 0, too.
func TestThreadNoughtIsSomebody(t *testing.T) {
	x := made(t, 1, robin(0, 1))
	wantOne(t, "Runs", x.Runs, 0)
	wantOne(t, "Tick", x.Tick, 0)
	wantErr(t, "Leave", x.Leave(0), api.OK)
	wantNobody(t, "Runs", x.Runs)
	wantNobody(t, "Tick", x.Tick)
}

// P10.2: one that runs, one that does not, one alone, the tail; of another sequence too. What is left stays.
func TestYieldGoesToTheTailOfItsOwn(t *testing.T) {
	begin := func() *turns.Turns {
		x := made(t, 4, robin(1, 9), robin(2, 9), plain(3, 9), plain(4, 6), robin(5, 6), robin(6, 2))
		wantNobody(t, "Tick", x.Tick)
		return x
	}
	for thread, seqs := range map[int][2][]int{
		1: {{2, 3, 1}, {4, 5}},
		2: {{1, 3, 2}, {4, 5}},
		3: {{1, 2, 3}, {4, 5}},
		4: {{1, 2, 3}, {5, 4}},
		5: {{1, 2, 3}, {4, 5}},
		6: {{1, 2, 3}, {4, 5}},
	} {
		x := begin()
		wantErr(t, "Yield", x.Yield(thread), api.OK)
		wantOf(t, "yielded", x, 9, seqs[0]...)
		wantOf(t, "yielded", x, 6, seqs[1]...)
		wantOf(t, "yielded", x, 2, 6)
		wantOne(t, "Runs", x.Runs, seqs[0][0])
		wantHas(t, "yielded", x, 1, 9, 3)
		for _, other := range []int{2, 3, 4, 5, 6} {
			prio, _ := begin().Prio(other)
			wantHas(t, "yielded", x, other, prio, 4)
			if isRobin(x, other) != isRobin(begin(), other) {
				t.Errorf("%d yields, and %d is another", thread, other)
			}
		}
	}
}

// P10.2: with what is left it goes on when it runs again.
func TestYieldKeepsWhatIsLeft(t *testing.T) {
	x := made(t, 3, robin(1, 5), robin(2, 5))
	wantNobody(t, "Tick", x.Tick)
	wantNobody(t, "Tick", x.Tick)
	wantErr(t, "Yield", x.Yield(1), api.OK)
	wantTurns(t, "yielded", x, member{2, 5, true, 3}, member{1, 5, true, 1})
	wantErr(t, "Yield", x.Yield(2), api.OK)
	wantOne(t, "Tick", x.Tick, 1)
	wantTurns(t, "used up", x, full(3, robin(2, 5), robin(1, 5))...)
}

// P10.2: a robin with more than one tick left, and with one.
func TestTickOfARobin(t *testing.T) {
	for _, quantum := range []int{1, 2, 3, 99, api.MaxQuantum} {
		x := made(t, quantum, robin(1, 5), robin(2, 5), robin(3, 4))
		for left := quantum; left > 1; left-- {
			wantHas(t, "ticks", x, 1, 5, left)
			wantNobody(t, "Tick", x.Tick)
			wantOne(t, "Runs", x.Runs, 1)
		}
		wantTurns(t, "the last one", x, member{1, 5, true, 1}, member{2, 5, true, quantum}, member{3, 4, true, quantum})
		wantOne(t, "Tick", x.Tick, 1)
		wantTurns(t, "used up", x, full(quantum, robin(2, 5), robin(1, 5), robin(3, 4))...)
	}
}

// P10.2: one alone goes to the tail where it is, and is told.
func TestTickOfARobinAlone(t *testing.T) {
	for _, quantum := range []int{1, 2, api.MaxQuantum} {
		x := made(t, quantum, robin(15, 31), robin(4, 30))
		for range 3 {
			for range quantum - 1 {
				wantNobody(t, "Tick", x.Tick)
			}
			wantOne(t, "Tick", x.Tick, 15)
			wantTurns(t, "used up", x, full(quantum, robin(15, 31), robin(4, 30))...)
		}
	}
}

// P10.2: one that is no robin runs on, and nothing is taken from robins that do not run.
func TestTickOfNoRobin(t *testing.T) {
	for _, quantum := range []int{1, 2, api.MaxQuantum} {
		x := made(t, quantum, plain(1, 5), robin(2, 5), robin(3, 4), plain(4, 3))
		was := x.Copy()
		for range 2*quantum + 3 {
			wantNobody(t, "Tick", x.Tick)
		}
		wantSame(t, "ticks", x, was, true)
		wantTurns(t, "ticks", x, full(quantum, plain(1, 5), robin(2, 5), robin(3, 4), plain(4, 3))...)
	}
}

// P10.2: who runs is seen anew at each tick; one that is passed by keeps what is left.
func TestTickIsOfWhoRuns(t *testing.T) {
	x := made(t, 4, robin(1, 5))
	wantNobody(t, "Tick", x.Tick)
	wantErr(t, "Add", x.Add(2, 6, true), api.OK)
	wantNobody(t, "Tick", x.Tick)
	wantNobody(t, "Tick", x.Tick)
	wantErr(t, "Add", x.Add(3, 7, false), api.OK)
	wantNobody(t, "Tick", x.Tick)
	wantTurns(t, "ticks", x, member{3, 7, false, 4}, member{2, 6, true, 2}, member{1, 5, true, 3})
	wantErr(t, "Leave", x.Leave(3), api.OK)
	wantErr(t, "Leave", x.Leave(2), api.OK)
	wantNobody(t, "Tick", x.Tick)
	wantTurns(t, "ticks", x, member{1, 5, true, 2})
}

// P10.2: a robin among others that are none goes behind them, and comes never again to run by ticks.
func TestTickOfARobinAheadOfOthers(t *testing.T) {
	x := made(t, 1, robin(1, 5), plain(2, 5), robin(3, 5))
	wantOne(t, "Tick", x.Tick, 1)
	wantTurns(t, "used up", x, full(1, plain(2, 5), robin(3, 5), robin(1, 5))...)
	wantNobody(t, "Tick", x.Tick)
	wantTurns(t, "no robin", x, full(1, plain(2, 5), robin(3, 5), robin(1, 5))...)
}

// ticked are turns of quantum 5 in which each of three of priority 5 has another number of ticks left,
// 1 runs, and others stand in the sequences of 8 and 3.
func ticked(t *testing.T) *turns.Turns {
	t.Helper()
	x := made(t, 5, robin(1, 5), robin(2, 5), robin(3, 5))
	for thread, ticks := range []int{0, 1, 2, 3} {
		for range ticks {
			wantNobody(t, "Tick", x.Tick)
		}
		if ticks > 0 {
			wantErr(t, "Yield", x.Yield(thread), api.OK)
		}
	}
	for _, m := range []member{plain(8, 8), robin(9, 8), plain(6, 3), robin(7, 3)} {
		wantErr(t, "Add", x.Add(m.thread, m.prio, m.robin), api.OK)
	}
	wantTurns(t, "ticked", x, tickedOnes()...)
	return x
}

func tickedOnes() []member {
	return []member{{8, 8, false, 5}, {9, 8, true, 5}, {1, 5, true, 4}, {2, 5, true, 3}, {3, 5, true, 2}, {6, 3, false, 5}, {7, 3, true, 5}}
}

// changed is those of ticked without that one, and it ahead of or behind all of its priority.
func changed(m member, tail bool) []member {
	list := slices.DeleteFunc(tickedOnes(), func(other member) bool { return other.thread == m.thread })
	if tail {
		return append(list, m)
	}
	return slices.Insert(list, 0, m)
}

// P10.3: of each priority, its own too, as a robin or not as it is told now.
func TestPutGoesToTheTailWithAFullQuantum(t *testing.T) {
	for _, is := range []bool{false, true} {
		for _, thread := range []int{1, 2, 3} {
			for prio := 1; prio <= api.MaxPriority; prio++ {
				x := ticked(t)
				wantErr(t, "Put", x.Put(thread, prio, is), api.OK)
				wantTurns(t, "put", x, changed(member{thread, prio, is, 5}, true)...)
			}
		}
	}
}

// P10.3: of one that is a robin as none, and the other way round, of its own priority.
func TestPutOfARobinAsNoneAndBack(t *testing.T) {
	x := made(t, 3, robin(1, 5))
	wantNobody(t, "Tick", x.Tick)
	wantErr(t, "Put", x.Put(1, 5, false), api.OK)
	wantTurns(t, "none", x, member{1, 5, false, 3})
	for range 7 {
		wantNobody(t, "Tick", x.Tick)
	}
	wantErr(t, "Put", x.Put(1, 5, true), api.OK)
	wantTurns(t, "a robin", x, member{1, 5, true, 3})
	wantNobody(t, "Tick", x.Tick)
	wantNobody(t, "Tick", x.Tick)
	wantOne(t, "Tick", x.Tick, 1)
}

// P10.3: what is left stays; who is a robin, too.
func TestMove(t *testing.T) {
	for _, m := range tickedOnes() {
		for prio := 1; prio <= api.MaxPriority; prio++ {
			x := ticked(t)
			wantErr(t, "Move", x.Move(m.thread, prio), api.OK)
			want := tickedOnes()
			if moved := (member{m.thread, prio, m.robin, m.left}); prio != m.prio {
				want = changed(moved, prio > m.prio)
			}
			wantTurns(t, "moved", x, want...)
		}
	}
}

// P10.3: to the head, of a greater one's as of a lesser one's.
func TestLift(t *testing.T) {
	for _, m := range tickedOnes() {
		for prio := 1; prio <= api.MaxPriority; prio++ {
			x := ticked(t)
			wantErr(t, "Lift", x.Lift(m.thread, prio), api.OK)
			want := tickedOnes()
			if lifted := (member{m.thread, prio, m.robin, m.left}); prio != m.prio {
				want = changed(lifted, false)
			}
			wantTurns(t, "lifted", x, want...)
		}
	}
}

// P10.3: with what is left it goes on when it runs as another one.
func TestWhatIsLeftIsUsedUpElsewhere(t *testing.T) {
	for what, way := range map[string]func(*turns.Turns, int, int) api.Errno{
		"Move": (*turns.Turns).Move,
		"Lift": (*turns.Turns).Lift,
	} {
		x := made(t, 4, robin(1, 5), robin(2, 7))
		wantErr(t, what, way(x, 1, 8), api.OK)
		wantNobody(t, "Tick", x.Tick)
		wantErr(t, what, way(x, 1, 1), api.OK)
		wantNobody(t, "Tick", x.Tick)
		wantErr(t, what, way(x, 1, 31), api.OK)
		wantNobody(t, "Tick", x.Tick)
		wantErr(t, what, way(x, 1, 31), api.OK)
		wantNobody(t, "Tick", x.Tick)
		wantTurns(t, what, x, member{1, 31, true, 1}, member{2, 7, true, 3})
		wantOne(t, "Tick", x.Tick, 1)
		wantHas(t, what, x, 1, 31, 4)
	}
}

// P10.3: all threads that there can be, in one sequence, go over to another one.
func TestAllGoOver(t *testing.T) {
	var down, up []int
	for thread := range api.MaxThreads {
		down, up = append([]int{thread}, down...), append(up, thread)
	}
	for what, c := range map[string]struct {
		way      func(*turns.Turns, int, int) api.Errno
		from, to int
		want     []int
	}{
		"Put up":    {func(x *turns.Turns, thread, prio int) api.Errno { return x.Put(thread, prio, true) }, 1, 31, up},
		"Put down":  {func(x *turns.Turns, thread, prio int) api.Errno { return x.Put(thread, prio, true) }, 31, 1, up},
		"Move up":   {(*turns.Turns).Move, 1, 31, up},
		"Move down": {(*turns.Turns).Move, 31, 1, down},
		"Lift up":   {(*turns.Turns).Lift, 1, 31, down},
		"Lift down": {(*turns.Turns).Lift, 31, 1, down},
		"same Move": {(*turns.Turns).Move, 9, 9, up},
		"same Lift": {(*turns.Turns).Lift, 9, 9, up},
	} {
		x := made(t, 2, crowd(c.from, true)...)
		for thread := range api.MaxThreads {
			wantErr(t, what, c.way(x, thread, c.to), api.OK)
		}
		wantOf(t, what, x, c.to, c.want...)
		if c.from != c.to {
			wantOf(t, what, x, c.from)
		}
		wantOne(t, what+": Runs", x.Runs, c.want[0])
	}
}

// P10.4: looks change nothing; of one that may not be there is nothing.
func TestLooks(t *testing.T) {
	x := ticked(t)
	was := x.Copy()
	for range 3 {
		wantTurns(t, "looked at", x, tickedOnes()...)
	}
	for _, thread := range append(noThreads(), 0, 4, 15) {
		wantHas(t, "none", x, thread, 0, 0)
	}
	for _, prio := range append(noPrios(), 1, 4, 31) {
		wantOf(t, "none", x, prio)
	}
	wantSame(t, "looked at", x, was, true)
}

// P10.4: what is left is told of one that is no robin, too: a full quantum.
func TestLeftOfNoRobin(t *testing.T) {
	for _, quantum := range []int{1, 2, api.MaxQuantum} {
		x := made(t, quantum, plain(0, 1))
		wantNobody(t, "Tick", x.Tick)
		wantHas(t, "no robin", x, 0, 1, quantum)
	}
}

// P10.4: what is done with an answer is not done with the turns, nor the other way round.
func TestWhatOfAnswersIsTheCallers(t *testing.T) {
	x := made(t, 2, robin(3, 5), robin(1, 5), robin(2, 5))
	one, other := x.Of(5), x.Of(5)
	for i := range one {
		one[i] = 9
	}
	one = append(one[:1], 7, 7, 7, 7)
	wantTurns(t, "an answer changed", x, full(2, robin(3, 5), robin(1, 5), robin(2, 5))...)
	wantErr(t, "Leave", x.Leave(3), api.OK)
	wantErr(t, "Yield", x.Yield(1), api.OK)
	wantErr(t, "Add", x.Add(8, 5, true), api.OK)
	if !slices.Equal(other, []int{3, 1, 2}) || !slices.Equal(one, []int{9, 7, 7, 7, 7}) {
		t.Errorf("answers are %v and %v when the turns go on", other, one)
	}
}

// P10.4
func TestACopyGoesOnApart(t *testing.T) {
	x := ticked(t)
	c := x.Copy()
	if c == nil || c == x {
		t.Fatal("Copy is no other one")
	}
	wantSame(t, "copied", c, x, true)
	wantTurns(t, "the copy", c, tickedOnes()...)
	wantErr(t, "Leave", c.Leave(8), api.OK)
	wantNobody(t, "Tick", c.Tick)
	wantErr(t, "Put", c.Put(1, 5, false), api.OK)
	wantErr(t, "Move", c.Move(6, 9), api.OK)
	wantErr(t, "Add", c.Add(0, 1, true), api.OK)
	wantTurns(t, "the first one", x, tickedOnes()...)
	wantErr(t, "Leave", x.Leave(9), api.OK)
	wantErr(t, "Yield", x.Yield(2), api.OK)
	wantErr(t, "Lift", x.Lift(3, 8), api.OK)
	wantErr(t, "Put", x.Put(7, 31, true), api.OK)
	wantNobody(t, "Tick", x.Tick)
	wantTurns(t, "the copy", c,
		member{6, 9, false, 5}, member{9, 8, true, 4}, member{2, 5, true, 3}, member{3, 5, true, 2}, member{1, 5, false, 5},
		member{7, 3, true, 5}, member{0, 1, true, 5})
	wantTurns(t, "the first one", x,
		member{7, 31, true, 4}, member{3, 8, true, 2}, member{8, 8, false, 5}, member{1, 5, true, 4}, member{2, 5, true, 3},
		member{6, 3, false, 5})
	wantSame(t, "gone on apart", c, x, false)
}

// P10.4: a copy of a copy, of new ones, of full ones; both go on alike.
func TestACopyIsTheSame(t *testing.T) {
	for _, x := range []*turns.Turns{made(t, 1), made(t, 100), made(t, 3, crowd(1, true)...), made(t, 1, crowd(31, false)...), ticked(t)} {
		c := x.Copy().Copy()
		wantSame(t, "copied", c, x, true)
		for _, y := range []*turns.Turns{x, c} {
			y.Leave(3)
			wantErr(t, "Add", y.Add(3, 31, true), api.OK)
			wantErr(t, "Lift", y.Lift(3, 30), api.OK)
			y.Tick()
			y.Yield(8)
		}
		wantSame(t, "gone on alike", c, x, true)
		if x.Len() == 1 {
			wantErr(t, "Leave", c.Leave(3), api.OK)
			wantSame(t, "one left", c, x, false)
		}
	}
}

// P10.4: one thing alone is another: the quantum, the order, a robin, what is left, a priority, a thread.
func TestSameTellsOneThingAlone(t *testing.T) {
	begin := func() *turns.Turns { return made(t, 2, robin(1, 5), robin(2, 5)) }
	wantSame(t, "the same", begin(), begin(), true)
	wantSame(t, "the quantum of nobody", made(t, 2), made(t, 3), false)
	order := begin()
	wantErr(t, "Yield", order.Yield(1), api.OK)
	wantSame(t, "the order", begin(), order, false)
	wantSame(t, "a robin", begin(), made(t, 2, plain(1, 5), robin(2, 5)), false)
	wantSame(t, "a robin", begin(), made(t, 2, robin(1, 5), plain(2, 5)), false)
	left := begin()
	wantNobody(t, "Tick", left.Tick)
	wantSame(t, "what is left", begin(), left, false)
	wantSame(t, "a priority", begin(), made(t, 2, robin(1, 5), robin(2, 6)), false)
	wantSame(t, "a thread", begin(), made(t, 2, robin(1, 5), robin(3, 5)), false)
	wantSame(t, "one less", begin(), made(t, 2, robin(1, 5)), false)
	wantSame(t, "nobody", begin(), made(t, 2), false)
	wantSame(t, "the least of all", made(t, 2), made(t, 2, plain(0, 1)), false)
}

// P10.4: with another quantum alone, but the same ticks left to all.
func TestSameTellsTheQuantumBehindTicks(t *testing.T) {
	a, b := made(t, 2, robin(1, 5)), made(t, 3, robin(1, 5))
	wantNobody(t, "Tick", b.Tick)
	wantHas(t, "a", a, 1, 5, 2)
	wantHas(t, "b", b, 1, 5, 2)
	wantSame(t, "the quantum", a, b, false)
}

// P10.4: which way led there is nothing to Same, nor what those had that have left.
func TestSameHangsOnNoWayThere(t *testing.T) {
	a := made(t, 3, robin(1, 5), plain(2, 5), robin(4, 9))
	b := made(t, 3, plain(2, 7), robin(3, 31))
	wantNobody(t, "Tick", b.Tick)
	wantErr(t, "Leave", b.Leave(3), api.OK)
	wantErr(t, "Add", b.Add(4, 1, true), api.OK)
	wantErr(t, "Add", b.Add(1, 5, false), api.OK)
	wantErr(t, "Lift", b.Lift(4, 9), api.OK)
	wantErr(t, "Put", b.Put(1, 6, true), api.OK)
	wantErr(t, "Put", b.Put(2, 5, false), api.OK)
	wantErr(t, "Move", b.Move(1, 5), api.OK)
	wantSame(t, "another way there", a, b, true)
	for range 3 {
		b.Tick()
	}
	wantSame(t, "round once", a, b, true)
	for _, thread := range []int{1, 2, 4} {
		wantErr(t, "Leave", b.Leave(thread), api.OK)
	}
	wantSame(t, "nobody any more", b, made(t, 3), true)
}

// P10.4
func TestSameOfNoTurns(t *testing.T) {
	for _, a := range noTurns() {
		for _, b := range noTurns() {
			wantSame(t, "none", a, b, true)
		}
		for _, x := range []*turns.Turns{made(t, 1), made(t, 100), made(t, 1, plain(0, 1))} {
			wantSame(t, "none and some", a, x, false)
		}
	}
}

// ways are all by which one that is in a sequence goes to a priority.
func ways() map[string]func(*turns.Turns, int, int) api.Errno {
	return map[string]func(*turns.Turns, int, int) api.Errno{
		"Put as a robin": func(x *turns.Turns, thread, prio int) api.Errno { return x.Put(thread, prio, true) },
		"Put as none":    func(x *turns.Turns, thread, prio int) api.Errno { return x.Put(thread, prio, false) },
		"Move":           (*turns.Turns).Move,
		"Lift":           (*turns.Turns).Lift,
	}
}

// adds are both ways of Add.
func adds() map[string]func(*turns.Turns, int, int) api.Errno {
	return map[string]func(*turns.Turns, int, int) api.Errno{
		"Add as a robin": func(x *turns.Turns, thread, prio int) api.Errno { return x.Add(thread, prio, true) },
		"Add as none":    func(x *turns.Turns, thread, prio int) api.Errno { return x.Add(thread, prio, false) },
	}
}

// P10.1 to P10.3: ErrArg is ahead of ErrNone and ErrState: threads that are in a sequence, and that are in none.
func TestNumbersThatMayNotBe(t *testing.T) {
	for _, x := range []*turns.Turns{made(t, 2), made(t, 2, crowd(5, true)...), ticked(t)} {
		was := x.Copy()
		for _, all := range []map[string]func(*turns.Turns, int, int) api.Errno{ways(), adds()} {
			for what, way := range all {
				for _, prio := range noPrios() {
					for thread := range api.MaxThreads {
						wantErr(t, what, way(x, thread, prio), api.ErrArg)
					}
				}
				for _, thread := range noThreads() {
					for _, prio := range append(noPrios(), 1, 5, 31) {
						wantErr(t, what, way(x, thread, prio), api.ErrArg)
					}
				}
			}
		}
		for _, thread := range noThreads() {
			wantErr(t, "Leave", x.Leave(thread), api.ErrArg)
			wantErr(t, "Yield", x.Yield(thread), api.ErrArg)
		}
		wantSame(t, "refused", x, was, true)
	}
}

// P10.1: with its own priority, and with others.
func TestAddOfOneThatIsInASequence(t *testing.T) {
	for what, add := range adds() {
		x := ticked(t)
		for _, m := range tickedOnes() {
			for prio := 1; prio <= api.MaxPriority; prio++ {
				wantErr(t, what, add(x, m.thread, prio), api.ErrState)
			}
		}
		wantTurns(t, "refused", x, tickedOnes()...)
		wantSame(t, "refused", x, ticked(t), true)
	}
}

// P10.1 to P10.3: one that never was, and those that have left.
func TestOneThatIsInNoSequence(t *testing.T) {
	left := ticked(t)
	for _, m := range tickedOnes() {
		wantErr(t, "Leave", left.Leave(m.thread), api.OK)
	}
	for _, x := range []*turns.Turns{made(t, 1), left, made(t, 2, robin(15, 5)), made(t, 2, plain(15, 31))} {
		was := x.Copy()
		for thread := range api.MaxThreads - 1 {
			for what, way := range ways() {
				for prio := 1; prio <= api.MaxPriority; prio++ {
					wantErr(t, what, way(x, thread, prio), api.ErrNone)
				}
			}
			wantErr(t, "Leave", x.Leave(thread), api.ErrNone)
			wantErr(t, "Yield", x.Yield(thread), api.ErrNone)
		}
		wantSame(t, "refused", x, was, true)
	}
}

// P10.1 to P10.4: ErrNil ahead of all, and else nothing.
func TestNoTurns(t *testing.T) {
	for _, x := range noTurns() {
		for _, thread := range append(noThreads(), 0, 1, 15) {
			for _, prio := range append(noPrios(), 1, 5, 31) {
				for what, way := range ways() {
					wantErr(t, what, way(x, thread, prio), api.ErrNil)
				}
				for what, add := range adds() {
					wantErr(t, what, add(x, thread, prio), api.ErrNil)
				}
				wantOf(t, "none", x, prio)
			}
			wantErr(t, "Leave", x.Leave(thread), api.ErrNil)
			wantErr(t, "Yield", x.Yield(thread), api.ErrNil)
			wantHas(t, "none", x, thread, 0, 0)
		}
		wantNobody(t, "Runs", x.Runs)
		wantNobody(t, "Tick", x.Tick)
		wantTurns(t, "none", x)
		if c := x.Copy(); c != nil {
			t.Errorf("Copy of none is %v", c)
		}
		wantSame(t, "refused", x, nil, true)
	}
}

// The chapter's examples.
func TestExamples(t *testing.T) {
	x := made(t, 2)
	wantErr(t, "Add(1, 5, true)", x.Add(1, 5, true), api.OK)
	wantErr(t, "Add(2, 5, true)", x.Add(2, 5, true), api.OK)
	wantErr(t, "Add(3, 4, false)", x.Add(3, 4, false), api.OK)
	wantErr(t, "Add(1, 5, true)", x.Add(1, 5, true), api.ErrState)
	wantOne(t, "Runs", x.Runs, 1)
	wantNobody(t, "Tick", x.Tick)
	wantOne(t, "Tick", x.Tick, 1)
	wantOne(t, "Runs", x.Runs, 2)
	wantHas(t, "Left(1)", x, 1, 5, 2)
	wantErr(t, "Move(3, 6)", x.Move(3, 6), api.OK)
	wantOne(t, "Runs", x.Runs, 3)
	wantErr(t, "Move(3, 5)", x.Move(3, 5), api.OK)
	wantOf(t, "Move(3, 5)", x, 5, 3, 2, 1)
	wantErr(t, "Lift(1, 7)", x.Lift(1, 7), api.OK)
	wantOne(t, "Runs", x.Runs, 1)
	wantErr(t, "Lift(1, 5)", x.Lift(1, 5), api.OK)
	wantOf(t, "Lift(1, 5)", x, 5, 1, 3, 2)
	wantErr(t, "Yield(1)", x.Yield(1), api.OK)
	wantOf(t, "Yield(1)", x, 5, 3, 2, 1)
}
