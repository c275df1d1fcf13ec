package inherit_test

import (
	"math"
	"slices"
	"testing"

	"metronome/api"
	"metronome/inherit"
)

// noGraphs are a nil and a zero one.
func noGraphs() []*inherit.Graph {
	return []*inherit.Graph{nil, {}}
}

// noCounts are numbers of threads that may not be.
func noCounts() []int {
	return []int{0, -1, -2, -15, -16, 17, 18, 31, 32, 256, 257, 1 << 32, 1<<32 + 1, -1 << 32, math.MinInt, math.MinInt + 1, math.MaxInt}
}

// noThreads are numbers that are no threads of a graph of so many.
func noThreads(count int) []int {
	return []int{-1, -2, -15, -16, -17, count, count + 1, max(count, 15), 16, 17, 31, 32, 256, 1 << 32, 1<<32 + 1, -1 << 32, math.MinInt, math.MinInt + 1, math.MaxInt}
}

// noOwners are numbers that are neither threads of a graph of so many nor nobody.
func noOwners(count int) []int {
	return noThreads(count)[1:]
}

// noPrios are numbers that are neither priorities nor 0.
func noPrios() []int {
	return []int{-1, -2, -5, -31, -32, 32, 33, 63, 64, 69, 256, 261, 1 << 32, 1<<32 + 5, -1 << 32, math.MinInt, math.MinInt + 5, math.MaxInt}
}

// somePrios are priorities, the edges among them.
func somePrios() []int {
	return []int{0, 1, 2, 15, 16, 30, 31}
}

// someCounts are numbers of threads, the edges among them.
func someCounts() []int {
	return []int{1, 2, 3, 4, 8, 15, 16}
}

func wantErr(t *testing.T, what string, got, want api.Errno) {
	t.Helper()
	if got != want {
		t.Errorf("%s: %v, want %v", what, got, want)
	}
}

// made is a graph of so many threads.
func made(t *testing.T, count int) *inherit.Graph {
	t.Helper()
	g, err := inherit.New(count)
	if err != api.OK || g == nil {
		t.Fatalf("New(%d): %v, %v", count, g, err)
	}
	return g
}

// based is a graph of threads with those bases.
func based(t *testing.T, bases ...int) *inherit.Graph {
	t.Helper()
	g := made(t, len(bases))
	for i, prio := range bases {
		wantErr(t, "Base", g.Base(i, prio), api.OK)
	}
	return g
}

// waiting lets threads wait for those, one behind the other, from thread 0 on.
func waiting(t *testing.T, g *inherit.Graph, owners ...int) {
	t.Helper()
	for i, owner := range owners {
		wantErr(t, "Waits", g.Waits(i, owner), api.OK)
	}
}

// row lets each of those wait for the next one.
func row(t *testing.T, g *inherit.Graph, threads ...int) {
	t.Helper()
	for i := 1; i < len(threads); i++ {
		wantErr(t, "Waits", g.Waits(threads[i-1], threads[i]), api.OK)
	}
}

// upTo is 0 to below that number; falling the same the other way round.
func upTo(count int) []int {
	var list []int
	for i := range count {
		list = append(list, i)
	}
	return list
}

func falling(count int) []int {
	list := upTo(count)
	slices.Reverse(list)
	return list
}

// wantAll asks of All and Of that they say just that.
func wantAll(t *testing.T, what string, g *inherit.Graph, want ...int) {
	t.Helper()
	if got := g.All(); !slices.Equal(got, want) {
		t.Errorf("%s: All is %v, want %v", what, got, want)
	}
	for i, prio := range want {
		if got, ok := g.Of(i); got != prio || !ok {
			t.Errorf("%s: Of(%d) is %d, %v, want %d, true", what, i, got, ok, prio)
		}
	}
}

func wantFor(t *testing.T, what string, g *inherit.Graph, thread int, want ...int) {
	t.Helper()
	if got := slices.Collect(g.For(thread)); !slices.Equal(got, want) {
		t.Errorf("%s: For(%d) goes over %v, want %v", what, thread, got, want)
	}
}

// wantRing asks for that ring; none is that the thread is not one of a ring.
func wantRing(t *testing.T, what string, g *inherit.Graph, thread int, want ...int) {
	t.Helper()
	got, in := g.Ring(thread)
	if !slices.Equal(got, want) || in != (len(want) > 0) {
		t.Errorf("%s: Ring(%d) is %v, %v, want %v", what, thread, got, in, want)
	}
}

func wantSame(t *testing.T, what string, a, b *inherit.Graph, want bool) {
	t.Helper()
	if inherit.Same(a, b) != want || inherit.Same(b, a) != want {
		t.Errorf("%s: Same is %v, %v, want %v", what, inherit.Same(a, b), inherit.Same(b, a), want)
	}
}

// P12.1, P12.2
func TestANewOneHasNoughts(t *testing.T) {
	for count := 1; count <= 16; count++ {
		g := made(t, count)
		wantAll(t, "new", g, make([]int, count)...)
		for i := range count {
			wantFor(t, "new", g, i)
			wantRing(t, "new", g, i)
		}
		if got, ok := g.Of(count); got != 0 || ok {
			t.Errorf("Of(%d) of %d threads: %d, %v", count, count, got, ok)
		}
	}
}

// P12.1
func TestNewRefusesNumbersOfThreads(t *testing.T) {
	for _, count := range noCounts() {
		if g, err := inherit.New(count); g != nil || err != api.ErrArg {
			t.Errorf("New(%d): %v, %v", count, g, err)
		}
	}
}

// P12.1, P12.2: each thread of graphs, with each base and ceiling.
func TestEachThreadHasEachBaseAndCeiling(t *testing.T) {
	for _, count := range someCounts() {
		for thread := range count {
			g := made(t, count)
			want := make([]int, count)
			for prio := 0; prio <= 31; prio++ {
				wantErr(t, "Base", g.Base(thread, prio), api.OK)
				want[thread] = prio
				wantAll(t, "Base", g, want...)
			}
			wantErr(t, "Base", g.Base(thread, 0), api.OK)
			for prio := 31; prio >= 0; prio-- {
				wantErr(t, "Ceiling", g.Ceiling(thread, prio), api.OK)
				want[thread] = prio
				wantAll(t, "Ceiling", g, want...)
			}
			wantSame(t, "all set to 0 again", g, made(t, count), true)
		}
	}
}

// P12.1, P12.2: below, at and beyond the base; both are kept, whichever is greater.
func TestACeilingBesideABase(t *testing.T) {
	for _, base := range somePrios() {
		for _, ceiling := range somePrios() {
			g := based(t, 3, base, 4)
			wantErr(t, "Ceiling", g.Ceiling(1, ceiling), api.OK)
			wantAll(t, "both", g, 3, max(base, ceiling), 4)
			wantErr(t, "Base", g.Base(1, 0), api.OK)
			wantAll(t, "the ceiling alone", g, 3, ceiling, 4)
			wantErr(t, "Base", g.Base(1, base), api.OK)
			wantErr(t, "Ceiling", g.Ceiling(1, 0), api.OK)
			wantAll(t, "the base alone", g, 3, base, 4)
		}
	}
}

// P12.1, P12.2: the chapter's example.
func TestTheExample(t *testing.T) {
	g := based(t, 1, 5, 3, 2)
	wantErr(t, "Waits", g.Waits(1, 0), api.OK)
	wantAll(t, "1 waits for 0", g, 5, 5, 3, 2)
	wantErr(t, "Waits", g.Waits(0, 3), api.OK)
	wantErr(t, "Waits", g.Waits(2, 3), api.OK)
	wantAll(t, "0 and 2 wait for 3", g, 5, 5, 3, 5)
	wantFor(t, "0 and 2 wait for 3", g, 3, 0, 2)
	wantErr(t, "Ceiling", g.Ceiling(3, 7), api.OK)
	wantAll(t, "a ceiling", g, 5, 5, 3, 7)
	wantErr(t, "Waits", g.Waits(3, 0), api.OK)
	wantRing(t, "3 waits for 0", g, 3, 3, 0)
	wantAll(t, "3 waits for 0", g, 7, 5, 3, 7)
	wantErr(t, "Waits", g.Waits(0, 4), api.ErrArg)
	wantErr(t, "Base", g.Base(0, 32), api.ErrArg)
	wantAll(t, "refused", g, 7, 5, 3, 7)
	if g, err := inherit.New(0); g != nil || err != api.ErrArg {
		t.Errorf("New(0): %v, %v", g, err)
	}
}

// P12.1, P12.2: each thread waits for each one, itself among them, and is the only one that waits.
func TestEachMayWaitForEach(t *testing.T) {
	for _, count := range someCounts() {
		for thread := range count {
			for owner := range count {
				g := made(t, count)
				want := make([]int, count)
				wantErr(t, "Base", g.Base(thread, 9), api.OK)
				wantErr(t, "Waits", g.Waits(thread, owner), api.OK)
				want[thread], want[owner] = 9, 9
				wantAll(t, "one waits", g, want...)
				for other := range count {
					if other == owner {
						wantFor(t, "one waits", g, other, thread)
					} else {
						wantFor(t, "one waits", g, other)
					}
					if other == thread && other == owner {
						wantRing(t, "one waits for itself", g, other, other)
					} else {
						wantRing(t, "one waits", g, other)
					}
				}
				wantErr(t, "Waits", g.Waits(thread, -1), api.OK)
				want[owner] = 0
				want[thread] = 9
				wantAll(t, "nobody waits", g, want...)
				wantFor(t, "nobody waits", g, owner)
			}
		}
	}
}

// P12.1, P12.2: a greater thread than those that wait for it gets nothing, a lesser one the greatest.
func TestAllWaitForOne(t *testing.T) {
	for _, count := range []int{2, 5, 16} {
		for owner := range count {
			for _, base := range []int{0, 7, 31} {
				g := made(t, count)
				want := make([]int, count)
				var wait []int
				for i := range count {
					if want[i] = base; i != owner {
						want[i] = i + 3
						wait = append(wait, i)
						wantErr(t, "Waits", g.Waits(i, owner), api.OK)
					}
					wantErr(t, "Base", g.Base(i, want[i]), api.OK)
				}
				want[owner] = max(base, slices.Max(want))
				wantAll(t, "all others wait for one", g, want...)
				wantFor(t, "all others wait for one", g, owner, wait...)
				wantRing(t, "all others wait for one", g, owner)

				wantErr(t, "Waits", g.Waits(owner, owner), api.OK)
				wantAll(t, "all wait for one", g, want...)
				wantFor(t, "all wait for one", g, owner, upTo(count)...)
				for i := range count {
					if i == owner {
						wantRing(t, "all wait for one", g, i, i)
					} else {
						wantRing(t, "all wait for one", g, i)
						wantFor(t, "all wait for one", g, i)
					}
				}
			}
		}
	}
}

// P12.1, P12.2: who waits for itself has what it has itself, and hands it to nobody else.
func TestOneWaitsForItself(t *testing.T) {
	g := based(t, 4)
	wantErr(t, "Waits", g.Waits(0, 0), api.OK)
	wantAll(t, "the only one", g, 4)
	wantRing(t, "the only one", g, 0, 0)
	wantFor(t, "the only one", g, 0, 0)
	wantErr(t, "Ceiling", g.Ceiling(0, 31), api.OK)
	wantAll(t, "a ceiling", g, 31)
	wantErr(t, "Ceiling", g.Ceiling(0, 0), api.OK)
	wantAll(t, "no ceiling", g, 4)
	wantErr(t, "Base", g.Base(0, 0), api.OK)
	wantAll(t, "no base", g, 0)
	wantErr(t, "Waits", g.Waits(0, -1), api.OK)
	wantRing(t, "it waits no more", g, 0)
}

// P12.2, P12.4: a row through all threads, in rising and in falling order of their numbers; the greatest is anywhere in it.
func TestARowThroughAll(t *testing.T) {
	for _, count := range []int{2, 3, 8, 16} {
		for _, order := range [][]int{upTo(count), falling(count)} {
			for place, greatest := range order {
				g := based(t, slices.Repeat([]int{5}, count)...)
				row(t, g, order...)
				wantErr(t, "Base", g.Base(greatest, 20), api.OK)
				want := make([]int, count)
				for i, thread := range order {
					want[thread] = 5
					if i >= place {
						want[thread] = 20
					}
				}
				wantAll(t, "a row", g, want...)
				for i, thread := range order {
					wantRing(t, "a row", g, thread)
					if i == 0 {
						wantFor(t, "a row", g, thread)
					} else {
						wantFor(t, "a row", g, thread, order[i-1])
					}
				}
			}
		}
	}
}

// P12.2, P12.4: each of a row has a greater one, or a lesser one, than the one that waits for it.
func TestARowOfUnlikeOnes(t *testing.T) {
	for _, order := range [][]int{upTo(16), falling(16)} {
		up, down := made(t, 16), made(t, 16)
		wantUp, wantDown := make([]int, 16), make([]int, 16)
		for i, thread := range order {
			wantErr(t, "Base", up.Base(thread, i+4), api.OK)
			wantErr(t, "Ceiling", down.Ceiling(thread, 31-i), api.OK)
			wantUp[thread], wantDown[thread] = i+4, 31
		}
		row(t, up, order...)
		row(t, down, order...)
		wantAll(t, "rising along the row", up, wantUp...)
		wantAll(t, "falling along the row", down, wantDown...)
	}
}

// P12.2: rows that run together: each number goes no further than there is a lesser one.
func TestRowsThatRunTogether(t *testing.T) {
	g := based(t, 6, 2, 9, 1, 3, 4, 20)
	waiting(t, g, 1, 3, 3, 5, 5, 6, -1)
	wantAll(t, "a tree", g, 6, 6, 9, 9, 3, 9, 20)
	wantFor(t, "a tree", g, 3, 1, 2)
	wantFor(t, "a tree", g, 5, 3, 4)
	wantErr(t, "Base", g.Base(4, 31), api.OK)
	wantAll(t, "a greater one", g, 6, 6, 9, 9, 31, 31, 31)
	wantErr(t, "Waits", g.Waits(4, 0), api.OK)
	wantAll(t, "it waits elsewhere", g, 31, 31, 9, 31, 31, 31, 31)
	wantErr(t, "Waits", g.Waits(4, -1), api.OK)
	wantAll(t, "it waits no more", g, 6, 6, 9, 9, 31, 9, 20)
}

// P12.2, P12.4: a ring is told from where one asks on.
func TestRings(t *testing.T) {
	for _, count := range []int{1, 2, 3, 7, 16} {
		for _, order := range [][]int{upTo(count), falling(count)} {
			for _, greatest := range order {
				g := based(t, slices.Repeat([]int{2}, count)...)
				row(t, g, append(slices.Clone(order), order[0])...)
				wantErr(t, "Ceiling", g.Ceiling(greatest, 17), api.OK)
				wantAll(t, "a ring", g, slices.Repeat([]int{17}, count)...)
				for i, thread := range order {
					wantRing(t, "a ring", g, thread, append(slices.Clone(order[i:]), order[:i]...)...)
				}
				wantErr(t, "Ceiling", g.Ceiling(greatest, 1), api.OK)
				wantAll(t, "a ring whose ceiling is less", g, slices.Repeat([]int{2}, count)...)
				wantErr(t, "Waits", g.Waits(greatest, -1), api.OK)
				for _, thread := range order {
					wantRing(t, "a ring that is broken", g, thread)
				}
			}
		}
	}
}

// P12.2: a ring that goes to and fro in the numbers.
func TestARingToAndFro(t *testing.T) {
	g := based(t, 1, 2, 3, 4, 5, 6)
	row(t, g, 4, 0, 3, 1, 4)
	wantRing(t, "to and fro", g, 0, 0, 3, 1, 4)
	wantRing(t, "to and fro", g, 1, 1, 4, 0, 3)
	wantRing(t, "to and fro", g, 3, 3, 1, 4, 0)
	wantRing(t, "to and fro", g, 4, 4, 0, 3, 1)
	wantRing(t, "beside it", g, 2)
	wantAll(t, "to and fro", g, 5, 5, 3, 5, 5, 6)
}

// P12.2, P12.4: who leads into a ring is none of it; what it has goes to all of the ring, and not back.
func TestThoseThatLeadIntoARing(t *testing.T) {
	g := based(t, 1, 2, 3, 4, 5)
	waiting(t, g, 1, 2, 1, 0, 2)
	wantAll(t, "a ring of 1 and 2", g, 4, 5, 5, 4, 5)
	wantRing(t, "it", g, 1, 1, 2)
	wantRing(t, "it", g, 2, 2, 1)
	for _, thread := range []int{0, 3, 4} {
		wantRing(t, "who leads into it", g, thread)
	}
	wantErr(t, "Base", g.Base(3, 9), api.OK)
	wantAll(t, "one far ahead of it", g, 9, 9, 9, 9, 5)
	wantErr(t, "Base", g.Base(3, 0), api.OK)
	wantErr(t, "Base", g.Base(2, 30), api.OK)
	wantAll(t, "one of it", g, 1, 30, 30, 0, 5)
}

// P12.2: all lead into a ring of the last ones, one behind the other.
func TestALongRowIntoARing(t *testing.T) {
	for _, order := range [][]int{upTo(16), falling(16)} {
		for back := range order {
			g := made(t, 16)
			row(t, g, append(slices.Clone(order), order[back])...)
			ring := order[back:]
			for i, thread := range order {
				if i < back {
					wantRing(t, "ahead of it", g, thread)
					continue
				}
				wantRing(t, "one of it", g, thread, append(slices.Clone(order[i:]), order[back:i]...)...)
			}
			wantErr(t, "Base", g.Base(order[0], 8), api.OK)
			wantAll(t, "the first one's number", g, slices.Repeat([]int{8}, 16)...)
			wantErr(t, "Base", g.Base(order[0], 0), api.OK)
			wantErr(t, "Base", g.Base(order[15], 8), api.OK)
			want := make([]int, 16)
			for _, thread := range ring {
				want[thread] = 8
			}
			wantAll(t, "the last one's number", g, want...)
		}
	}
}

// P12.2, P12.4
func TestTwoRingsInOneGraph(t *testing.T) {
	g := based(t, 1, 2, 3, 4, 5, 6, 7)
	waiting(t, g, 2, 3, 4, 1, 0, 3, 6)
	wantAll(t, "three rings", g, 5, 6, 5, 6, 5, 6, 7)
	wantRing(t, "the first one", g, 0, 0, 2, 4)
	wantRing(t, "the first one", g, 4, 4, 0, 2)
	wantRing(t, "the second one", g, 1, 1, 3)
	wantRing(t, "the second one", g, 3, 3, 1)
	wantRing(t, "who leads to it", g, 5)
	wantRing(t, "one by itself", g, 6, 6)
	wantErr(t, "Waits", g.Waits(4, 1), api.OK)
	wantAll(t, "the first one leads to the second one", g, 1, 6, 3, 6, 5, 6, 7)
	wantRing(t, "no ring any more", g, 0)
	wantErr(t, "Waits", g.Waits(3, 0), api.OK)
	wantRing(t, "both are one", g, 0, 0, 2, 4, 1, 3)
	wantAll(t, "both are one", g, 6, 6, 6, 6, 6, 6, 7)
}

// P12.1, P12.2: what was handed on is gone with the waiting, the base or the ceiling from which it came.
func TestWhatWasHandedOnGoesAgain(t *testing.T) {
	g := based(t, 10, 1, 2, 3)
	waiting(t, g, 1, 2)
	wantAll(t, "a row of three", g, 10, 10, 10, 3)
	wantErr(t, "Waits", g.Waits(0, 3), api.OK)
	wantAll(t, "another owner", g, 10, 1, 2, 10)
	wantErr(t, "Waits", g.Waits(0, -1), api.OK)
	wantAll(t, "nobody", g, 10, 1, 2, 3)
	wantErr(t, "Waits", g.Waits(0, 1), api.OK)
	wantErr(t, "Base", g.Base(0, 2), api.OK)
	wantAll(t, "a lower base", g, 2, 2, 2, 3)
	wantErr(t, "Ceiling", g.Ceiling(0, 31), api.OK)
	wantAll(t, "a ceiling", g, 31, 31, 31, 3)
	wantErr(t, "Ceiling", g.Ceiling(0, 5), api.OK)
	wantAll(t, "a lower ceiling", g, 5, 5, 5, 3)
	wantErr(t, "Ceiling", g.Ceiling(0, 0), api.OK)
	wantAll(t, "no ceiling", g, 2, 2, 2, 3)
	wantErr(t, "Base", g.Base(0, 0), api.OK)
	wantAll(t, "no base", g, 0, 1, 2, 3)
}

// P12.1: the order of the calls is nothing to what comes of them.
func TestWaitingFirstAndThenBases(t *testing.T) {
	g := made(t, 3)
	waiting(t, g, 1, 2, 0)
	wantErr(t, "Base", g.Base(1, 6), api.OK)
	wantAll(t, "a base in a ring", g, 6, 6, 6)
	wantErr(t, "Ceiling", g.Ceiling(2, 8), api.OK)
	wantAll(t, "a ceiling in a ring", g, 8, 8, 8)
	wantErr(t, "Waits", g.Waits(2, -1), api.OK)
	wantAll(t, "a row", g, 0, 6, 8)
}

// P12.2
func TestForIsLeftAnywhereAndGoneOverAgain(t *testing.T) {
	g := made(t, 16)
	for thread := range 16 {
		wantErr(t, "Waits", g.Waits(thread, 7), api.OK)
	}
	over := g.For(7)
	for _, end := range []int{1, 2, 8, 15, 16} {
		for range 2 {
			var got []int
			for thread := range over {
				if got = append(got, thread); len(got) == end {
					break
				}
			}
			if !slices.Equal(got, upTo(end)) {
				t.Errorf("For left at the %dth: %v", end, got)
			}
		}
	}
	for range 3 {
		if got := slices.Collect(over); !slices.Equal(got, upTo(16)) {
			t.Errorf("For gone over again: %v", got)
		}
	}
	asked := 0
	over(func(int) bool { asked++; return false })
	if asked != 1 {
		t.Errorf("For goes on %d times where it is left", asked-1)
	}
}

// P12.2
func TestForWithinFor(t *testing.T) {
	g := made(t, 4)
	waiting(t, g, 3, 3, 0, 3)
	var got []int
	over := g.For(3)
	for a := range over {
		for b := range over {
			got = append(got, 10*a+b)
		}
	}
	if !slices.Equal(got, []int{0, 1, 3, 10, 11, 13, 30, 31, 33}) {
		t.Errorf("For within For: %v", got)
	}
}

// P12.2: it goes over those who wait when it is called, not when it is gone over.
func TestForIsAsWhenItIsCalled(t *testing.T) {
	g := made(t, 5)
	waiting(t, g, 4, 4, 1)
	before, none := g.For(4), g.For(0)
	waiting(t, g, -1, 0, 4, 4, 0)
	wantList := func(what string, got []int, want ...int) {
		t.Helper()
		if !slices.Equal(got, want) {
			t.Errorf("%s: %v, want %v", what, got, want)
		}
	}
	for range 2 {
		wantList("two waited", slices.Collect(before), 0, 1)
		wantList("nobody waited", slices.Collect(none))
	}
	wantFor(t, "now", g, 4, 2, 3)
	wantFor(t, "now", g, 0, 1, 4)
	var got []int
	for thread := range g.For(4) {
		got = append(got, thread)
		waiting(t, g, 4, 4, -1, -1, 4)
	}
	wantList("changed by the way", got, 2, 3)
	wantList("called long ago", slices.Collect(before), 0, 1)
}

// P12.2
func TestLooksOfOnesThatMayNotBe(t *testing.T) {
	for _, count := range someCounts() {
		g := made(t, count)
		for thread := range count {
			wantErr(t, "Base", g.Base(thread, 9), api.OK)
			wantErr(t, "Waits", g.Waits(thread, thread), api.OK)
		}
		other := g.Copy()
		for _, thread := range noThreads(count) {
			if got, ok := g.Of(thread); got != 0 || ok {
				t.Errorf("Of(%d) of %d threads: %d, %v", thread, count, got, ok)
			}
			wantFor(t, "none", g, thread)
			wantRing(t, "none", g, thread)
		}
		wantSame(t, "looked at", g, other, true)
	}
}

// P12.2: -1 is for whom those wait who do not: it is no thread for all that.
func TestNobodyIsNoThread(t *testing.T) {
	g := made(t, 3)
	wantErr(t, "Base", g.Base(1, 4), api.OK)
	wantFor(t, "nobody waits", g, -1)
	wantRing(t, "nobody waits", g, -1)
	wantErr(t, "Base", g.Base(-1, 4), api.ErrArg)
	wantErr(t, "Ceiling", g.Ceiling(-1, 4), api.ErrArg)
	wantErr(t, "Waits", g.Waits(-1, -1), api.ErrArg)
	wantAll(t, "nobody waits", g, 0, 4, 0)
}

// P12.1: what is refused changes nothing.
func TestWrongCallsAreRefused(t *testing.T) {
	for _, count := range someCounts() {
		g := made(t, count)
		wantErr(t, "Base", g.Base(0, 3), api.OK)
		wantErr(t, "Ceiling", g.Ceiling(0, 5), api.OK)
		wantErr(t, "Waits", g.Waits(0, count-1), api.OK)
		other := g.Copy()
		for _, thread := range noThreads(count) {
			for _, prio := range append(somePrios(), noPrios()...) {
				wantErr(t, "Base", g.Base(thread, prio), api.ErrArg)
				wantErr(t, "Ceiling", g.Ceiling(thread, prio), api.ErrArg)
			}
			for _, owner := range append(noOwners(count), -1, 0, count-1) {
				wantErr(t, "Waits", g.Waits(thread, owner), api.ErrArg)
			}
		}
		for thread := range count {
			for _, prio := range noPrios() {
				wantErr(t, "Base", g.Base(thread, prio), api.ErrArg)
				wantErr(t, "Ceiling", g.Ceiling(thread, prio), api.ErrArg)
			}
			for _, owner := range noOwners(count) {
				wantErr(t, "Waits", g.Waits(thread, owner), api.ErrArg)
			}
		}
		wantSame(t, "refused", g, other, true)
		wantFor(t, "refused", g, count-1, 0)
		if got, _ := g.Of(count - 1); got != 5 {
			t.Errorf("Of(%d) is %d behind what was refused", count-1, got)
		}
	}
}

// P12.1, P12.2, P12.3: of no graph all is refused, ahead of all else, and looks are zero.
func TestNoGraph(t *testing.T) {
	for _, g := range noGraphs() {
		for _, thread := range append(noThreads(1), 0, 1, 15) {
			for _, prio := range append(somePrios(), noPrios()...) {
				wantErr(t, "Base", g.Base(thread, prio), api.ErrNil)
				wantErr(t, "Ceiling", g.Ceiling(thread, prio), api.ErrNil)
				wantErr(t, "Waits", g.Waits(thread, prio), api.ErrNil)
			}
			if got, ok := g.Of(thread); got != 0 || ok {
				t.Errorf("Of(%d): %d, %v", thread, got, ok)
			}
			wantFor(t, "no graph", g, thread)
			wantRing(t, "no graph", g, thread)
		}
		if got := g.All(); len(got) != 0 {
			t.Errorf("All: %v", got)
		}
		if got := g.Copy(); got != nil {
			t.Errorf("Copy: %v", got)
		}
		for _, other := range noGraphs() {
			wantSame(t, "no graphs", g, other, true)
		}
		for _, count := range someCounts() {
			wantSame(t, "no graph and one", g, made(t, count), false)
		}
	}
}

// P12.2: answers are the caller's.
func TestAnswersAreTheCallers(t *testing.T) {
	g := based(t, 4, 6, 5)
	waiting(t, g, 1, 0, 1)
	other := g.Copy()
	all, over := g.All(), g.For(1)
	ring, _ := g.Ring(0)
	gone := slices.Collect(over)
	for _, list := range [][]int{all, ring, gone} {
		for i := range list {
			list[i] = 31
		}
		_ = append(list[:0], 30, 30)
	}
	wantAll(t, "its answers were changed", g, 6, 6, 5)
	wantRing(t, "its answers were changed", g, 0, 0, 1)
	wantFor(t, "its answers were changed", g, 1, 0, 2)
	if got := slices.Collect(over); !slices.Equal(got, []int{0, 2}) {
		t.Errorf("For gone over again: %v", got)
	}
	wantSame(t, "its answers were changed", g, other, true)
	first, second := g.All(), g.All()
	first[0] = 1
	if second[0] != 6 {
		t.Error("two answers of All share memory")
	}
	one, _ := g.Ring(0)
	two, _ := g.Ring(0)
	one[0] = 9
	if two[0] != 0 {
		t.Error("two answers of Ring share memory")
	}
}

// P12.2: looking changes nothing.
func TestLookingChangesNothing(t *testing.T) {
	g := based(t, 1, 9, 5, 0)
	waiting(t, g, 3, 0, 2)
	other := g.Copy()
	for range 3 {
		wantAll(t, "looked at", g, 9, 9, 5, 9)
		for thread := range 4 {
			for range g.For(thread) {
			}
			g.Ring(thread)
		}
		g.Copy()
		wantSame(t, "looked at", g, other, true)
	}
	wantErr(t, "Waits", g.Waits(1, -1), api.OK)
	wantAll(t, "nothing was kept of it", g, 1, 9, 5, 1)
}

// P12.3
func TestACopyGoesOnApart(t *testing.T) {
	g := based(t, 1, 2, 3)
	waiting(t, g, -1, 0)
	wantErr(t, "Ceiling", g.Ceiling(1, 8), api.OK)
	c := g.Copy()
	wantSame(t, "a copy", g, c, true)
	wantAll(t, "a copy", c, 8, 8, 3)
	wantFor(t, "a copy", c, 0, 1)

	wantErr(t, "Base", c.Base(0, 31), api.OK)
	wantErr(t, "Waits", c.Waits(1, 1), api.OK)
	wantErr(t, "Ceiling", c.Ceiling(1, 0), api.OK)
	wantAll(t, "the copy went on", c, 31, 2, 3)
	wantRing(t, "the copy went on", c, 1, 1)
	wantAll(t, "the copy went on: the first one", g, 8, 8, 3)
	wantRing(t, "the copy went on: the first one", g, 1)
	wantSame(t, "the copy went on", g, c, false)

	d := g.Copy()
	wantErr(t, "Waits", g.Waits(2, 1), api.OK)
	wantErr(t, "Base", g.Base(2, 9), api.OK)
	wantAll(t, "the first one went on", g, 9, 9, 9)
	wantAll(t, "the first one went on: the copy", d, 8, 8, 3)
	wantSame(t, "the first one went on", g, d, false)
	wantErr(t, "Waits", d.Waits(2, 1), api.OK)
	wantErr(t, "Base", d.Base(2, 9), api.OK)
	wantSame(t, "both went the same way", g, d, true)
}

// P12.3: one number alone tells them apart, also where all effective priorities are the same.
func TestSameTellsEachThingApart(t *testing.T) {
	for _, count := range someCounts() {
		for _, other := range someCounts() {
			wantSame(t, "numbers of threads", made(t, count), made(t, other), count == other)
		}
		for thread := range count {
			g, c := made(t, count), made(t, count)
			for i := range count {
				wantErr(t, "Base", g.Base(i, 20), api.OK)
				wantErr(t, "Base", c.Base(i, 20), api.OK)
			}
			wantErr(t, "Base", g.Base(thread, 19), api.OK)
			wantSame(t, "a base", g, c, false)
			wantErr(t, "Base", g.Base(thread, 20), api.OK)
			wantSame(t, "the same base", g, c, true)
			wantErr(t, "Ceiling", g.Ceiling(thread, 1), api.OK)
			wantSame(t, "a ceiling below the base", g, c, false)
			wantErr(t, "Ceiling", c.Ceiling(thread, 1), api.OK)
			wantSame(t, "the same ceiling", g, c, true)
			for owner := range count {
				wantErr(t, "Waits", g.Waits(thread, owner), api.OK)
				wantSame(t, "one waits", g, c, false)
				if !slices.Equal(g.All(), c.All()) {
					t.Errorf("All is %v and %v", g.All(), c.All())
				}
				wantErr(t, "Waits", c.Waits(thread, (owner+1)%count), api.OK)
				wantSame(t, "for another one", g, c, count == 1)
				wantErr(t, "Waits", c.Waits(thread, -1), api.OK)
			}
			wantErr(t, "Waits", g.Waits(thread, -1), api.OK)
			wantSame(t, "it waits no more", g, c, true)
		}
	}
}

// P12.3: whatever the threads have that the other graph does not have.
func TestSameTellsNumbersOfThreadsApart(t *testing.T) {
	for _, count := range someCounts() {
		for _, other := range someCounts() {
			for owner := -1; owner < min(count, other); owner++ {
				g, c := made(t, count), made(t, other)
				waiting(t, g, slices.Repeat([]int{owner}, count)...)
				waiting(t, c, slices.Repeat([]int{owner}, other)...)
				wantSame(t, "all wait for one", g, c, count == other)
				for thread := range count {
					wantErr(t, "Waits", g.Waits(thread, thread), api.OK)
				}
				for thread := range other {
					wantErr(t, "Waits", c.Waits(thread, thread), api.OK)
				}
				wantSame(t, "all wait for themselves", g, c, count == other)
			}
			g, c := made(t, count), made(t, other)
			for thread := min(count, other); thread < max(count, other); thread++ {
				g.Waits(thread, 0)
				c.Waits(thread, 0)
			}
			wantSame(t, "those beyond wait for the first one", g, c, count == other)
		}
	}
}

// P12.3: a base is no ceiling, though both come to the same.
func TestSameTellsBasesFromCeilings(t *testing.T) {
	g, c := made(t, 2), made(t, 2)
	wantErr(t, "Base", g.Base(1, 6), api.OK)
	wantErr(t, "Ceiling", c.Ceiling(1, 6), api.OK)
	wantAll(t, "a base", g, 0, 6)
	wantAll(t, "a ceiling", c, 0, 6)
	wantSame(t, "a base and a ceiling", g, c, false)
}

// P12.3: what was done is nothing to Same.
func TestSameByUnlikeCalls(t *testing.T) {
	g := based(t, 1, 2, 3, 4)
	waiting(t, g, 1, 2, 0, 3)
	wantErr(t, "Ceiling", g.Ceiling(2, 9), api.OK)

	c := made(t, 4)
	waiting(t, c, 3, 3, 3, 3)
	wantErr(t, "Ceiling", c.Ceiling(2, 31), api.OK)
	wantErr(t, "Ceiling", c.Ceiling(0, 30), api.OK)
	wantErr(t, "Base", c.Base(0, 29), api.OK)
	c.All()
	wantErr(t, "Waits", c.Waits(0, 4), api.ErrArg)
	for thread := range 4 {
		wantErr(t, "Base", c.Base(thread, thread+1), api.OK)
	}
	wantErr(t, "Waits", c.Waits(2, -1), api.OK)
	row(t, c, 2, 0, 1, 2)
	wantErr(t, "Ceiling", c.Ceiling(2, 9), api.OK)
	wantSame(t, "a ceiling too many", g, c, false)
	wantErr(t, "Ceiling", c.Ceiling(0, 0), api.OK)
	wantSame(t, "brought to the same", g, c, true)
	wantAll(t, "brought to the same", c, 9, 9, 9, 4)
}
