package cancel_test

import (
	"fmt"
	"testing"

	"metronome/cancel"
)

// full pushes as many as may be.
func full() []call {
	var calls []call
	for i := range most {
		calls = append(calls, push(i, int64(i)))
	}
	return calls
}

// scenes are cancellations of many kinds, of which no two are the same.
func scenes(t *testing.T) []*cancel.Cancel {
	t.Helper()
	return []*cancel.Cancel{
		fresh(t),
		fresh(t, ask()),
		fresh(t, enable(false)),
		fresh(t, async(true)),
		fresh(t, unwind()),
		fresh(t, ask(), enable(false)),
		fresh(t, ask(), async(true)),
		fresh(t, enable(false), async(true)),
		fresh(t, ask(), enable(false), async(true), unwind()),
		fresh(t, push(0, 0)),
		fresh(t, push(0, 0), push(0, 0)),
		fresh(t, push(1, 0)),
		fresh(t, push(0, 1)),
		fresh(t, push(0, -1)),
		fresh(t, push(31, 1<<32)),
		fresh(t, push(1, 0), push(0, 1)),
		fresh(t, push(0, 1), push(1, 0)),
		fresh(t, push(1, 2), push(3, 4), push(5, 6)),
		fresh(t, push(1, 2), push(5, 6), push(3, 4)),
		fresh(t, push(1, 2), push(3, 4), push(5, 7)),
		fresh(t, push(2, 2), push(3, 4), push(5, 6)),
		fresh(t, push(1, 2), push(3, 4), push(5, 6), unwind()),
		fresh(t, push(1, 2), push(3, 4), push(5, 6), ask(), async(true)),
		fresh(t, full()...),
		fresh(t, append(full(), pop())...),
		fresh(t, append(full(), pop(), push(8, 7))...),
		fresh(t, append(full(), pop(), push(7, 8))...),
		fresh(t, append(full(), unwind())...),
	}
}

// P20.4
func TestNoTwoOfTheScenesAreTheSame(t *testing.T) {
	all, again := scenes(t), scenes(t)
	for i, a := range all {
		for j, b := range again {
			wantSame(t, fmt.Sprint("scenes ", i, " and ", j), a, b, i == j)
		}
		wantSame(t, fmt.Sprint("scene ", i, " and itself"), a, a, true)
	}
}

// P20.4: each of the sixteen kinds, with none, one or two cleanups of two kinds, held against each.
func TestSameOfEachTwo(t *testing.T) {
	stacks := [][]call{
		{}, {push(1, 5)}, {push(2, 4)},
		{push(1, 5), push(1, 5)}, {push(1, 5), push(2, 4)}, {push(2, 4), push(1, 5)}, {push(2, 4), push(2, 4)},
	}
	var all []*cancel.Cancel
	for bits := range 16 {
		for _, stack := range stacks {
			calls := append(flagCalls(bits&1 != 0, bits&2 != 0, bits&4 != 0, bits&8 != 0), stack...)
			all = append(all, fresh(t, calls...))
		}
	}
	for i, a := range all {
		for j, b := range all {
			wantSame(t, fmt.Sprint(i, " and ", j), a, b, i == j)
		}
	}
}

// P20.4: a program, or a value, at each depth, and how many there are.
func TestSameLooksAtEachCleanup(t *testing.T) {
	for lie := 0; lie <= most; lie++ {
		plain := fresh(t, full()[:lie]...)
		wantSame(t, "pushed alike", plain, fresh(t, full()[:lie]...), true)
		for less := range lie {
			wantSame(t, "fewer", plain, fresh(t, full()[:less]...), false)
		}
		for at := range lie {
			for _, other := range []call{push(at+1, int64(at)), push(at, int64(at)+1), push(at, int64(at)+1<<32), push(31-at, int64(at)), push(at, -1-int64(at))} {
				calls := full()[:lie]
				calls[at] = other
				wantSame(t, fmt.Sprint(other.name, " at ", at), plain, fresh(t, calls...), false)
			}
		}
	}
}

// P20.4: two that were brought to the same by unlike calls.
func TestSameByUnlikeCalls(t *testing.T) {
	for _, x := range []struct {
		name string
		a, b []call
	}{
		{"asked once, and twice", []call{ask()}, []call{ask(), ask()}},
		{"enabled, and disabled by the way", nil, []call{enable(false), enable(false), enable(true)}},
		{"at points, and at once by the way", nil, []call{async(true), async(false)}},
		{"set in whatever order", []call{ask(), enable(false), async(true), unwind()}, []call{unwind(), async(true), enable(false), ask()}},
		{"unwound, and refused to be again", []call{unwind()}, []call{unwind(), unwind()}},
		{"never pushed, and popped", nil, []call{push(3, 7), pop()}},
		{"never pushed, and all of as many as may be popped", nil, append(full(), pop(), pop(), pop(), pop(), pop(), pop(), pop(), pop(), pop())},
		{"one had more, which were popped", []call{push(0, 0), push(1, 1)}, append(full(), pop(), pop(), pop(), pop(), pop(), pop())},
		{"one had others above, which were popped", []call{push(4, 4)}, []call{push(4, 4), push(5, -5), push(6, -6), pop(), pop()}},
		{"one had others below, which were popped", []call{push(4, 4)}, []call{push(5, -5), push(6, -6), pop(), pop(), push(4, 4)}},
		{"refused by the way", []call{push(4, 4)}, []call{push(32, 4), push(4, 4), push(-1, 4)}},
		{"as many as may be, and one more was refused", full(), append(full(), push(1, 1), push(-1, 1))},
		{"pushed ahead of Unwind, and behind it", []call{push(4, 4), push(5, 5), unwind()}, []call{push(4, 4), unwind(), push(5, 5)}},
	} {
		wantSame(t, x.name, fresh(t, x.a...), fresh(t, x.b...), true)
	}
}

// P20.4
func TestSameOfNilAndZeroOnes(t *testing.T) {
	for _, x := range none() {
		for _, other := range none() {
			wantSame(t, "none and none", x, other, true)
		}
		for _, one := range scenes(t) {
			wantSame(t, "none and one", x, one, false)
		}
	}
	// One that is all off is one yet.
	for _, x := range none() {
		wantSame(t, "none and one that is all off", x, fresh(t, enable(false)), false)
	}
	wantUnchanged(t, fresh(t, enable(false)), enable(false), "false OK")
}

// changes are calls each of which changes some of the scenes.
func changes() []call {
	return []call{ask(), enable(true), enable(false), async(true), async(false), unwind(), pop(), push(6, 6), push(1, 0)}
}

// P20.4: Copy is the same, and both go on apart, in each part of it.
func TestCopyGoesOnApart(t *testing.T) {
	for i := range scenes(t) {
		for _, x := range changes() {
			c := scenes(t)[i]
			is := stand(c)
			other := c.Copy()
			if other == c {
				t.Fatal("a copy is the one it was made of")
			}
			wantStand(t, "a copy", other, is)
			wantSame(t, "a copy", c, other, true)
			x.do(other)
			wantStand(t, fmt.Sprint("scene ", i, ": ", x.name, " of the copy"), c, is)
			wantSame(t, "the copy went on", c, other, stand(other) == is)
			changed := stand(other)
			x.do(c)
			wantStand(t, fmt.Sprint("scene ", i, ": ", x.name, " of both"), c, changed)
			wantStand(t, "the copy stayed", other, changed)
			wantSame(t, "both went on", c, other, true)
		}
	}
}

// P20.4: each goes on with cleanups of its own, on top of those that both had.
func TestCopyHasItsOwnCleanups(t *testing.T) {
	c := fresh(t, push(1, 1), push(2, 2))
	other := c.Copy()
	after(c, pop(), push(3, 3), push(4, 4))
	after(other, push(5, 5), push(6, 6))
	wantStand(t, "one", c, "-E-- false false 3 [4:4 3:3 1:1]")
	wantStand(t, "its copy", other, "-E-- false false 4 [6:6 5:5 2:2 1:1]")
	all := c.All()
	third := c.Copy()
	after(third, pop(), pop(), pop())
	if n := len(list(c)); n != 3 || third.Len() != 0 {
		t.Errorf("%d and %d are left", n, third.Len())
	}
	for x := range all {
		want(t, c, pop(), cleanupText(x)+" OK")
	}
}

// P20.1, P20.2, P20.3, P20.4: that looking changes nothing.
func TestLookingChangesNothing(t *testing.T) {
	for i, c := range scenes(t) {
		was, is := c.Copy(), stand(c)
		for range 2 {
			c.Asked()
			c.Enabled()
			c.AtOnce()
			c.Acts(true)
			c.Acts(false)
			c.Unwinds()
			c.Len()
			for range c.All() {
				break
			}
			for range c.All() {
			}
			c.Copy()
			cancel.Same(c, was)
			cancel.Same(was, c)
			wantStand(t, fmt.Sprint("scene ", i), c, is)
			wantSame(t, fmt.Sprint("scene ", i), c, was, true)
		}
	}
}
