package cancel_test

import (
	"fmt"
	"math"
	"slices"
	"testing"

	"metronome/api"
)

// values are the least value, the greatest one, and some between.
func values() []int64 {
	return []int64{math.MinInt64, math.MinInt64 + 1, -1 << 32, -1, 0, 1, 31, 32, 1 << 31, 1 << 32, math.MaxInt64 - 1, math.MaxInt64}
}

// P20.3: each program that may be, with each value: it lies on top, and is popped as it was pushed.
func TestPushOfEachProgramAndValue(t *testing.T) {
	for program := 0; program <= last; program++ {
		for _, value := range values() {
			c := fresh(t, push(5, 6))
			want(t, c, push(program, value), "OK")
			wantStand(t, "Push", c, fmt.Sprintf("-E-- false false 2 [%d:%d 5:6]", program, value))
			want(t, c, pop(), fmt.Sprintf("%d:%d OK", program, value))
			wantStand(t, "Pop", c, "-E-- false false 1 [5:6]")
		}
	}
}

// P20.3: none, one, as many as may be, and one more; then all of them are popped, and one more.
func TestAsManyAsMayBe(t *testing.T) {
	c := fresh(t)
	var lie []api.Cleanup
	for i := range most {
		wantStand(t, "pushed", c, fmt.Sprint("-E-- false false ", i, " ", listText(lie)))
		x := cleanup(last-i, int64(i)-3)
		want(t, c, push(x.Program, x.Value), "OK")
		lie = slices.Insert(lie, 0, x)
	}
	for _, x := range lie {
		wantUnchanged(t, c, push(x.Program, x.Value), "ErrFull")
	}
	wantUnchanged(t, c, push(0, 0), "ErrFull")
	wantUnchanged(t, c, push(last, math.MaxInt64), "ErrFull")
	for i, x := range lie {
		wantStand(t, "popped", c, fmt.Sprint("-E-- false false ", most-i, " ", listText(lie[i:])))
		want(t, c, pop(), cleanupText(x)+" OK")
	}
	wantUnchanged(t, c, pop(), "0:0 ErrNone")
	wantUnchanged(t, c, pop(), "0:0 ErrNone")
	wantSame(t, "all were popped", c, fresh(t), true)
}

// P20.3: what is pushed again behind popping, where it is empty, where it is full, and between.
func TestPushBehindPop(t *testing.T) {
	wantSteps(t, fresh(t),
		step{push(1, 10), "OK", "-E-- false false 1 [1:10]"},
		step{pop(), "1:10 OK", "-E-- false false 0 []"},
		step{push(2, 20), "OK", "-E-- false false 1 [2:20]"},
		step{push(3, 30), "OK", "-E-- false false 2 [3:30 2:20]"},
		step{pop(), "3:30 OK", "-E-- false false 1 [2:20]"},
		step{push(4, 40), "OK", "-E-- false false 2 [4:40 2:20]"},
		step{push(4, 40), "OK", "-E-- false false 3 [4:40 4:40 2:20]"},
		step{pop(), "4:40 OK", "-E-- false false 2 [4:40 2:20]"},
		step{pop(), "4:40 OK", "-E-- false false 1 [2:20]"},
		step{pop(), "2:20 OK", "-E-- false false 0 []"},
		step{pop(), "0:0 ErrNone", "-E-- false false 0 []"},
		step{push(0, 0), "OK", "-E-- false false 1 [0:0]"},
		step{pop(), "0:0 OK", "-E-- false false 0 []"},
	)
	c := fresh(t)
	for i := range most {
		after(c, push(i, 1))
	}
	for i := range 20 {
		wantUnchanged(t, c, push(9, 9), "ErrFull")
		after(c, pop())
		want(t, c, push(i, 2), "OK")
		wantStand(t, "full again", c, fmt.Sprintf("-E-- false false 8 [%d:2 6:1 5:1 4:1 3:1 2:1 1:1 0:1]", i))
	}
}

// P20.3: All of none, of one and of as many as may be, gone through twice, and within itself.
func TestAllAgainAndWithinItself(t *testing.T) {
	for lie := 0; lie <= most; lie++ {
		c := fresh(t)
		var wanted []api.Cleanup
		for i := range lie {
			after(c, push(i+4, int64(-i)))
			wanted = slices.Insert(wanted, 0, cleanup(i+4, int64(-i)))
		}
		all := c.All()
		for range 2 {
			if got := slices.Collect(all); !slices.Equal(got, wanted) {
				t.Errorf("All of %d is %s, want %s", lie, listText(got), listText(wanted))
			}
		}
		at := 0
		for outer := range all {
			if inner := slices.Collect(all); !slices.Equal(inner, wanted) || outer != wanted[at] {
				t.Errorf("within itself: %s, then %s, want %s", cleanupText(outer), listText(inner), listText(wanted))
			}
			at++
		}
		if at != lie {
			t.Errorf("%d of %d were gone over", at, lie)
		}
	}
}

// P20.3: All is left at the first one, at each one between, and at the last one, and gone through anew.
func TestAllIsLeftAnywhere(t *testing.T) {
	c := fresh(t)
	var wanted []api.Cleanup
	for i := range most {
		after(c, push(i, int64(i)))
		wanted = slices.Insert(wanted, 0, cleanup(i, int64(i)))
	}
	all := c.All()
	for leave := 1; leave <= most; leave++ {
		var got []api.Cleanup
		for x := range all {
			if got = append(got, x); len(got) == leave {
				break
			}
		}
		if !slices.Equal(got, wanted[:leave]) {
			t.Errorf("left at the %d. it is %s", leave, listText(got))
		}
	}
	wantStand(t, "left", c, "-E-- false false 8 "+listText(wanted))
}

// P20.3: what is pushed and popped by the way does not change what is gone over.
func TestAllWhileItIsPushedAndPopped(t *testing.T) {
	ways := []struct {
		name  string
		calls []call
		stand string
	}{
		{"popped", []call{pop()}, "-E-- false false 0 []"},
		{"pushed", []call{push(8, 8)}, "-E-- false false 6 [8:8 8:8 8:8 3:3 2:2 1:1]"},
		{"popped, and pushed", []call{pop(), push(8, 8)}, "-E-- false false 3 [8:8 2:2 1:1]"},
		{"popped, all of them, and pushed", []call{pop(), pop(), pop(), push(7, 7), push(6, 6)}, "-E-- false false 2 [6:6 7:7]"},
	}
	for _, way := range ways {
		c := fresh(t, push(1, 1), push(2, 2), push(3, 3))
		var got []api.Cleanup
		for x := range c.All() {
			got = append(got, x)
			after(c, way.calls...)
		}
		if listText(got) != "[3:3 2:2 1:1]" {
			t.Errorf("%s by the way: %s", way.name, listText(got))
		}
		wantStand(t, way.name, c, way.stand)
	}
	empty := fresh(t)
	for range empty.All() {
		t.Error("one of none")
	}
}

// P20.3: it begins when one begins to range, each time anew; one that is within another goes over what is there then.
func TestAllBeginsWhenOneRanges(t *testing.T) {
	c := fresh(t)
	all := c.All()
	after(c, push(1, 1), push(2, 2))
	if got := slices.Collect(all); listText(got) != "[2:2 1:1]" {
		t.Errorf("pushed behind All: %s", listText(got))
	}
	after(c, pop(), push(3, 3), push(4, 4), unwind())
	if got := slices.Collect(all); listText(got) != "[4:4 3:3 1:1]" {
		t.Errorf("gone through anew: %s", listText(got))
	}
	var outer, inner []string
	for x := range all {
		outer = append(outer, cleanupText(x))
		after(c, pop())
		inner = append(inner, listText(slices.Collect(all)))
	}
	if got := fmt.Sprint(outer, inner); got != "[4:4 3:3 1:1] [[3:3 1:1] [1:1] []]" {
		t.Errorf("within itself: %s", got)
	}
}

// P20.3: what is gone over is the caller's.
func TestWhatAllTellsIsTheCallers(t *testing.T) {
	c := fresh(t, push(1, 1), push(2, 2))
	for x := range c.All() {
		x.Program, x.Value = 9, 9
	}
	x, _ := c.Pop()
	x.Value = 7
	wantStand(t, "changed what was told", c, "-E-- false false 1 [1:1]")
}

// P20.3, P20.5: All of them, the one on top first, is what Pop answers one behind the other, ahead of Unwind and behind it.
func TestPopsAreWhatAllTells(t *testing.T) {
	for lie := 0; lie <= most; lie++ {
		for _, first := range [][]call{{}, {unwind()}} {
			c := fresh(t, first...)
			for i := range lie {
				after(c, push((i*7)%32, int64(i*i)))
			}
			told := list(c)
			for i, x := range told {
				if c.Len() != lie-i {
					t.Errorf("Len is %d, want %d", c.Len(), lie-i)
				}
				want(t, c, pop(), cleanupText(x)+" OK")
			}
			wantUnchanged(t, c, pop(), "0:0 ErrNone")
		}
	}
}
