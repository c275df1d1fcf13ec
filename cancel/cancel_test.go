package cancel_test

import (
	"fmt"
	"math"
	"strings"
	"testing"

	"metronome/api"
	"metronome/cancel"
)

// most is how many cleanups may be, and last the last program, as the document says.
const (
	most = 8
	last = 31
)

func errText(err api.Errno) string {
	names := []string{"OK", "ErrNil", "ErrArg", "ErrLong", "ErrBytes", "ErrFull", "ErrNone", "ErrState"}
	if int(err) >= 0 && int(err) < len(names) {
		return names[err]
	}
	return fmt.Sprint("error ", int(err))
}

func cleanup(program int, value int64) api.Cleanup {
	return api.Cleanup{Program: program, Value: value}
}

// call is something that is done to a cancellation, and tells the answer as a text.
type call struct {
	name string
	do   func(c *cancel.Cancel) string
}

func ask() call {
	return call{"Ask", func(c *cancel.Cancel) string {
		first, err := c.Ask()
		return fmt.Sprint(first, " ", errText(err))
	}}
}

func enable(on bool) call {
	return call{fmt.Sprintf("Enable(%v)", on), func(c *cancel.Cancel) string {
		was, err := c.Enable(on)
		return fmt.Sprint(was, " ", errText(err))
	}}
}

func async(on bool) call {
	return call{fmt.Sprintf("Async(%v)", on), func(c *cancel.Cancel) string {
		was, err := c.Async(on)
		return fmt.Sprint(was, " ", errText(err))
	}}
}

func acts(point bool) call {
	return call{fmt.Sprintf("Acts(%v)", point), func(c *cancel.Cancel) string { return fmt.Sprint(c.Acts(point)) }}
}

func push(program int, value int64) call {
	return call{fmt.Sprintf("Push(%d with %d)", program, value), func(c *cancel.Cancel) string {
		return errText(c.Push(cleanup(program, value)))
	}}
}

func pop() call {
	return call{"Pop", func(c *cancel.Cancel) string {
		x, err := c.Pop()
		return fmt.Sprint(cleanupText(x), " ", errText(err))
	}}
}

func unwind() call {
	return call{"Unwind", func(c *cancel.Cancel) string { return errText(c.Unwind()) }}
}

func cleanupText(x api.Cleanup) string { return fmt.Sprintf("%d:%d", x.Program, x.Value) }

// listText is [4:8 3:7] of cleanups, the one on top first, and [] of none.
func listText(list []api.Cleanup) string {
	var each []string
	for _, x := range list {
		each = append(each, cleanupText(x))
	}
	return "[" + strings.Join(each, " ") + "]"
}

// list is all cleanups, the one on top first.
func list(c *cancel.Cancel) []api.Cleanup {
	var all []api.Cleanup
	for x := range c.All() {
		all = append(all, x)
	}
	return all
}

// letters tells which of these is so: "-E--" is enabled alone.
func letters(asked, enabled, atOnce, unwinds bool) string {
	text := []byte("----")
	for i, is := range []bool{asked, enabled, atOnce, unwinds} {
		if is {
			text[i] = "AEOU"[i]
		}
	}
	return string(text)
}

// stand is all that a cancellation tells of itself: whether it is asked (A), enabled (E), at once (O), unwinds (U),
// whether it acts at no point and at one, how many cleanups there are, and which, the one on top first.
func stand(c *cancel.Cancel) string {
	flags := letters(c.Asked(), c.Enabled(), c.AtOnce(), c.Unwinds())
	return fmt.Sprint(flags, " ", c.Acts(false), " ", c.Acts(true), " ", c.Len(), " ", listText(list(c)))
}

// fresh is a new one, to which calls were done, whatever they answered.
func fresh(t *testing.T, calls ...call) *cancel.Cancel {
	t.Helper()
	c := cancel.New()
	if c == nil {
		t.Fatal("New is nil")
	}
	return after(c, calls...)
}

// after does calls to one, whatever they answer.
func after(c *cancel.Cancel, calls ...call) *cancel.Cancel {
	for _, x := range calls {
		x.do(c)
	}
	return c
}

// want does a call, and asks for that answer.
func want(t *testing.T, c *cancel.Cancel, x call, answer string) {
	t.Helper()
	if got := x.do(c); got != answer {
		t.Errorf("%s is %s, want %s", x.name, got, answer)
	}
}

func wantStand(t *testing.T, what string, c *cancel.Cancel, stands string) {
	t.Helper()
	if got := stand(c); got != stands {
		t.Errorf("%s: it stands as %s, want %s", what, got, stands)
	}
}

func wantSame(t *testing.T, what string, a, b *cancel.Cancel, is bool) {
	t.Helper()
	if cancel.Same(a, b) != is || cancel.Same(b, a) != is {
		t.Errorf("%s: Same of %s and %s is %v, %v, want %v", what, stand(a), stand(b), cancel.Same(a, b), cancel.Same(b, a), is)
	}
}

// wantUnchanged does a call, asks for that answer, and that nothing has changed.
func wantUnchanged(t *testing.T, c *cancel.Cancel, x call, answer string) {
	t.Helper()
	was, stands := c.Copy(), stand(c)
	want(t, c, x, answer)
	wantStand(t, x.name, c, stands)
	wantSame(t, x.name, c, was, true)
}

// step is a call, its answer, and how the cancellation stands behind it.
type step struct {
	call   call
	answer string
	stands string
}

func wantSteps(t *testing.T, c *cancel.Cancel, steps ...step) {
	t.Helper()
	for i, s := range steps {
		want(t, c, s.call, s.answer)
		wantStand(t, fmt.Sprint("step ", i, ", ", s.call.name), c, s.stands)
	}
}

// P20.1, P20.2, P20.3: the chapter's calls.
func TestTheChaptersCancellation(t *testing.T) {
	wantSteps(t, fresh(t),
		step{ask(), "true OK", "AE-- false true 0 []"},
		step{ask(), "false OK", "AE-- false true 0 []"},
		step{acts(false), "false", "AE-- false true 0 []"},
		step{acts(true), "true", "AE-- false true 0 []"},
		step{enable(false), "true OK", "A--- false false 0 []"},
		step{acts(true), "false", "A--- false false 0 []"},
		step{async(true), "false OK", "A-O- false false 0 []"},
		step{enable(true), "false OK", "AEO- true true 0 []"},
		step{acts(false), "true", "AEO- true true 0 []"},
		step{push(3, 7), "OK", "AEO- true true 1 [3:7]"},
		step{push(4, 8), "OK", "AEO- true true 2 [4:8 3:7]"},
		step{push(32, 0), "ErrArg", "AEO- true true 2 [4:8 3:7]"},
		step{unwind(), "OK", "AEOU false false 2 [4:8 3:7]"},
		step{unwind(), "ErrState", "AEOU false false 2 [4:8 3:7]"},
		step{acts(true), "false", "AEOU false false 2 [4:8 3:7]"},
		step{pop(), "4:8 OK", "AEOU false false 1 [3:7]"},
		step{pop(), "3:7 OK", "AEOU false false 0 []"},
		step{pop(), "0:0 ErrNone", "AEOU false false 0 []"},
	)
}

// P20.1, P20.2, P20.3: a new one in all ways; no two are one.
func TestNew(t *testing.T) {
	c := fresh(t)
	if c.Asked() || !c.Enabled() || c.AtOnce() || c.Unwinds() || c.Len() != 0 {
		t.Errorf("a new one stands as %s", stand(c))
	}
	wantStand(t, "New", c, "-E-- false false 0 []")
	wantUnchanged(t, c, acts(true), "false")
	wantUnchanged(t, c, acts(false), "false")
	wantUnchanged(t, c, pop(), "0:0 ErrNone")
	other := fresh(t)
	wantSame(t, "two new ones", c, other, true)
	after(c, ask(), enable(false), async(true), unwind(), push(1, 2))
	wantStand(t, "another new one", other, "-E-- false false 0 []")
	wantStand(t, "a later one", fresh(t), "-E-- false false 0 []")
}

// P20.1: Ask the first time, and again and again, also while it is not enabled, is at once, and unwinds.
func TestAsk(t *testing.T) {
	for _, ahead := range [][]call{
		{}, {enable(false)}, {async(true)}, {unwind()}, {push(5, 5)},
		{enable(false), async(true)}, {enable(false), async(true), unwind(), push(0, -1)},
	} {
		c := fresh(t, ahead...)
		if c.Asked() {
			t.Errorf("%s: it is asked", stand(c))
		}
		want(t, c, ask(), "true OK")
		for range 3 {
			if !c.Asked() {
				t.Errorf("%s: it is not asked", stand(c))
			}
			wantUnchanged(t, c, ask(), "false OK")
		}
		after(c, enable(true), enable(false), async(true), async(false), unwind(), pop())
		wantUnchanged(t, c, ask(), "false OK")
	}
}

// P20.1: Enable the first time and again, with the same and with the other word, and Enabled behind each.
func TestEnable(t *testing.T) {
	wantSteps(t, fresh(t),
		step{enable(true), "true OK", "-E-- false false 0 []"},
		step{enable(true), "true OK", "-E-- false false 0 []"},
		step{enable(false), "true OK", "---- false false 0 []"},
		step{enable(false), "false OK", "---- false false 0 []"},
		step{enable(true), "false OK", "-E-- false false 0 []"},
		step{ask(), "true OK", "AE-- false true 0 []"},
		step{enable(false), "true OK", "A--- false false 0 []"},
		step{enable(true), "false OK", "AE-- false true 0 []"},
		step{unwind(), "OK", "AE-U false false 0 []"},
		step{enable(false), "true OK", "A--U false false 0 []"},
		step{enable(false), "false OK", "A--U false false 0 []"},
		step{enable(true), "false OK", "AE-U false false 0 []"},
		step{enable(true), "true OK", "AE-U false false 0 []"},
	)
}

// P20.1: Async the first time and again, with the same and with the other word, and AtOnce behind each.
func TestAsync(t *testing.T) {
	wantSteps(t, fresh(t),
		step{async(false), "false OK", "-E-- false false 0 []"},
		step{async(true), "false OK", "-EO- false false 0 []"},
		step{async(true), "true OK", "-EO- false false 0 []"},
		step{async(false), "true OK", "-E-- false false 0 []"},
		step{async(false), "false OK", "-E-- false false 0 []"},
		step{ask(), "true OK", "AE-- false true 0 []"},
		step{async(true), "false OK", "AEO- true true 0 []"},
		step{async(false), "true OK", "AE-- false true 0 []"},
		step{unwind(), "OK", "AE-U false false 0 []"},
		step{async(false), "false OK", "AE-U false false 0 []"},
		step{async(true), "false OK", "AEOU false false 0 []"},
		step{async(true), "true OK", "AEOU false false 0 []"},
		step{async(false), "true OK", "AE-U false false 0 []"},
	)
}

// flagCalls are the calls that bring a new one to these, whatever it is then.
func flagCalls(asked, enabled, atOnce, unwinds bool) []call {
	calls := []call{enable(enabled), async(atOnce)}
	if asked {
		calls = append(calls, ask())
	}
	if unwinds {
		calls = append(calls, unwind())
	}
	return calls
}

// P20.2, P20.5: Acts at a point and not at one, in each state that these can make together, whatever is to be cleaned up.
func TestActsInEachState(t *testing.T) {
	for bits := range 16 {
		asked, enabled, atOnce, unwinds := bits&1 != 0, bits&2 != 0, bits&4 != 0, bits&8 != 0
		always := asked && enabled && atOnce && !unwinds
		atPoints := asked && enabled && !unwinds
		name := letters(asked, enabled, atOnce, unwinds)
		for lie := 0; lie <= most; lie++ {
			c := fresh(t, flagCalls(asked, enabled, atOnce, unwinds)...)
			for range lie {
				want(t, c, push(7, 7), "OK")
			}
			if letters(c.Asked(), c.Enabled(), c.AtOnce(), c.Unwinds()) != name {
				t.Errorf("%s stands as %s", name, stand(c))
			}
			wantUnchanged(t, c, acts(false), fmt.Sprint(always))
			wantUnchanged(t, c, acts(true), fmt.Sprint(atPoints))
		}
	}
}

// P20.2: which of the calls makes it act, in whatever order they come.
func TestTheOrderOfWhatMakesItActIsNothing(t *testing.T) {
	orders := [][]call{
		{ask(), enable(true), async(true)},
		{ask(), async(true), enable(true)},
		{enable(true), ask(), async(true)},
		{enable(true), async(true), ask()},
		{async(true), ask(), enable(true)},
		{async(true), enable(true), ask()},
	}
	for _, calls := range orders {
		c := fresh(t, enable(false))
		for _, x := range calls {
			wantUnchanged(t, c, acts(false), "false")
			x.do(c)
		}
		wantUnchanged(t, c, acts(false), "true")
		wantUnchanged(t, c, acts(true), "true")
		wantSame(t, "orders", c, fresh(t, ask(), async(true)), true)
	}
}

// P20.2: Unwind twice in a row, with cleanups and without, of each that can be; it unwinds for ever.
func TestUnwind(t *testing.T) {
	for bits := range 8 {
		for lie := 0; lie <= most; lie++ {
			c := fresh(t, flagCalls(bits&1 != 0, bits&2 != 0, bits&4 != 0, false)...)
			for i := range lie {
				want(t, c, push(i, int64(i)), "OK")
			}
			if c.Unwinds() {
				t.Errorf("%s unwinds", stand(c))
			}
			was := list(c)
			want(t, c, unwind(), "OK")
			wantStand(t, "Unwind", c, letters(bits&1 != 0, bits&2 != 0, bits&4 != 0, true)+fmt.Sprint(" false false ", lie, " ", listText(was)))
			wantUnchanged(t, c, unwind(), "ErrState")
			wantUnchanged(t, c, unwind(), "ErrState")
			for range most {
				after(c, pop())
			}
			wantUnchanged(t, c, unwind(), "ErrState")
			after(c, ask(), enable(true), async(true), push(1, 1))
			wantStand(t, "for ever", c, "AEOU false false 1 [1:1]")
			wantUnchanged(t, c, unwind(), "ErrState")
		}
	}
}

// P20.1, P20.2, P20.3: behind Unwind one may ask, set, push and pop as ahead of it, and nothing acts.
func TestBehindUnwindAllElseGoesOn(t *testing.T) {
	wantSteps(t, fresh(t, push(9, 9), unwind()),
		step{ask(), "true OK", "AE-U false false 1 [9:9]"},
		step{ask(), "false OK", "AE-U false false 1 [9:9]"},
		step{async(true), "false OK", "AEOU false false 1 [9:9]"},
		step{push(31, math.MinInt64), "OK", "AEOU false false 2 [31:-9223372036854775808 9:9]"},
		step{push(-1, 0), "ErrArg", "AEOU false false 2 [31:-9223372036854775808 9:9]"},
		step{enable(false), "true OK", "A-OU false false 2 [31:-9223372036854775808 9:9]"},
		step{pop(), "31:-9223372036854775808 OK", "A-OU false false 1 [9:9]"},
		step{push(0, 0), "OK", "A-OU false false 2 [0:0 9:9]"},
		step{pop(), "0:0 OK", "A-OU false false 1 [9:9]"},
		step{pop(), "9:9 OK", "A-OU false false 0 []"},
		step{pop(), "0:0 ErrNone", "A-OU false false 0 []"},
		step{enable(true), "false OK", "AEOU false false 0 []"},
		step{async(false), "true OK", "AE-U false false 0 []"},
		step{push(2, 3), "OK", "AE-U false false 1 [2:3]"},
	)
	c := fresh(t, unwind())
	for i := range most {
		want(t, c, push(i, 1), "OK")
	}
	wantUnchanged(t, c, push(1, 1), "ErrFull")
}
