package keys_test

import (
	"fmt"
	"math"
	"slices"
	"strings"
	"testing"

	"metronome/api"
	"metronome/keys"
)

// most is how many keys may be, threads how many threads, rounds how often values are gone through, and last the last
// program, as the document says.
const (
	most    = 8
	threads = 16
	rounds  = 4
	last    = 31
)

func errText(err api.Errno) string {
	names := []string{"OK", "ErrNil", "ErrArg", "ErrLong", "ErrBytes", "ErrFull", "ErrNone", "ErrState"}
	if int(err) >= 0 && int(err) < len(names) {
		return names[err]
	}
	return fmt.Sprint("error ", int(err))
}

// call is something that is done to keys, and tells the answer as a text.
type call struct {
	name string
	do   func(k *keys.Keys) string
}

func create(destructor int) call {
	return call{fmt.Sprintf("Create(%d)", destructor), func(k *keys.Keys) string {
		key, err := k.Create(destructor)
		return fmt.Sprint(key, " ", errText(err))
	}}
}

func drop(key int) call {
	return call{fmt.Sprintf("Delete(%d)", key), func(k *keys.Keys) string { return errText(k.Delete(key)) }}
}

func set(thread, key int, value int64) call {
	return call{fmt.Sprintf("Set(%d, %d, %d)", thread, key, value), func(k *keys.Keys) string {
		return errText(k.Set(thread, key, value))
	}}
}

func get(thread, key int) call {
	return call{fmt.Sprintf("Get(%d, %d)", thread, key), func(k *keys.Keys) string {
		value, err := k.Get(thread, key)
		return fmt.Sprint(value, " ", errText(err))
	}}
}

func next(thread int) call {
	return call{fmt.Sprintf("Next(%d)", thread), func(k *keys.Keys) string {
		x, ok := k.Next(thread)
		return fmt.Sprintf("%d:%d %v", x.Program, x.Value, ok)
	}}
}

func round(thread int) call {
	return call{fmt.Sprintf("Round(%d)", thread), func(k *keys.Keys) string { return fmt.Sprint(k.Round(thread)) }}
}

func wipe(thread int) call {
	return call{fmt.Sprintf("Clear(%d)", thread), func(k *keys.Keys) string { return errText(k.Clear(thread)) }}
}

func made(key int) call {
	return call{fmt.Sprintf("Made(%d)", key), func(k *keys.Keys) string {
		destructor, is := k.Made(key)
		return fmt.Sprint(destructor, " ", is)
	}}
}

// destructors is [3 - . 4] of keys up to the last one that is made: - of one without a destructor, . of a free one.
func destructors(k *keys.Keys) []string {
	var each []string
	lastMade := 0
	for key := range most {
		text := "."
		if d, is := k.Made(key); is {
			lastMade = key + 1
			if text = fmt.Sprint(d); d == -1 {
				text = "-"
			}
		} else if d != 0 {
			text = fmt.Sprint("free with ", d)
		}
		each = append(each, text)
	}
	return each[:lastMade]
}

// valuesText is 7 0 . 4 of a thread's values of these keys, . of a free key, and whether any of them is not 0.
func valuesText(k *keys.Keys, thread, count int) (string, bool) {
	var each []string
	any := false
	for key := range most {
		value, err := k.Get(thread, key)
		_, is := k.Made(key)
		text := fmt.Sprint(value)
		if !is && value == 0 && err == api.ErrNone {
			text = "."
		} else if err != api.OK || !is {
			text = fmt.Sprint(value, " ", errText(err))
		}
		if key < count || text != "." {
			each = append(each, text)
		}
		any = any || value != 0
	}
	return strings.Join(each, " "), any
}

// stand is all that keys tell of themselves: how many are made, their destructors, and of each thread that ends or has a
// value other than 0 its values, and which going through it is at.
func stand(k *keys.Keys) string {
	each := destructors(k)
	text := fmt.Sprint(k.Len(), " [", strings.Join(each, " "), "]")
	for thread := range threads {
		has, any := valuesText(k, thread, len(each))
		if any || k.Round(thread) != 0 {
			text += fmt.Sprintf(", %d has %s in %d", thread, has, k.Round(thread))
		}
	}
	return text
}

// foretold is what a copy's Next would tell from now on, if the thread had the value 1 of each key that is made, and was
// given it anew behind each Next: each key's program and the going through. So it shows where the going through stands.
func foretold(k *keys.Keys, thread int) string {
	c := k.Copy()
	var told []string
	for range rounds*most + 1 {
		for key := range most {
			c.Set(thread, key, 1)
		}
		x, ok := c.Next(thread)
		if !ok {
			break
		}
		told = append(told, fmt.Sprintf("%d@%d", x.Program, c.Round(thread)))
	}
	return strings.Join(told, " ")
}

// fresh is so many keys, to which calls were done, whatever they answered.
func fresh(t *testing.T, count int, calls ...call) *keys.Keys {
	t.Helper()
	k, err := keys.New(count)
	if k == nil || err != api.OK {
		t.Fatalf("New(%d) is %v, %s", count, k, errText(err))
	}
	return after(k, calls...)
}

// after does calls to keys, whatever they answer.
func after(k *keys.Keys, calls ...call) *keys.Keys {
	for _, x := range calls {
		x.do(k)
	}
	return k
}

// want does a call, and asks for that answer.
func want(t *testing.T, k *keys.Keys, x call, answer string) {
	t.Helper()
	if got := x.do(k); got != answer {
		t.Errorf("%s is %s, want %s", x.name, got, answer)
	}
}

func wantStand(t *testing.T, what string, k *keys.Keys, stands string) {
	t.Helper()
	if got := stand(k); got != stands {
		t.Errorf("%s: they stand as %s, want %s", what, got, stands)
	}
}

func wantForetold(t *testing.T, what string, k *keys.Keys, thread int, told string) {
	t.Helper()
	if got := foretold(k, thread); got != told {
		t.Errorf("%s: what comes is %s, want %s", what, got, told)
	}
}

func wantSame(t *testing.T, what string, a, b *keys.Keys, is bool) {
	t.Helper()
	if keys.Same(a, b) != is || keys.Same(b, a) != is {
		t.Errorf("%s: Same of %s and %s is %v, %v, want %v", what, stand(a), stand(b), keys.Same(a, b), keys.Same(b, a), is)
	}
}

// wantUnchanged does a call, asks for that answer, and that nothing has changed.
func wantUnchanged(t *testing.T, k *keys.Keys, x call, answer string) {
	t.Helper()
	was, stands := k.Copy(), stand(k)
	want(t, k, x, answer)
	wantStand(t, x.name, k, stands)
	wantSame(t, x.name, k, was, true)
}

// step is a call, its answer, and how the keys stand behind it.
type step struct {
	call   call
	answer string
	stands string
}

func wantSteps(t *testing.T, k *keys.Keys, steps ...step) {
	t.Helper()
	for i, s := range steps {
		want(t, k, s.call, s.answer)
		wantStand(t, fmt.Sprint("step ", i, ", ", s.call.name), k, s.stands)
	}
}

// values are the least value, the greatest one, and some between.
func values() []int64 {
	return []int64{math.MinInt64, math.MinInt64 + 1, -1 << 32, -1, 0, 1, 31, 32, 1 << 31, 1 << 32, math.MaxInt64 - 1, math.MaxInt64}
}

// P21.1, P21.2, P21.3: the chapter's calls.
func TestTheChaptersKeys(t *testing.T) {
	k := fresh(t, 2)
	wantSteps(t, k,
		step{create(3), "0 OK", "1 [3]"},
		step{create(-1), "1 OK", "2 [3 -]"},
		step{create(0), "0 ErrFull", "2 [3 -]"},
		step{create(32), "0 ErrArg", "2 [3 -]"},
		step{set(1, 0, 7), "OK", "2 [3 -], 1 has 7 0 in 0"},
		step{set(1, 1, 8), "OK", "2 [3 -], 1 has 7 8 in 0"},
		step{get(2, 0), "0 OK", "2 [3 -], 1 has 7 8 in 0"},
		step{get(1, 5), "0 ErrNone", "2 [3 -], 1 has 7 8 in 0"},
		step{next(1), "3:7 true", "2 [3 -], 1 has 0 8 in 1"},
		step{set(1, 0, 9), "OK", "2 [3 -], 1 has 9 8 in 1"},
		step{next(1), "3:9 true", "2 [3 -], 1 has 0 8 in 2"},
		step{round(1), "2", "2 [3 -], 1 has 0 8 in 2"},
		step{next(1), "0:0 false", "2 [3 -], 1 has 0 8 in 3"},
		step{drop(1), "OK", "1 [3], 1 has 0 in 3"},
		step{create(4), "1 OK", "2 [3 4], 1 has 0 0 in 3"},
		step{get(1, 1), "0 OK", "2 [3 4], 1 has 0 0 in 3"},
		step{wipe(1), "OK", "2 [3 4]"},
		step{round(1), "0", "2 [3 4]"},
	)
}

// P21.1: of one key, of as many as may be, and of each number between: as many are made, and one more is refused.
func TestNewOfEachCount(t *testing.T) {
	for count := 1; count <= most; count++ {
		k := fresh(t, count)
		wantStand(t, "New", k, "0 []")
		wantSame(t, "New", k, fresh(t, count), true)
		var list []string
		for key := range count {
			want(t, k, create(key), fmt.Sprint(key, " OK"))
			list = append(list, fmt.Sprint(key))
			wantStand(t, "Create", k, fmt.Sprint(key+1, " [", strings.Join(list, " "), "]"))
		}
		for _, destructor := range []int{-1, 0, 1, last} {
			wantUnchanged(t, k, create(destructor), "0 ErrFull")
		}
		for key := count; key <= most; key++ {
			wantUnchanged(t, k, drop(key), "ErrNone")
			wantUnchanged(t, k, set(0, key, 1), "ErrNone")
			wantUnchanged(t, k, get(0, key), "0 ErrNone")
			wantUnchanged(t, k, made(key), "0 false")
		}
	}
}

// P21.1: of none, of one more than may be, and of numbers far off.
func TestNewOfHowManyMayNotBe(t *testing.T) {
	for _, count := range []int{0, -1, -8, most + 1, most + 2, 16, 255, 256, 257, 1 << 31, 1 << 32, 1<<32 + 1, 1<<32 + 8, -1 << 32, -1<<32 + 1, math.MinInt, math.MinInt + 1, math.MaxInt - 1, math.MaxInt} {
		if k, err := keys.New(count); k != nil || err != api.ErrArg {
			t.Errorf("New(%d) is %v, %s", count, k, errText(err))
		}
	}
}

// P21.1: no two that New made are one.
func TestNewOnesAreApart(t *testing.T) {
	a, b := fresh(t, 3), fresh(t, 3)
	after(a, create(1), set(2, 0, 3), next(2))
	wantStand(t, "the other one", b, "0 []")
	wantStand(t, "a later one", fresh(t, 3), "0 []")
}

// P21.1, P21.3: each destructor that may be, the first program, the last one and none among them.
func TestEachDestructor(t *testing.T) {
	for destructor := -1; destructor <= last; destructor++ {
		k := fresh(t, 2, create(5))
		want(t, k, create(destructor), "1 OK")
		want(t, k, made(1), fmt.Sprint(destructor, " true"))
		want(t, k, made(0), "5 true")
		want(t, k, set(3, 1, 8), "OK")
		if destructor == -1 {
			want(t, k, next(3), "0:0 false")
		} else {
			want(t, k, next(3), fmt.Sprint(destructor, ":8 true"))
		}
	}
}

// orders is 0 to n less 1 in each order.
func orders(n int) [][]int {
	if n == 0 {
		return [][]int{{}}
	}
	var all [][]int
	for _, order := range orders(n - 1) {
		for at := range n {
			all = append(all, slices.Insert(slices.Clone(order), at, n-1))
		}
	}
	return all
}

// P21.1: the lowest free key is made, behind deletings in any order.
func TestTheLowestFreeKeyIsMade(t *testing.T) {
	for _, order := range orders(5) {
		for many := range 6 {
			k := fresh(t, 5, create(1), create(1), create(1), create(1), create(1))
			for _, key := range order[:many] {
				want(t, k, drop(key), "OK")
				wantUnchanged(t, k, drop(key), "ErrNone")
			}
			for _, key := range slices.Sorted(slices.Values(order[:many])) {
				want(t, k, create(2), fmt.Sprint(key, " OK"))
			}
			wantUnchanged(t, k, create(2), "0 ErrFull")
			for i, key := range order {
				destructor := 1
				if i < many {
					destructor = 2
				}
				want(t, k, made(key), fmt.Sprint(destructor, " true"))
			}
		}
	}
	wantSteps(t, fresh(t, 3, create(1), create(2), create(3)),
		step{drop(1), "OK", "2 [1 . 3]"},
		step{drop(2), "OK", "1 [1]"},
		step{create(4), "1 OK", "2 [1 4]"},
		step{drop(0), "OK", "1 [. 4]"},
		step{create(-1), "0 OK", "2 [- 4]"},
		step{create(5), "2 OK", "3 [- 4 5]"},
		step{drop(0), "OK", "2 [. 4 5]"},
		step{drop(1), "OK", "1 [. . 5]"},
		step{drop(2), "OK", "0 []"},
		step{create(0), "0 OK", "1 [0]"},
	)
}

// P21.1: a key that is made anew has the value 0 for each thread; values of other keys stay.
func TestAKeyMadeAnewHasNoValues(t *testing.T) {
	for key := range most {
		k := fresh(t, most)
		for i := range most {
			after(k, create(i))
			for thread := range threads {
				after(k, set(thread, i, int64(100*i+thread+1)))
			}
		}
		want(t, k, drop(key), "OK")
		for thread := range threads {
			wantUnchanged(t, k, get(thread, key), "0 ErrNone")
			wantUnchanged(t, k, set(thread, key, 5), "ErrNone")
		}
		want(t, k, create(9), fmt.Sprint(key, " OK"))
		for i := range most {
			for thread := range threads {
				value := 100*i + thread + 1
				if i == key {
					value = 0
				}
				wantUnchanged(t, k, get(thread, i), fmt.Sprint(value, " OK"))
			}
		}
	}
}

// P21.1: Delete hands nothing to a destructor, now or later.
func TestDeleteHandsNothing(t *testing.T) {
	wantSteps(t, fresh(t, 2, create(3), create(4), set(1, 0, 7), set(1, 1, 8)),
		step{drop(0), "OK", "1 [. 4], 1 has . 8 in 0"},
		step{next(1), "4:8 true", "1 [. 4], 1 has . 0 in 1"},
		step{next(1), "0:0 false", "1 [. 4], 1 has . 0 in 2"},
		step{create(3), "0 OK", "2 [3 4], 1 has 0 0 in 2"},
		step{next(1), "0:0 false", "2 [3 4], 1 has 0 0 in 2"},
		step{wipe(1), "OK", "2 [3 4]"},
		step{next(1), "0:0 false", "2 [3 4], 1 has 0 0 in 1"},
	)
}

// P21.1: each thread, the first and the last one among them, has its own value of each key, the least and the greatest.
func TestEachThreadsValueOfEachKey(t *testing.T) {
	k := fresh(t, most)
	for range most {
		after(k, create(1))
	}
	var all []int64
	for thread := range threads {
		for key := range most {
			want(t, k, get(thread, key), "0 OK")
			value := values()[(thread*5+key)%len(values())]
			want(t, k, set(thread, key, value), "OK")
			want(t, k, get(thread, key), fmt.Sprint(value, " OK"))
			all = append(all, value)
		}
	}
	for thread := range threads {
		for key := range most {
			wantUnchanged(t, k, get(thread, key), fmt.Sprint(all[thread*most+key], " OK"))
			wantUnchanged(t, k, set(thread, key, all[thread*most+key]), "OK")
		}
	}
}

// P21.1: Set again and again, to the same value, to another one, and to 0, and Get behind each.
func TestSetAgain(t *testing.T) {
	for _, thread := range []int{0, 7, threads - 1} {
		for _, key := range []int{0, 3, most - 1} {
			k := fresh(t, most, create(-1), create(-1), create(-1), create(-1), create(-1), create(-1), create(-1), create(-1))
			for _, a := range values() {
				for _, b := range values() {
					want(t, k, set(thread, key, a), "OK")
					want(t, k, get(thread, key), fmt.Sprint(a, " OK"))
					want(t, k, set(thread, key, b), "OK")
					want(t, k, get(thread, key), fmt.Sprint(b, " OK"))
					want(t, k, get((thread+1)%threads, key), "0 OK")
					want(t, k, get(thread, (key+1)%most), "0 OK")
				}
			}
		}
	}
}

// P21.3: Made and Len behind each Create and Delete; of a key that is not made 0 and false.
func TestMadeAndLen(t *testing.T) {
	k := fresh(t, 3)
	for _, x := range []struct {
		call call
		made string
		n    int
	}{
		{create(0), "0 true, 0 false, 0 false", 1},
		{create(-1), "0 true, -1 true, 0 false", 2},
		{drop(0), "0 false, -1 true, 0 false", 1},
		{create(31), "31 true, -1 true, 0 false", 2},
		{create(7), "31 true, -1 true, 7 true", 3},
		{create(8), "31 true, -1 true, 7 true", 3},
		{drop(1), "31 true, 0 false, 7 true", 2},
		{drop(1), "31 true, 0 false, 7 true", 2},
		{drop(2), "31 true, 0 false, 0 false", 1},
		{drop(0), "0 false, 0 false, 0 false", 0},
		{create(6), "6 true, 0 false, 0 false", 1},
	} {
		x.call.do(k)
		var each []string
		for key := range 3 {
			each = append(each, made(key).do(k))
		}
		if got := strings.Join(each, ", "); got != x.made || k.Len() != x.n {
			t.Errorf("%s: %s, %d, want %s, %d", x.call.name, got, k.Len(), x.made, x.n)
		}
	}
}
