package keys_test

import (
	"fmt"
	"math"
	"testing"

	"metronome/keys"
)

// again is calls that are done so often, one behind the other.
func again(times int, calls ...call) []call {
	var all []call
	for range times {
		all = append(all, calls...)
	}
	return all
}

// scenes are keys of many kinds, of which no two are the same.
func scenes(t *testing.T) []*keys.Keys {
	t.Helper()
	two := func(calls ...call) *keys.Keys { return after(fresh(t, 2, create(3), create(4)), calls...) }
	ends := func(times int) []call { return again(times, set(1, 0, 5), next(1)) }
	return []*keys.Keys{
		fresh(t, 1),
		fresh(t, 2),
		fresh(t, 7),
		fresh(t, 8),
		fresh(t, 1, create(0)),
		fresh(t, 1, create(-1)),
		fresh(t, 1, create(1)),
		fresh(t, 1, create(31)),
		fresh(t, 2, create(0)),
		fresh(t, 2, create(0), create(0)),
		fresh(t, 2, create(0), create(0), drop(0)),
		fresh(t, 2, create(0), create(1)),
		fresh(t, 2, create(1), create(0)),
		fresh(t, 1, create(0), set(0, 0, 1)),
		fresh(t, 1, create(0), set(1, 0, 1)),
		fresh(t, 1, create(0), set(15, 0, 1)),
		fresh(t, 1, create(0), set(0, 0, 1<<32)),
		fresh(t, 1, create(0), set(0, 0, math.MinInt64)),
		fresh(t, 1, create(0), set(0, 0, math.MaxInt64)),
		fresh(t, 1, next(0)),
		fresh(t, 1, next(15)),
		fresh(t, 1, next(0), next(15)),
		fresh(t, 8, next(0)),
		two(),
		two(set(1, 0, 5)),
		two(set(1, 1, 5)),
		two(set(1, 0, 5), set(1, 1, 5)),
		two(next(1)),
		two(set(1, 0, 5), next(1)),
		two(set(1, 1, 5), next(1)),
		two(set(1, 0, 5), set(1, 1, 5), next(1)),
		two(set(1, 0, 5), next(1), next(1)),
		two(ends(2)...),
		two(append(ends(2), next(1))...),
		two(ends(3)...),
		two(append(ends(3), next(1))...),
		two(ends(4)...),
		two(ends(5)...),
		two(append(ends(4), next(1))...),
		two(again(4, set(1, 1, 5), next(1))...),
		two(append(ends(4), next(2))...),
		eight(t, row(most, func(i int) call { return set(i, i, int64(i)+1) })...),
		eight(t, row(most, func(i int) call { return set(i, i, int64(i)+2) })...),
	}
}

// aboutTheFourth are the scenes which differ by no more than where the fourth going through stands: one has handed, one
// is over behind it, and one was over behind a fourth in which there was none.
func aboutTheFourth(t *testing.T) []*keys.Keys {
	t.Helper()
	one := func(calls ...call) *keys.Keys { return after(fresh(t, 1, create(3)), calls...) }
	tell := again(3, set(1, 0, 5), next(1))
	return []*keys.Keys{
		one(append(tell, set(1, 0, 5), next(1))...),
		one(append(tell, set(1, 0, 5), next(1), next(1))...),
		one(append(tell, next(1))...),
	}
}

// P21.3
func TestNoTwoOfTheScenesAreTheSame(t *testing.T) {
	all, once := scenes(t), scenes(t)
	twice := map[string]bool{}
	for i, a := range all {
		for j, b := range once {
			wantSame(t, fmt.Sprint("scenes ", i, " and ", j), a, b, i == j)
		}
		wantSame(t, fmt.Sprint("scene ", i, " and itself"), a, a, true)
		twice[stand(a)] = true
	}
	if len(twice) < len(all)/2 {
		t.Errorf("%d scenes stand as %d", len(all), len(twice))
	}
}

// P21.3: which going through, at which key, whether it has handed something, whether it is over: each of these alone.
func TestSameLooksAtWhereAGoingThroughStands(t *testing.T) {
	for i, a := range aboutTheFourth(t) {
		for j, b := range aboutTheFourth(t) {
			wantSame(t, fmt.Sprint("the fourth, ", i, " and ", j), a, b, i == j)
			if stand(a) != stand(b) {
				t.Errorf("%s is to be seen, %s", stand(a), stand(b))
			}
		}
	}
	// Where it stands, of each thread, of each key that was told, in each going through.
	for thread := range threads {
		var all []*keys.Keys
		k := eight(t)
		for range rounds * most {
			all = append(all, k.Copy())
			for key := range most {
				after(k, set(thread, key, 1))
			}
			after(k, next(thread))
			for key := range most {
				after(k, set(thread, key, 0))
			}
		}
		all = append(all, k.Copy())
		want(t, k, next(thread), "0:0 false")
		all = append(all, k)
		for i, a := range all {
			for j, b := range all {
				wantSame(t, fmt.Sprint("thread ", thread, ": ", i, " and ", j, " were told"), a, b, i == j)
			}
		}
	}
}

// P21.3: how many keys, which are made, a destructor, and a value of one thread: each alone.
func TestSameLooksAtEachPart(t *testing.T) {
	for i := 1; i <= most; i++ {
		for j := 1; j <= most; j++ {
			wantSame(t, fmt.Sprint(i, " and ", j, " keys"), fresh(t, i), fresh(t, j), i == j)
			wantSame(t, fmt.Sprint(i, " and ", j, " keys"), fresh(t, i, create(2)), fresh(t, j, create(2)), i == j)
		}
	}
	for key := range most {
		wantSame(t, "one is free", eight(t), eight(t, drop(key)), false)
		for other := range most {
			wantSame(t, "one is free", eight(t, drop(key)), eight(t, drop(other)), key == other)
		}
		for destructor := -1; destructor <= last; destructor++ {
			wantSame(t, fmt.Sprint("destructor ", destructor, " of ", key), eight(t), eight(t, drop(key), create(destructor)), destructor == 10+key)
		}
		for thread := range threads {
			for _, value := range values() {
				k := eight(t, set(thread, key, value))
				wantSame(t, fmt.Sprint("value ", value), eight(t), k, value == 0)
				wantSame(t, fmt.Sprint("value ", value), eight(t, set(thread, key, value)), k, true)
				wantSame(t, "another thread's", eight(t, set((thread+1)%threads, key, value)), k, value == 0)
				wantSame(t, "another key's", eight(t, set(thread, (key+1)%most, value)), k, value == 0)
				wantSame(t, "another value", eight(t, set(thread, key, value^1<<40)), k, false)
			}
		}
	}
}

// P21.3: two that were brought to the same by unlike calls.
func TestSameByUnlikeCalls(t *testing.T) {
	ahead := []call{create(3), create(4)}
	for _, x := range []struct {
		name string
		a, b []call
	}{
		{"made, and deleted", nil, append(ahead, drop(1), drop(0))},
		{"made in another order", []call{create(1), create(2)}, []call{create(2), create(2), drop(0), create(1)}},
		{"a key that had values was deleted", nil, append(ahead, set(1, 0, 7), set(15, 1, 8), drop(0), drop(1))},
		{"a key that had values was made anew", ahead, append(ahead, set(1, 0, 7), set(15, 0, 8), drop(0), create(3))},
		{"a key with a destructor was deleted", []call{create(3)}, append(ahead, drop(1))},
		{"set again, and again", append(ahead, set(1, 0, 7)), append(ahead, set(1, 0, 9), set(1, 0, 0), set(1, 0, 7))},
		{"set to 0", ahead, append(ahead, set(1, 0, 9), set(1, 0, 0))},
		{"set in another order", append(ahead, set(1, 0, 7), set(2, 1, 8)), append(ahead, set(2, 1, 8), set(1, 0, 7))},
		{"cleared", ahead, append(ahead, set(1, 0, 7), set(1, 1, 8), next(1), next(1), wipe(1))},
		{"cleared behind its end", ahead, append(ahead, set(1, 0, 7), next(1), next(1), next(1), wipe(1))},
		{"over, and asked again", append(ahead, next(1)), append(ahead, next(1), next(1), next(1))},
		{"handed, or deleted behind it", append(ahead, set(1, 0, 7), next(1), set(1, 1, 8), drop(1)), []call{create(3), set(1, 0, 9), next(1)}},
		{"unlike values were handed", append(ahead, set(1, 0, 7), next(1)), append(ahead, set(1, 0, 8), next(1))},
		{"over by a key's value, or by none", append(ahead, next(1), set(1, 0, 5)), append(ahead, set(1, 0, 0), next(1), set(1, 0, 4), set(1, 0, 5))},
		{"over in the second, by unlike keys", append(ahead, set(1, 0, 7), next(1), next(1)), append(ahead, set(1, 1, 7), next(1), next(1))},
		{"over behind the fourth, of which the third told one, or two", append(append(ahead, again(3, set(1, 0, 7), next(1))...), next(1)), append(append(ahead, again(3, set(1, 0, 7), next(1))...), set(1, 1, 7), next(1), next(1))},
		{"one told, or two", append(ahead, set(1, 1, 7), next(1)), append(ahead, set(1, 0, 7), set(1, 1, 7), next(1), next(1))},
		{"refused by the way", append(ahead, set(1, 0, 7)), append(ahead, create(5), create(32), set(16, 0, 7), set(1, 2, 7), set(1, 0, 7), drop(2), wipe(16), next(16), next(-1))},
		{"Clear of one that has nothing", ahead, append(ahead, wipe(0), wipe(15))},
	} {
		wantSame(t, x.name, fresh(t, 2, x.a...), fresh(t, 2, x.b...), true)
	}
}

// P21.3: two nil ones are; a nil one and another are not; a zero one is as nil.
func TestSameOfNilAndZeroOnes(t *testing.T) {
	for _, x := range none() {
		for _, other := range none() {
			wantSame(t, "none and none", x, other, true)
		}
		for _, one := range append(scenes(t), aboutTheFourth(t)...) {
			wantSame(t, "none and one", x, one, false)
		}
	}
}

// changes are calls each of which changes some of the scenes.
func changes() []call {
	return []call{create(9), create(-1), drop(0), drop(1), set(0, 0, 6), set(1, 0, 6), set(1, 1, 0), set(15, 0, 3), next(0), next(1), next(15), wipe(0), wipe(1), wipe(15)}
}

// P21.3: Copy is the same, and both go on apart, in each part of it, also in the middle of a going through.
func TestCopyGoesOnApart(t *testing.T) {
	all := func() []*keys.Keys { return append(scenes(t), aboutTheFourth(t)...) }
	for i := range all() {
		for _, x := range changes() {
			k := all()[i]
			is := stand(k)
			other, third := k.Copy(), k.Copy()
			if other == k || other == third {
				t.Fatal("a copy is the one it was made of")
			}
			wantStand(t, "a copy", other, is)
			wantSame(t, "a copy", k, other, true)
			x.do(other)
			wantStand(t, fmt.Sprint("scene ", i, ": ", x.name, " of the copy"), k, is)
			wantSame(t, "the copy went on", k, third, true)
			changed := stand(other)
			if changed != is {
				wantSame(t, "the copy went on", k, other, false)
			}
			x.do(k)
			wantStand(t, fmt.Sprint("scene ", i, ": ", x.name, " of both"), k, changed)
			wantStand(t, "the copy stayed", other, changed)
			wantSame(t, "both went on", k, other, true)
		}
	}
}

// P21.3: a copy in the middle of a going through goes on where that one stood, and each is told its own values.
func TestCopyInTheMiddleOfAGoingThrough(t *testing.T) {
	k := three(t, set(6, 0, 1), set(6, 1, 2), set(6, 2, 3), next(6))
	other := k.Copy()
	after(k, set(6, 1, 20), set(6, 0, 10))
	after(other, drop(1))
	want(t, k, next(6), "6:20 true")
	want(t, other, next(6), "7:3 true")
	want(t, k, next(6), "7:3 true")
	want(t, other, next(6), "0:0 false")
	want(t, k, next(6), "5:10 true")
	wantStand(t, "one", k, "3 [5 6 7], 6 has 0 0 0 in 2")
	wantStand(t, "its copy", other, "2 [5 . 7], 6 has 0 . 0 in 2")
	want(t, other, wipe(6), "OK")
	wantStand(t, "one", k, "3 [5 6 7], 6 has 0 0 0 in 2")
	want(t, other, create(8), "1 OK")
	want(t, k, made(1), "6 true")
}

// P21.1, P21.2, P21.3: that looking changes nothing.
func TestLookingChangesNothing(t *testing.T) {
	for i, k := range append(scenes(t), aboutTheFourth(t)...) {
		was, is := k.Copy(), stand(k)
		for range 2 {
			for thread := -1; thread <= threads; thread++ {
				k.Round(thread)
				for key := -1; key <= most; key++ {
					k.Get(thread, key)
					k.Made(key)
				}
			}
			k.Len()
			k.Copy()
			keys.Same(k, was)
			keys.Same(was, k)
			wantStand(t, fmt.Sprint("scene ", i), k, is)
			wantSame(t, fmt.Sprint("scene ", i), k, was, true)
		}
	}
}
