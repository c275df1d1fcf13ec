package keys_test

import (
	"fmt"
	"strings"
	"testing"

	"metronome/keys"
)

// row is so many calls, one for each number from 0 on.
func row(n int, one func(i int) call) []call {
	var calls []call
	for i := range n {
		calls = append(calls, one(i))
	}
	return calls
}

// eight is as many keys as may be, the programs 10 to 17 their destructors.
func eight(t *testing.T, calls ...call) *keys.Keys {
	t.Helper()
	return after(fresh(t, most, row(most, func(i int) call { return create(10 + i) })...), calls...)
}

// three is three keys, the programs 5, 6 and 7 their destructors.
func three(t *testing.T, calls ...call) *keys.Keys {
	t.Helper()
	return after(fresh(t, 3, create(5), create(6), create(7)), calls...)
}

// P21.2: a thread with no value: over behind the first going through, in which there was none.
func TestNextOfNoValue(t *testing.T) {
	for _, k := range []*keys.Keys{fresh(t, 1), fresh(t, most), fresh(t, 1, create(3)), three(t), eight(t), fresh(t, 2, create(-1), create(3), drop(0))} {
		for _, thread := range []int{0, 1, threads - 1} {
			wantUnchanged(t, k, round(thread), "0")
			want(t, k, next(thread), "0:0 false")
			wantUnchanged(t, k, round(thread), "1")
			wantUnchanged(t, k, next(thread), "0:0 false")
			wantUnchanged(t, k, round(thread), "1")
		}
	}
}

// P21.2: a thread with one value, of each key, the least and the greatest: it is told once, and is 0 from then on; the
// second going through has none.
func TestNextOfOneValue(t *testing.T) {
	for key := range most {
		for _, thread := range []int{0, 5, threads - 1} {
			for _, value := range values() {
				k := eight(t, set(thread, key, value))
				if value != 0 {
					want(t, k, next(thread), fmt.Sprintf("%d:%d true", 10+key, value))
					wantUnchanged(t, k, round(thread), "1")
					wantUnchanged(t, k, get(thread, key), "0 OK")
					want(t, k, next(thread), "0:0 false")
					wantUnchanged(t, k, round(thread), "2")
				}
				want(t, k, next(thread), "0:0 false")
				wantUnchanged(t, k, next(thread), "0:0 false")
			}
		}
	}
}

// P21.2: a thread with a value of each key: they are told by rising keys, in whatever order they were set.
func TestNextOfAValueOfEachKey(t *testing.T) {
	for _, order := range orders(5) {
		k := fresh(t, 5, row(5, func(i int) call { return create(20 - i) })...)
		for _, key := range order {
			after(k, set(4, key, int64(-1-key)))
		}
		for key := range 5 {
			want(t, k, next(4), fmt.Sprintf("%d:%d true", 20-key, -1-key))
			wantUnchanged(t, k, round(4), "1")
			for other := range 5 {
				value := 0
				if other > key {
					value = -1 - other
				}
				wantUnchanged(t, k, get(4, other), fmt.Sprint(value, " OK"))
			}
		}
		want(t, k, next(4), "0:0 false")
		wantUnchanged(t, k, round(4), "2")
	}
	k := eight(t, row(most, func(i int) call { return set(15, i, int64(i)+100) })...)
	for key := range most {
		want(t, k, next(15), fmt.Sprintf("%d:%d true", 10+key, 100+key))
	}
	want(t, k, next(15), "0:0 false")
	wantUnchanged(t, k, round(15), "2")
}

// P21.2: keys without a destructor are passed, and their values stay; so are free ones.
func TestKeysWithoutADestructorArePassed(t *testing.T) {
	wantSteps(t, fresh(t, 4, create(-1), create(4), create(-1), create(-1), set(3, 0, 1), set(3, 1, 2), set(3, 2, 3), set(3, 3, -4)),
		step{next(3), "4:2 true", "4 [- 4 - -], 3 has 1 0 3 -4 in 1"},
		step{next(3), "0:0 false", "4 [- 4 - -], 3 has 1 0 3 -4 in 2"},
		step{next(3), "0:0 false", "4 [- 4 - -], 3 has 1 0 3 -4 in 2"},
		step{wipe(3), "OK", "4 [- 4 - -]"},
	)
	wantSteps(t, fresh(t, 2, create(-1), create(-1), set(0, 0, 7), set(0, 1, 8)),
		step{next(0), "0:0 false", "2 [- -], 0 has 7 8 in 1"},
		step{next(0), "0:0 false", "2 [- -], 0 has 7 8 in 1"},
		step{drop(0), "OK", "1 [. -], 0 has . 8 in 1"},
		step{wipe(0), "OK", "1 [. -]"},
	)
	wantSteps(t, three(t, drop(0), drop(1), set(2, 2, 9)),
		step{next(2), "7:9 true", "1 [. . 7], 2 has . . 0 in 1"},
		step{next(2), "0:0 false", "1 [. . 7], 2 has . . 0 in 2"},
	)
	// The program 0 is a destructor as others are.
	wantSteps(t, fresh(t, 1, create(0), set(2, 0, 9)),
		step{next(2), "0:9 true", "1 [0], 2 has 0 in 1"},
		step{next(2), "0:0 false", "1 [0], 2 has 0 in 2"},
	)
}

// P21.2: what is set meanwhile is met where the going through comes to it: ahead of where it stands in the same one, at
// the key that was told last, or behind that one, in the next one.
func TestSetMeanwhile(t *testing.T) {
	// It stands at key 1, which was told: 2 is ahead of it, 0 is behind it.
	begun := func() *keys.Keys { return three(t, set(9, 1, 60), next(9)) }
	wantForetold(t, "begun", begun(), 9, "7@1 5@2 6@2 7@2 5@3 6@3 7@3 5@4 6@4 7@4")
	wantSteps(t, begun(),
		step{set(9, 2, 71), "OK", "3 [5 6 7], 9 has 0 0 71 in 1"},
		step{next(9), "7:71 true", "3 [5 6 7], 9 has 0 0 0 in 1"},
		step{next(9), "0:0 false", "3 [5 6 7], 9 has 0 0 0 in 2"},
	)
	wantSteps(t, begun(),
		step{set(9, 1, 61), "OK", "3 [5 6 7], 9 has 0 61 0 in 1"},
		step{next(9), "6:61 true", "3 [5 6 7], 9 has 0 0 0 in 2"},
		step{next(9), "0:0 false", "3 [5 6 7], 9 has 0 0 0 in 3"},
	)
	wantSteps(t, begun(),
		step{set(9, 0, 51), "OK", "3 [5 6 7], 9 has 51 0 0 in 1"},
		step{next(9), "5:51 true", "3 [5 6 7], 9 has 0 0 0 in 2"},
		step{next(9), "0:0 false", "3 [5 6 7], 9 has 0 0 0 in 3"},
	)
	wantSteps(t, begun(),
		step{set(9, 0, 51), "OK", "3 [5 6 7], 9 has 51 0 0 in 1"},
		step{set(9, 1, 61), "OK", "3 [5 6 7], 9 has 51 61 0 in 1"},
		step{set(9, 2, 71), "OK", "3 [5 6 7], 9 has 51 61 71 in 1"},
		step{next(9), "7:71 true", "3 [5 6 7], 9 has 51 61 0 in 1"},
		step{set(9, 2, 72), "OK", "3 [5 6 7], 9 has 51 61 72 in 1"},
		step{next(9), "5:51 true", "3 [5 6 7], 9 has 0 61 72 in 2"},
		step{set(9, 1, 62), "OK", "3 [5 6 7], 9 has 0 62 72 in 2"},
		step{set(9, 2, 0), "OK", "3 [5 6 7], 9 has 0 62 0 in 2"},
		step{next(9), "6:62 true", "3 [5 6 7], 9 has 0 0 0 in 2"},
		step{next(9), "0:0 false", "3 [5 6 7], 9 has 0 0 0 in 3"},
	)
	// What is taken away meanwhile is not met.
	wantSteps(t, three(t, set(9, 0, 50), set(9, 1, 60), set(9, 2, 70)),
		step{next(9), "5:50 true", "3 [5 6 7], 9 has 0 60 70 in 1"},
		step{set(9, 1, 0), "OK", "3 [5 6 7], 9 has 0 0 70 in 1"},
		step{next(9), "7:70 true", "3 [5 6 7], 9 has 0 0 0 in 1"},
		step{next(9), "0:0 false", "3 [5 6 7], 9 has 0 0 0 in 2"},
	)
}

// P21.2: from each key that was told, and in each going through, what comes next.
func TestWhereItStands(t *testing.T) {
	all := []string{"5@1", "6@1", "7@1", "5@2", "6@2", "7@2", "5@3", "6@3", "7@3", "5@4", "6@4", "7@4"}
	k := three(t)
	for at := 0; ; at++ {
		wantForetold(t, fmt.Sprint(at, " were told"), k, 1, strings.Join(all[at:], " "))
		after(k, set(1, 0, 1), set(1, 1, 1), set(1, 2, 1))
		if at == len(all) {
			break
		}
		want(t, k, next(1), fmt.Sprintf("%d:1 true", 5+at%3))
		wantUnchanged(t, k, round(1), fmt.Sprint(at/3+1))
	}
	want(t, k, next(1), "0:0 false")
	wantForetold(t, "over", k, 1, "")
}

// P21.2: a key that is deleted meanwhile is not met any more; one that is made anew, or made the first time, is, with a
// value that is set then.
func TestKeysMeanwhile(t *testing.T) {
	begun := func() *keys.Keys {
		return three(t, set(9, 0, 50), set(9, 1, 60), set(9, 2, 70), next(9))
	}
	wantSteps(t, begun(),
		step{drop(1), "OK", "2 [5 . 7], 9 has 0 . 70 in 1"},
		step{next(9), "7:70 true", "2 [5 . 7], 9 has 0 . 0 in 1"},
		step{next(9), "0:0 false", "2 [5 . 7], 9 has 0 . 0 in 2"},
	)
	wantSteps(t, begun(),
		step{drop(1), "OK", "2 [5 . 7], 9 has 0 . 70 in 1"},
		step{create(8), "1 OK", "3 [5 8 7], 9 has 0 0 70 in 1"},
		step{set(9, 1, 80), "OK", "3 [5 8 7], 9 has 0 80 70 in 1"},
		step{next(9), "8:80 true", "3 [5 8 7], 9 has 0 0 70 in 1"},
		step{next(9), "7:70 true", "3 [5 8 7], 9 has 0 0 0 in 1"},
		step{next(9), "0:0 false", "3 [5 8 7], 9 has 0 0 0 in 2"},
	)
	wantSteps(t, begun(),
		step{drop(1), "OK", "2 [5 . 7], 9 has 0 . 70 in 1"},
		step{create(-1), "1 OK", "3 [5 - 7], 9 has 0 0 70 in 1"},
		step{set(9, 1, 80), "OK", "3 [5 - 7], 9 has 0 80 70 in 1"},
		step{next(9), "7:70 true", "3 [5 - 7], 9 has 0 80 0 in 1"},
		step{next(9), "0:0 false", "3 [5 - 7], 9 has 0 80 0 in 2"},
	)
	wantSteps(t, begun(),
		step{drop(0), "OK", "2 [. 6 7], 9 has . 60 70 in 1"},
		step{create(4), "0 OK", "3 [4 6 7], 9 has 0 60 70 in 1"},
		step{set(9, 0, 40), "OK", "3 [4 6 7], 9 has 40 60 70 in 1"},
		step{next(9), "6:60 true", "3 [4 6 7], 9 has 40 0 70 in 1"},
		step{drop(2), "OK", "2 [4 6], 9 has 40 0 in 1"},
		step{next(9), "4:40 true", "2 [4 6], 9 has 0 0 in 2"},
		step{create(9), "2 OK", "3 [4 6 9], 9 has 0 0 0 in 2"},
		step{set(9, 2, 90), "OK", "3 [4 6 9], 9 has 0 0 90 in 2"},
		step{next(9), "9:90 true", "3 [4 6 9], 9 has 0 0 0 in 2"},
		step{next(9), "0:0 false", "3 [4 6 9], 9 has 0 0 0 in 3"},
	)
	wantSteps(t, begun(),
		step{drop(0), "OK", "2 [. 6 7], 9 has . 60 70 in 1"},
		step{drop(1), "OK", "1 [. . 7], 9 has . . 70 in 1"},
		step{drop(2), "OK", "0 [], 9 has  in 1"},
		step{next(9), "0:0 false", "0 [], 9 has  in 2"},
		step{create(3), "0 OK", "1 [3], 9 has 0 in 2"},
		step{set(9, 0, 30), "OK", "1 [3], 9 has 30 in 2"},
		step{next(9), "0:0 false", "1 [3], 9 has 30 in 2"},
	)
	// One key alone, which is made anew behind each Next, is gone through no more often.
	wantSteps(t, fresh(t, 1, create(1), set(0, 0, 10)),
		step{next(0), "1:10 true", "1 [1], 0 has 0 in 1"},
		step{drop(0), "OK", "0 [], 0 has  in 1"},
		step{create(2), "0 OK", "1 [2], 0 has 0 in 1"},
		step{set(0, 0, 20), "OK", "1 [2], 0 has 20 in 1"},
		step{next(0), "2:20 true", "1 [2], 0 has 0 in 2"},
		step{set(0, 0, 20), "OK", "1 [2], 0 has 20 in 2"},
		step{next(0), "2:20 true", "1 [2], 0 has 0 in 3"},
		step{set(0, 0, 20), "OK", "1 [2], 0 has 20 in 3"},
		step{next(0), "2:20 true", "1 [2], 0 has 0 in 4"},
		step{drop(0), "OK", "0 [], 0 has  in 4"},
		step{create(3), "0 OK", "1 [3], 0 has 0 in 4"},
		step{set(0, 0, 30), "OK", "1 [3], 0 has 30 in 4"},
		step{next(0), "0:0 false", "1 [3], 0 has 30 in 4"},
	)
}

// P21.2, P21.5: from the first going through to the fourth, of each number of keys; it is over behind the fourth, though
// values are left, and those stay.
func TestOverBehindTheFourth(t *testing.T) {
	for count := 1; count <= most; count++ {
		calls := append(row(count, func(i int) call { return create(i) }), row(count, func(i int) call { return set(2, i, 1) })...)
		k := fresh(t, count, calls...)
		value := int64(1)
		for going := 1; going <= rounds; going++ {
			for key := range count {
				x, ok := k.Next(2)
				if !ok || x.Program != key || x.Value != int64(going) || k.Round(2) != going {
					t.Errorf("%d keys, %d. going through, key %d: %v, %v, round %d", count, going, key, x, ok, k.Round(2))
				}
				want(t, k, set(2, key, int64(going+1)), "OK")
			}
			value++
		}
		for range 3 {
			want(t, k, next(2), "0:0 false")
			wantUnchanged(t, k, round(2), "4")
			for key := range count {
				wantUnchanged(t, k, get(2, key), fmt.Sprint(value, " OK"))
			}
		}
	}
}

// P21.2: it is over behind each going through in which there was none, the fourth among them.
func TestOverBehindOneOfNone(t *testing.T) {
	for told := 0; told <= rounds; told++ {
		k := three(t)
		for i := range told {
			want(t, k, set(2, 1, int64(i)+1), "OK")
			want(t, k, next(2), fmt.Sprintf("6:%d true", i+1))
			wantUnchanged(t, k, round(2), fmt.Sprint(i+1))
		}
		want(t, k, next(2), "0:0 false")
		wantUnchanged(t, k, round(2), fmt.Sprint(min(told+1, rounds)))
		wantUnchanged(t, k, next(2), "0:0 false")
	}
}

// P21.2, P21.1: it stays over till Clear; Set and Get go on, and what is set is not told.
func TestItStaysOver(t *testing.T) {
	over := map[string][]call{
		"behind the first": {next(4)},
		"behind the third": {set(4, 2, 1), next(4), set(4, 2, 1), next(4), next(4)},
		"behind the last": {set(4, 2, 1), next(4), set(4, 2, 1), next(4), set(4, 2, 1), next(4), set(4, 2, 1), next(4),
			next(4)},
	}
	for name, calls := range over {
		k := three(t, calls...)
		was := k.Round(4)
		for key := range 3 {
			for _, value := range values() {
				want(t, k, set(4, key, value), "OK")
				want(t, k, get(4, key), fmt.Sprint(value, " OK"))
				wantUnchanged(t, k, next(4), "0:0 false")
				wantUnchanged(t, k, round(4), fmt.Sprint(was))
			}
		}
		after(k, drop(1), create(9), set(4, 1, 90))
		wantUnchanged(t, k, next(4), "0:0 false")
		wantForetold(t, name, k, 4, "")
		want(t, k, wipe(4), "OK")
		wantStand(t, name, k, "3 [5 9 7]")
		wantForetold(t, name, k, 4, "5@1 9@1 7@1 5@2 9@2 7@2 5@3 9@3 7@3 5@4 9@4 7@4")
	}
}

// P21.2: Clear ahead of the first Next, in the middle of a going through, and behind its end: as one that never ended.
func TestClear(t *testing.T) {
	ahead := []call{set(3, 0, 50), set(3, 1, 60), set(3, 2, 70)}
	for name, calls := range map[string][]call{
		"of no value":                    {},
		"ahead of the first Next":        ahead,
		"behind the first Next":          append(ahead, next(3)),
		"in the middle":                  append(ahead, next(3), next(3), set(3, 0, 51)),
		"behind the last key":            append(ahead, next(3), next(3), next(3)),
		"in the second going through":    append(ahead, next(3), set(3, 0, 51), next(3), next(3), next(3), set(3, 2, 71)),
		"behind the end":                 append(ahead, next(3), next(3), next(3), next(3)),
		"behind the end, of what is set": append(ahead, next(3), next(3), next(3), next(3), set(3, 0, 8), set(3, 2, 9)),
		"behind the fourth": {set(3, 1, 1), next(3), set(3, 1, 1), next(3), set(3, 1, 1), next(3), set(3, 1, 1), next(3),
			set(3, 1, 1), next(3)},
	} {
		k := three(t, set(2, 0, 5), set(2, 1, 6), next(2), set(4, 1, 7))
		after(k, calls...)
		for range 2 {
			want(t, k, wipe(3), "OK")
			wantStand(t, name, k, "3 [5 6 7], 2 has 0 6 0 in 1, 4 has 0 7 0 in 0")
			wantSame(t, name, k, three(t, set(2, 0, 5), set(2, 1, 6), next(2), set(4, 1, 7)), true)
			wantUnchanged(t, k, wipe(3), "OK")
		}
		want(t, k, set(3, 1, 66), "OK")
		want(t, k, next(3), "6:66 true")
		wantUnchanged(t, k, round(3), "1")
		want(t, k, next(3), "0:0 false")
		wantUnchanged(t, k, round(3), "2")
		want(t, k, next(2), "6:6 true")
		wantUnchanged(t, k, round(2), "1")
	}
}

// P21.2: Clear looks at values of keys without a destructor, too, and of each thread alone.
func TestClearOfEachThread(t *testing.T) {
	for thread := range threads {
		k := fresh(t, most, row(most, func(i int) call { return create(i - 1) })...)
		for each := range threads {
			after(k, row(most, func(i int) call { return set(each, i, int64(each)-20) })...)
			after(k, next(each))
		}
		want(t, k, wipe(thread), "OK")
		for each := range threads {
			for key := range most {
				value := each - 20
				if each == thread || key == 1 {
					value = 0
				}
				wantUnchanged(t, k, get(each, key), fmt.Sprint(value, " OK"))
			}
			going := "1"
			if each == thread {
				going = "0"
			}
			wantUnchanged(t, k, round(each), going)
		}
	}
}

// P21.2: two threads that end turn about, each where it stands itself.
func TestTwoThreadsThatEnd(t *testing.T) {
	wantSteps(t, three(t, set(0, 0, 1), set(0, 2, 2), set(15, 1, 3), set(15, 2, 4)),
		step{next(0), "5:1 true", "3 [5 6 7], 0 has 0 0 2 in 1, 15 has 0 3 4 in 0"},
		step{next(15), "6:3 true", "3 [5 6 7], 0 has 0 0 2 in 1, 15 has 0 0 4 in 1"},
		step{set(0, 1, 9), "OK", "3 [5 6 7], 0 has 0 9 2 in 1, 15 has 0 0 4 in 1"},
		step{set(15, 1, 8), "OK", "3 [5 6 7], 0 has 0 9 2 in 1, 15 has 0 8 4 in 1"},
		step{next(0), "6:9 true", "3 [5 6 7], 0 has 0 0 2 in 1, 15 has 0 8 4 in 1"},
		step{next(15), "7:4 true", "3 [5 6 7], 0 has 0 0 2 in 1, 15 has 0 8 0 in 1"},
		step{next(15), "6:8 true", "3 [5 6 7], 0 has 0 0 2 in 1, 15 has 0 0 0 in 2"},
		step{next(0), "7:2 true", "3 [5 6 7], 0 has 0 0 0 in 1, 15 has 0 0 0 in 2"},
		step{drop(2), "OK", "2 [5 6], 0 has 0 0 in 1, 15 has 0 0 in 2"},
		step{next(15), "0:0 false", "2 [5 6], 0 has 0 0 in 1, 15 has 0 0 in 3"},
		step{set(0, 0, 7), "OK", "2 [5 6], 0 has 7 0 in 1, 15 has 0 0 in 3"},
		step{next(0), "5:7 true", "2 [5 6], 0 has 0 0 in 2, 15 has 0 0 in 3"},
		step{wipe(15), "OK", "2 [5 6], 0 has 0 0 in 2"},
		step{next(0), "0:0 false", "2 [5 6], 0 has 0 0 in 3"},
		step{next(15), "0:0 false", "2 [5 6], 0 has 0 0 in 3, 15 has 0 0 in 1"},
	)
}

// P21.2: all threads end turn about, and each is told its own values.
func TestAllThreadsEnd(t *testing.T) {
	k := eight(t)
	for thread := range threads {
		after(k, row(most, func(i int) call { return set(thread, i, int64(thread*100+i+1)) })...)
	}
	for key := range most {
		for thread := range threads {
			want(t, k, next(thread), fmt.Sprintf("%d:%d true", 10+key, thread*100+key+1))
			wantUnchanged(t, k, round(thread), "1")
		}
	}
	for thread := range threads {
		want(t, k, next(thread), "0:0 false")
		wantUnchanged(t, k, round(thread), "2")
	}
}
