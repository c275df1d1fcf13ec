package keys_test

import (
	"fmt"
	"math"
	"testing"

	"metronome/keys"
)

// none are nil keys and zero ones.
func none() []*keys.Keys {
	return []*keys.Keys{nil, {}}
}

// far are numbers that are far off all that may be.
func far() []int {
	return []int{255, 256, 257, 1 << 31, 1 << 32, 1<<32 + 1, 1<<32 + 7, -1 << 32, -1<<32 + 1, math.MinInt, math.MinInt + 1, math.MaxInt - 1, math.MaxInt}
}

// noThreads are numbers that are no threads.
func noThreads() []int { return append(far(), -1, -2, -15, -16, -17, 16, 17, 31, 32, 64) }

// noKeys are numbers that are no keys.
func noKeys() []int { return append(far(), -1, -2, -8, -9, 8, 9, 15, 16, 64) }

// noDestructors are numbers that are neither programs nor none.
func noDestructors() []int { return append(far(), -2, -3, -31, -32, -33, 32, 33, 63, 64) }

// P21.1: a program that may not be is refused, ahead of that all keys are made.
func TestDestructorsThatMayNotBe(t *testing.T) {
	for _, k := range scenes(t) {
		for _, destructor := range noDestructors() {
			wantUnchanged(t, k, create(destructor), "0 ErrArg")
		}
	}
	full := eight(t)
	for _, destructor := range []int{-1, 0, last} {
		wantUnchanged(t, full, create(destructor), "0 ErrFull")
	}
	wantUnchanged(t, full, create(-2), "0 ErrArg")
	wantUnchanged(t, full, create(last+1), "0 ErrArg")
}

// P21.1, P21.2: a thread that may not be is refused, ahead of a key that is not made; nothing is told of it.
func TestThreadsThatMayNotBe(t *testing.T) {
	for _, k := range scenes(t) {
		for _, thread := range noThreads() {
			for _, key := range append(noKeys(), 0, 1, 7) {
				wantUnchanged(t, k, set(thread, key, 5), "ErrArg")
				wantUnchanged(t, k, get(thread, key), "0 ErrArg")
			}
			wantUnchanged(t, k, wipe(thread), "ErrArg")
			wantUnchanged(t, k, next(thread), "0:0 false")
			wantUnchanged(t, k, round(thread), "0")
		}
	}
}

// P21.1, P21.3: keys that are not made: beyond all that there are, below, free ones, and such as were deleted.
func TestKeysThatAreNotMade(t *testing.T) {
	for _, k := range append(scenes(t), fresh(t, 5, create(1), create(2), create(3), drop(1), drop(2))) {
		not := noKeys()
		for key := range most {
			if _, is := k.Made(key); !is {
				not = append(not, key)
			}
		}
		for _, key := range not {
			wantUnchanged(t, k, drop(key), "ErrNone")
			wantUnchanged(t, k, made(key), "0 false")
			for _, thread := range []int{0, 1, threads - 1} {
				wantUnchanged(t, k, set(thread, key, 5), "ErrNone")
				wantUnchanged(t, k, set(thread, key, 0), "ErrNone")
				wantUnchanged(t, k, get(thread, key), "0 ErrNone")
			}
		}
	}
}

// P21.1, P21.2, P21.3: nil keys and zero ones refuse whatever they are given, ahead of all else, and have nothing.
func TestNilAndZeroOnes(t *testing.T) {
	for _, k := range none() {
		for range 2 {
			for _, destructor := range append(noDestructors(), -1, 0, last) {
				want(t, k, create(destructor), "0 ErrNil")
			}
			for _, key := range append(noKeys(), 0, 1, 7) {
				want(t, k, drop(key), "ErrNil")
				want(t, k, made(key), "0 false")
				for _, thread := range append(noThreads(), 0, threads-1) {
					want(t, k, set(thread, key, 5), "ErrNil")
					want(t, k, get(thread, key), "0 ErrNil")
				}
			}
			for _, thread := range append(noThreads(), 0, 1, threads-1) {
				want(t, k, next(thread), "0:0 false")
				want(t, k, round(thread), "0")
				want(t, k, wipe(thread), "ErrNil")
			}
			if k.Len() != 0 || k.Copy() != nil {
				t.Errorf("none has %d, and a copy %v", k.Len(), k.Copy())
			}
		}
	}
}

// P21.3: what was refused has not made anything of zero ones.
func TestAZeroOneStaysZero(t *testing.T) {
	k := after(&keys.Keys{}, create(1), create(-1), drop(0), set(0, 0, 1), get(0, 0), next(0), next(15), wipe(0), made(0))
	if *k != (keys.Keys{}) {
		t.Errorf("a zero one became %+v", *k)
	}
	for _, other := range none() {
		wantSame(t, "a zero one", k, other, true)
	}
}

// P21.2: Next that is refused begins no going through, of that thread and of others.
func TestNextThatIsRefusedBeginsNothing(t *testing.T) {
	for _, thread := range noThreads() {
		k := three(t, set(0, 0, 5), set(15, 1, 6), next(15))
		wantUnchanged(t, k, next(thread), "0:0 false")
		for each := range threads {
			going := "0"
			if each == 15 {
				going = "1"
			}
			wantUnchanged(t, k, round(each), going)
		}
		wantForetold(t, fmt.Sprint("Next of ", thread), k, 0, "5@1 6@1 7@1 5@2 6@2 7@2 5@3 6@3 7@3 5@4 6@4 7@4")
		wantForetold(t, fmt.Sprint("Next of ", thread), k, 15, "7@1 5@2 6@2 7@2 5@3 6@3 7@3 5@4 6@4 7@4")
	}
}
