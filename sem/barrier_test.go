package sem_test

import (
	"fmt"
	"math"
	"testing"

	"metronome/api"
	"metronome/sem"
)

// P14.2, P14.3
func TestTheChaptersBarrier(t *testing.T) {
	wantSteps(t, someBarrier(t, 3),
		step{wait(1, 5), "[] OK", "3 [1]"},
		step{wait(2, 9), "[] OK", "3 [2 1]"},
		step{wait(3, 1), "[2 1 3] OK", "3 []"},
	)
}

// P14.2, P14.3
func TestNewBarrierHasEachCountThatMayBe(t *testing.T) {
	for count := 1; count <= 16; count++ {
		wantStand(t, "NewBarrier", someBarrier(t, count), fmt.Sprint(count, " []"))
	}
}

// P14.2
func TestNewBarrierRefusesOtherCounts(t *testing.T) {
	for _, count := range []int{0, -1, -2, -16, 17, 18, 32, 256, 257, 1 << 32, 1<<32 + 1, -1 << 32, math.MinInt, math.MinInt + 1, math.MaxInt} {
		if b, err := sem.NewBarrier(count); b != nil || err != api.ErrArg {
			t.Errorf("NewBarrier(%d): %v, %s", count, b, errText(err))
		}
	}
}

// P14.2: as often as it comes.
func TestABarrierOfOneThreadLetsEachGoOn(t *testing.T) {
	b := someBarrier(t, 1)
	for thread := range 16 {
		for prio := 1; prio <= 31; prio++ {
			wantSteps(t, b, step{wait(thread, prio), fmt.Sprintf("[%d] OK", thread), "1 []"})
		}
	}
	for thread := range 16 {
		wantRefused(t, b, leave(thread), "ErrNone")
		wantRefused(t, b, change(thread, 5), "ErrNone")
	}
}

// P14.2: round behind round; whoever comes last goes on behind the other one, also with a greater priority.
func TestABarrierOfTwoThreads(t *testing.T) {
	wantSteps(t, someBarrier(t, 2),
		step{wait(4, 1), "[] OK", "2 [4]"},
		step{wait(0, 31), "[4 0] OK", "2 []"},
		step{wait(0, 31), "[] OK", "2 [0]"},
		step{wait(0, 31), "[] ErrState", "2 [0]"},
		step{wait(4, 1), "[0 4] OK", "2 []"},
		step{wait(15, 3), "[] OK", "2 [15]"},
		step{wait(7, 3), "[15 7] OK", "2 []"},
		step{wait(7, 3), "[] OK", "2 [7]"},
	)
}

// P14.2: each count, of one priority: in the order in which they came; and the round behind it, in another order.
func TestBarriersOfOnePriorityRoundByRound(t *testing.T) {
	for count := 1; count <= 16; count++ {
		b := someBarrier(t, count)
		for round := range 5 {
			var came []int
			for i := range count {
				thread := (i*7 + round) % 16
				came = append(came, thread)
				if i < count-1 {
					wantSteps(t, b, step{wait(thread, 9), "[] OK", fmt.Sprint(count, " ", came)})
				}
			}
			wantSteps(t, b, step{wait(came[count-1], 9), fmt.Sprint(came, " OK"), fmt.Sprint(count, " []")})
		}
	}
}

// P14.2: each count, of rising and of falling priorities; the last one is behind all.
func TestBarriersOfSeveralPriorities(t *testing.T) {
	for count := 1; count <= 16; count++ {
		rising, falling := someBarrier(t, count), someBarrier(t, count)
		var up, down []int
		for thread := range count - 1 {
			want(t, rising, wait(thread, thread+1), "[] OK")
			want(t, falling, wait(thread, 31-thread), "[] OK")
			up, down = append(up, count-2-thread), append(down, thread)
		}
		wantSteps(t, rising, step{wait(15, 31), listText(append(up, 15)) + " OK", fmt.Sprint(count, " []")})
		wantSteps(t, falling, step{wait(15, 1), listText(append(down, 15)) + " OK", fmt.Sprint(count, " []")})
	}
	wantSteps(t, after(someBarrier(t, 6), wait(4, 1), wait(9, 31), wait(0, 1), wait(15, 31), wait(2, 16)),
		step{wait(3, 16), "[9 15 2 4 0 3] OK", "6 []"},
	)
}

// P14.2: one that left is missing again, and comes again from then on.
func TestWhoLeftABarrierIsMissing(t *testing.T) {
	wantSteps(t, after(someBarrier(t, 3), wait(1, 5), wait(2, 5)),
		step{leave(1), "OK", "3 [2]"},
		step{leave(1), "ErrNone", "3 [2]"},
		step{change(1, 5), "ErrNone", "3 [2]"},
		step{wait(1, 5), "[] OK", "3 [2 1]"},
		step{leave(2), "OK", "3 [1]"},
		step{leave(1), "OK", "3 []"},
		step{wait(3, 5), "[] OK", "3 [3]"},
		step{wait(2, 5), "[] OK", "3 [3 2]"},
		step{wait(1, 5), "[3 2 1] OK", "3 []"},
		step{leave(2), "ErrNone", "3 []"},
	)
}

// P14.2: who goes on does so in the order of the priorities that they have then.
func TestThePrioritiesAtABarrierAreThoseOfTheEnd(t *testing.T) {
	wantSteps(t, after(someBarrier(t, 4), wait(1, 5), wait(2, 5), wait(3, 5)),
		step{change(3, 6), "OK", "4 [3 1 2]"},
		step{change(1, 4), "OK", "4 [3 2 1]"},
		step{wait(0, 31), "[3 2 1 0] OK", "4 []"},
		step{wait(1, 5), "[] OK", "4 [1]"},
		step{wait(3, 5), "[] OK", "4 [1 3]"},
	)
}

// P14.2: who comes twice is refused, also where it would be the last one.
func TestWhoWaitsAtABarrierIsNotTheLastOne(t *testing.T) {
	for count := 2; count <= 16; count++ {
		b := someBarrier(t, count)
		for thread := range count - 1 {
			want(t, b, wait(thread, 5), "[] OK")
		}
		for thread := range count - 1 {
			for _, prio := range []int{1, 5, 31} {
				wantRefused(t, b, wait(thread, prio), "[] ErrState")
			}
		}
		if got := b.wait(15, 5); b.Len() != 0 {
			t.Errorf("the last one of %d: %s", count, got)
		}
	}
}
