package ptimer_test

import (
	"fmt"
	"slices"
	"testing"
)

// P19.2: a now that is the deadline, one less, and one more; by the other clock it is never due.
func TestDueOnce(t *testing.T) {
	for _, clock := range []int{real, mono} {
		for _, at := range []int64{1, 2, 63, 64, 100, 1 << 32, last - 1} {
			for _, now := range []int64{at, at + 1, last} {
				x := fresh(t, 1, arm(0, clock, at, 0))
				wantUnchanged(t, x, due(clock, 0), "[]")
				wantUnchanged(t, x, due(clock, at-1), "[]")
				wantUnchanged(t, x, due(1-clock, now), "[]")
				want(t, x, due(clock, now), "[0]")
				wantStand(t, "it was due", x, "off out 0 0 | [] []")
				wantUnchanged(t, x, due(clock, last), "[]")
				want(t, x, taken(0), "0 OK")
				wantUnchanged(t, x, due(clock, last), "[]")
			}
		}
	}
}

// P19.2: each now from ahead of the deadline till many intervals behind it, with a notice that is out, and with none.
func TestDueAgainAndAgain(t *testing.T) {
	for interval := int64(1); interval <= 7; interval++ {
		for at := range int64(6) {
			for now := range int64(60) {
				x := fresh(t, 1, arm(0, mono, at, interval))
				if now < at {
					wantUnchanged(t, x, due(mono, now), "[]")
					continue
				}
				often, next := int64(0), at
				for next <= now {
					often++
					next += interval
				}
				want(t, x, due(mono, now), "[0]")
				wantOne(t, "none was out", x, 0, fmt.Sprintf("mono %d+%d out %d 0", next, interval, often-1))
				want(t, x, arm(0, mono, at, interval), "OK")
				want(t, x, due(mono, now), "[]")
				wantOne(t, "one was out", x, 0, fmt.Sprintf("mono %d+%d out %d 0", next, interval, 2*often-1))
			}
		}
	}
}

// P19.2: a deadline that is past when it is armed is due at once; each interval behind it, too.
func TestADeadlineThatIsPast(t *testing.T) {
	wantSteps(t, fresh(t, 2, arm(1, mono, 10, 0), due(mono, 50), taken(1)),
		step{arm(0, mono, 0, 0), "OK", "mono 0+0 0 0; off 0 0 | [] [0]"},
		step{due(mono, 50), "[0]", "off out 0 0; off 0 0 | [] []"},
		step{arm(1, mono, 20, 10), "OK", "off out 0 0; mono 20+10 0 0 | [] [1]"},
		step{due(mono, 50), "[1]", "off out 0 0; mono 60+10 out 3 0 | [] [1]"},
		step{arm(0, mono, 49, 0), "OK", "mono 49+0 out 0 0; mono 60+10 out 3 0 | [] [0 1]"},
		step{due(mono, 50), "[]", "off out 1 0; mono 60+10 out 3 0 | [] [1]"},
	)
}

// P19.2: asked again at the same now, and at an earlier one, it is not due again; armed for an earlier one it is.
func TestDueAskedAgain(t *testing.T) {
	x := fresh(t, 2, arm(0, mono, 10, 4), arm(1, mono, 14, 0))
	want(t, x, due(mono, 13), "[0]")
	for _, now := range []int64{13, 12, 10, 1, 0, 13} {
		wantUnchanged(t, x, due(mono, now), "[]")
	}
	want(t, x, arm(1, mono, 5, 0), "OK")
	want(t, x, due(mono, 4), "[]")
	want(t, x, due(mono, 5), "[1]")
	wantStand(t, "an earlier now", x, "mono 14+4 out 0 0; off out 0 0 | [] [0]")
}

// P19.2: what is counted goes to the greatest count, and stays there, by one call and by many.
func TestManyIntervals(t *testing.T) {
	for _, x := range []struct {
		now     int64
		counted int
	}{{0, 0}, {1, 1}, {most - 1, most - 1}, {most, most}, {most + 1, most}, {most + 2, most}, {2 * most, most}, {1 << 16, most}, {1 << 31, most}, {1<<32 + 5, most}, {last - 1, most}} {
		one := fresh(t, 1, arm(0, real, 0, 1))
		want(t, one, due(real, x.now), "[0]")
		wantStand(t, "none was out", one, fmt.Sprintf("real %d+1 out %d 0 | [0] []", x.now+1, x.counted))
		want(t, one, taken(0), fmt.Sprint(x.counted, " OK"))
		want(t, one, due(real, x.now+1), "[0]")
		if x.now+2 <= last {
			wantStand(t, "behind it", one, fmt.Sprintf("real %d+1 out 0 %d | [0] []", x.now+2, x.counted))
		}
	}
	x := fresh(t, 1, arm(0, mono, 1, 1), due(mono, most-1))
	wantSteps(t, x,
		step{due(mono, most), "[]", "mono 32768+1 out 32766 0 | [] [0]"},
		step{due(mono, most+1), "[]", "mono 32769+1 out 32767 0 | [] [0]"},
		step{due(mono, most+2), "[]", "mono 32770+1 out 32767 0 | [] [0]"},
		step{due(mono, most+2), "[]", "mono 32770+1 out 32767 0 | [] [0]"},
		step{arm(0, mono, 5, 0), "OK", "mono 5+0 out 32767 0 | [] [0]"},
		step{due(mono, 5), "[]", "off out 32767 0 | [] []"},
		step{arm(0, real, 0, 1), "OK", "real 0+1 out 32767 0 | [0] []"},
		step{due(real, last-1), "[]", "real 1099511627776+1 out 32767 0 | [0] []"},
		step{due(real, last), "[]", "off out 32767 0 | [] []"},
		step{taken(0), "32767 OK", "off 0 32767 | [] []"},
		step{taken(0), "32767 OK", "off 0 32767 | [] []"},
	)
}

// P19.2: all intervals from the first time to the last one, of which none is beyond it.
func TestAllTheTimesThatThereAre(t *testing.T) {
	wantSteps(t, fresh(t, 1),
		step{arm(0, mono, 0, 1), "OK", "mono 0+1 0 0 | [] [0]"},
		step{due(mono, last), "[0]", "off out 32767 0 | [] []"},
		step{arm(0, mono, 0, last), "OK", "mono 0+1099511627776 out 32767 0 | [] [0]"},
		step{taken(0), "32767 OK", "mono 0+1099511627776 0 32767 | [] [0]"},
		step{due(mono, last), "[0]", "off out 1 32767 | [] []"},
	)
}

// ends are deadlines, intervals, nows, how often it is due then, and by what it is armed (or 0: it is not).
type ends struct {
	at, interval, now int64
	often, next       int64
}

func allEnds() []ends {
	return []ends{
		{last - 10, 10, last - 10, 1, last},
		{last - 10, 10, last - 1, 1, last},
		{last - 10, 10, last, 2, 0},
		{last - 10, 11, last - 10, 1, 0},
		{last - 10, 11, last, 1, 0},
		{last - 10, 9, last - 10, 1, last - 1},
		{last - 10, 9, last - 1, 2, 0},
		{last - 10, 5, last - 10, 1, last - 5},
		{last - 10, 5, last - 5, 2, last},
		{last - 10, 5, last - 1, 2, last},
		{last - 10, 5, last, 3, 0},
		{last - 10, 4, last - 1, 3, 0},
		{last - 1, 1, last - 1, 1, last},
		{last - 1, 1, last, 2, 0},
		{last - 1, 2, last - 1, 1, 0},
		{last, 1, last, 1, 0},
		{last, last, last, 1, 0},
		{last, 0, last, 1, 0},
		{0, last, 0, 1, last},
		{0, last, last - 1, 1, last},
		{0, last, last, 2, 0},
		{1, last, 1, 1, 0},
		{1, last, last, 1, 0},
		{1, last - 1, 1, 1, last},
		{1, last - 1, last, 2, 0},
		{0, last - 1, last - 2, 1, last - 1},
		{0, last - 1, last - 1, 2, 0},
		{0, last / 2, last - 1, 2, last},
		{0, last / 2, last, 3, 0},
		{5, last / 2, last, 2, 0},
	}
}

// P19.2: an interval whose next deadline is the greatest time, and one whose next deadline is beyond it, with a notice
// that is out, and with none.
func TestDeadlinesAtTheEndOfTime(t *testing.T) {
	for _, e := range allEnds() {
		for _, clock := range []int{real, mono} {
			armed := "off"
			if e.next != 0 {
				armed = fmt.Sprintf("%s %d+%d", []string{"real", "mono"}[clock], e.next, e.interval)
			}
			what := fmt.Sprintf("%+v", e)
			x := fresh(t, 1, arm(0, clock, e.at, e.interval))
			want(t, x, due(clock, e.now), "[0]")
			wantOne(t, what, x, 0, fmt.Sprintf("%s out %d 0", armed, e.often-1))
			want(t, x, arm(0, clock, e.at, e.interval), "OK")
			want(t, x, due(clock, e.now), "[]")
			wantOne(t, what, x, 0, fmt.Sprintf("%s out %d 0", armed, 2*e.often-1))
			want(t, x, taken(0), fmt.Sprint(2*e.often-1, " OK"))
			if e.next == 0 {
				wantUnchanged(t, x, due(clock, last), "[]")
			} else {
				wantUnchanged(t, x, due(clock, e.next-1), "[]")
				want(t, x, due(clock, e.next), "[0]")
			}
		}
	}
}

// P19.2: of several of one deadline the one that was set first comes first, whatever their numbers; an earlier deadline
// comes ahead.
func TestTheOrderOfThoseDue(t *testing.T) {
	for _, ids := range [][]int{{0, 1, 2, 3, 4, 5, 6, 7}, {7, 6, 5, 4, 3, 2, 1, 0}, {3, 7, 0, 5, 1, 6, 2, 4}} {
		alike, falling, by64 := fresh(t, 8), fresh(t, 8), fresh(t, 8)
		for i, id := range ids {
			after(alike, arm(id, mono, 9, 0))
			after(falling, arm(id, mono, 100-int64(i), 0))
			after(by64, arm(id, mono, 9+64*int64(7-i), 0))
		}
		want(t, alike, due(mono, 9), listText(ids))
		reverse := slices.Clone(ids)
		slices.Reverse(reverse)
		want(t, falling, due(mono, 100), listText(reverse))
		want(t, by64, due(mono, last), listText(reverse))
	}
}

// P19.1, P19.2: who is armed again, also by the same deadline, by the same clock or by the other one, comes behind all
// of that one; so does who is armed anew by its interval, in the order in which they were due.
func TestTheOrderOfThoseArmedAgain(t *testing.T) {
	wantSteps(t, fresh(t, 4, arm(2, mono, 10, 0), arm(0, mono, 10, 0), arm(3, mono, 10, 0)),
		step{arm(2, mono, 10, 0), "OK", "mono 10+0 0 0; off 0 0; mono 10+0 0 0; mono 10+0 0 0 | [] [0 3 2]"},
		step{arm(0, real, 10, 0), "OK", "real 10+0 0 0; off 0 0; mono 10+0 0 0; mono 10+0 0 0 | [0] [3 2]"},
		step{arm(0, mono, 10, 0), "OK", "mono 10+0 0 0; off 0 0; mono 10+0 0 0; mono 10+0 0 0 | [] [3 2 0]"},
		step{arm(1, mono, 10, 0), "OK", "mono 10+0 0 0; mono 10+0 0 0; mono 10+0 0 0; mono 10+0 0 0 | [] [3 2 0 1]"},
		step{stop(3), "OK", "mono 10+0 0 0; mono 10+0 0 0; mono 10+0 0 0; off 0 0 | [] [2 0 1]"},
		step{arm(3, mono, 10, 0), "OK", "mono 10+0 0 0; mono 10+0 0 0; mono 10+0 0 0; mono 10+0 0 0 | [] [2 0 1 3]"},
		step{due(mono, 10), "[2 0 1 3]", "off out 0 0; off out 0 0; off out 0 0; off out 0 0 | [] []"},
	)
	wantSteps(t, fresh(t, 3, arm(2, mono, 4, 8), arm(1, mono, 6, 6), arm(0, mono, 12, 0)),
		step{due(mono, 5), "[2]", "mono 12+0 0 0; mono 6+6 0 0; mono 12+8 out 0 0 | [] [1 0 2]"},
		step{due(mono, 6), "[1]", "mono 12+0 0 0; mono 12+6 out 0 0; mono 12+8 out 0 0 | [] [0 2 1]"},
		step{taken(2), "0 OK", "mono 12+0 0 0; mono 12+6 out 0 0; mono 12+8 0 0 | [] [0 2 1]"},
		step{due(mono, 12), "[0 2]", "off out 0 0; mono 18+6 out 1 0; mono 20+8 out 0 0 | [] [1 2]"},
	)
	// By deadlines 1 is ahead of 0, both are armed by 12 then: so 1 stays ahead; both are behind 2, which had it before.
	wantSteps(t, fresh(t, 3, arm(0, mono, 8, 4), arm(1, mono, 2, 5), arm(2, mono, 12, 3)),
		step{due(mono, 8), "[1 0]", "mono 12+4 out 0 0; mono 12+5 out 1 0; mono 12+3 0 0 | [] [2 1 0]"},
		step{due(mono, 12), "[2]", "mono 16+4 out 1 0; mono 17+5 out 2 0; mono 15+3 out 0 0 | [] [2 0 1]"},
	)
}

// P19.2: timers of both clocks with the same deadlines: one clock's are nothing to the other one.
func TestBothClocks(t *testing.T) {
	wantSteps(t, fresh(t, 4, arm(3, real, 10, 4), arm(2, mono, 10, 4), arm(1, real, 10, 0), arm(0, mono, 10, 0)),
		step{due(mono, 10), "[2 0]", "off out 0 0; real 10+0 0 0; mono 14+4 out 0 0; real 10+4 0 0 | [3 1] [2]"},
		step{due(mono, 14), "[]", "off out 0 0; real 10+0 0 0; mono 18+4 out 1 0; real 10+4 0 0 | [3 1] [2]"},
		step{due(real, 18), "[3 1]", "off out 0 0; off out 0 0; mono 18+4 out 1 0; real 22+4 out 2 0 | [3] [2]"},
		step{arm(0, real, 22, 0), "OK", "real 22+0 out 0 0; off out 0 0; mono 18+4 out 1 0; real 22+4 out 2 0 | [3 0] [2]"},
		step{due(real, 22), "[]", "off out 1 0; off out 0 0; mono 18+4 out 1 0; real 26+4 out 3 0 | [3] [2]"},
	)
}

// P19.2: told is whose notice goes out alone, in the order of those due; whose notice is out is due beside them.
func TestToldIsWhoseNoticeGoesOut(t *testing.T) {
	x := fresh(t, 5)
	for _, id := range []int{4, 0, 3, 1, 2} {
		after(x, arm(id, mono, 10, 10))
	}
	want(t, x, due(mono, 10), "[4 0 3 1 2]")
	want(t, x, due(mono, 20), "[]")
	after(x, taken(1), taken(4))
	want(t, x, due(mono, 30), "[4 1]")
	wantStand(t, "some were out", x, "mono 40+10 out 2 0; mono 40+10 out 0 1; mono 40+10 out 2 0; mono 40+10 out 2 0; mono 40+10 out 0 1 | [] [4 0 3 1 2]")
	after(x, taken(3), taken(2), taken(0))
	want(t, x, due(mono, 45), "[0 3 2]")
	after(x, taken(1), clear(4), stop(3), taken(3))
	want(t, x, due(mono, 50), "[1]")
}

// P19.2: what Due told is the caller's: no later call changes it, and what the caller does to it changes nothing.
func TestWhatDueToldIsTheCallers(t *testing.T) {
	x := fresh(t, 3, arm(0, mono, 1, 1), arm(1, mono, 1, 1), arm(2, mono, 1, 1))
	first := x.Due(mono, 1)
	after(x, taken(2), taken(0))
	second := x.Due(mono, 2)
	after(x, taken(1), arm(1, mono, 0, 0))
	third := x.Due(mono, 9)
	after(x, clear(0), clear(1), clear(2), due(mono, 20))
	if listText(first) != "[0 1 2]" || listText(second) != "[0 2]" || listText(third) != "[1]" {
		t.Errorf("told were %v, %v, %v", first, second, third)
	}
	x = fresh(t, 2, arm(0, mono, 1, 1), arm(1, mono, 1, 1))
	told := x.Due(mono, 1)
	told[0], told[1] = 7, 7
	wantStand(t, "what was told has changed", x, "mono 2+1 out 0 0; mono 2+1 out 0 0 | [] [0 1]")
}

// P19.3: with nothing counted, with something counted, of one whose notice is not out, and twice in a row.
func TestTaken(t *testing.T) {
	wantSteps(t, fresh(t, 2, arm(1, mono, 99, 1)),
		step{taken(0), "0 OK", "off 0 0; mono 99+1 0 0 | [] [1]"},
		step{arm(0, mono, 10, 4), "OK", "mono 10+4 0 0; mono 99+1 0 0 | [] [0 1]"},
		step{taken(0), "0 OK", "mono 10+4 0 0; mono 99+1 0 0 | [] [0 1]"},
		step{due(mono, 10), "[0]", "mono 14+4 out 0 0; mono 99+1 0 0 | [] [0 1]"},
		step{taken(0), "0 OK", "mono 14+4 0 0; mono 99+1 0 0 | [] [0 1]"},
		step{due(mono, 22), "[0]", "mono 26+4 out 2 0; mono 99+1 0 0 | [] [0 1]"},
		step{taken(0), "2 OK", "mono 26+4 0 2; mono 99+1 0 0 | [] [0 1]"},
		step{taken(0), "2 OK", "mono 26+4 0 2; mono 99+1 0 0 | [] [0 1]"},
		step{due(mono, 26), "[0]", "mono 30+4 out 0 2; mono 99+1 0 0 | [] [0 1]"},
		step{due(mono, 30), "[]", "mono 34+4 out 1 2; mono 99+1 0 0 | [] [0 1]"},
		step{taken(0), "1 OK", "mono 34+4 0 1; mono 99+1 0 0 | [] [0 1]"},
		step{due(mono, 34), "[0]", "mono 38+4 out 0 1; mono 99+1 0 0 | [] [0 1]"},
		step{taken(0), "0 OK", "mono 38+4 0 0; mono 99+1 0 0 | [] [0 1]"},
		step{taken(1), "0 OK", "mono 38+4 0 0; mono 99+1 0 0 | [] [0 1]"},
	)
}
