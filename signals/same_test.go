package signals_test

import (
	"testing"

	"metronome/signals"
)

// P17.4: it differs in one thing alone.
func TestSameOfTwoThatDiffer(t *testing.T) {
	for _, x := range []struct {
		what string
		a, b *signals.Signals
	}{
		{"how many threads", fresh(t, 2, 2), fresh(t, 3, 2)},
		{"how many threads, at the ends", fresh(t, 1, 2), fresh(t, 16, 2)},
		{"slots", fresh(t, 2, 2), fresh(t, 2, 3)},
		{"slots, at the ends", fresh(t, 2, 1), fresh(t, 2, 32)},
		{"threads and slots", fresh(t, 2, 3), fresh(t, 3, 2)},
		{"slots, where signals are queued", after(fresh(t, 2, 2), send(0, 16, 1)), after(fresh(t, 2, 3), send(0, 16, 1))},
		{"a mask", fresh(t, 2, 2), after(fresh(t, 2, 2), setMask(0, of(1)))},
		{"the last signal of a mask", after(fresh(t, 2, 2), setMask(1, each)), after(fresh(t, 2, 2), setMask(1, each-of(31)))},
		{"whose mask it is", after(fresh(t, 2, 2), setMask(0, of(1))), after(fresh(t, 2, 2), setMask(1, of(1)))},
		{"the mask of the last thread", after(fresh(t, 16, 2), setMask(15, of(16))), fresh(t, 16, 2)},
		{"a signal that is pending", after(fresh(t, 2, 2), send(0, 1, 0)), fresh(t, 2, 2)},
		{"which one is pending", after(fresh(t, 2, 2), send(0, 1, 0)), after(fresh(t, 2, 2), send(0, 15, 0))},
		{"for whom it is pending", after(fresh(t, 2, 2), send(0, 1, 0)), after(fresh(t, 2, 2), send(1, 1, 0))},
		{"a signal that is queued", after(fresh(t, 2, 2), send(0, 16, 0)), fresh(t, 2, 2)},
		{"which one is queued", after(fresh(t, 2, 2), send(0, 16, 0)), after(fresh(t, 2, 2), send(0, 31, 0))},
		{"for whom it is queued", after(fresh(t, 2, 2), send(0, 16, 0)), after(fresh(t, 2, 2), send(1, 16, 0))},
		{"the last thread's", after(fresh(t, 16, 2), send(15, 31, 0)), fresh(t, 16, 2)},
		{"a queued value", after(fresh(t, 2, 2), send(0, 16, 0)), after(fresh(t, 2, 2), send(0, 16, 1))},
		{"the second value", after(fresh(t, 2, 2), send(0, 16, 0), send(0, 16, 1)), after(fresh(t, 2, 2), send(0, 16, 0), send(0, 16, 2))},
		{"the order of two values", after(fresh(t, 2, 2), send(0, 16, 1), send(0, 16, 2)), after(fresh(t, 2, 2), send(0, 16, 2), send(0, 16, 1))},
		{"how often one is queued", after(fresh(t, 2, 2), send(0, 16, 1)), after(fresh(t, 2, 2), send(0, 16, 1), send(0, 16, 1))},
		{"who has it twice", after(fresh(t, 2, 3), send(0, 16, 1), send(0, 16, 1), send(1, 16, 1)), after(fresh(t, 2, 3), send(0, 16, 1), send(1, 16, 1), send(1, 16, 1))},
		{"whose values they are", after(fresh(t, 2, 2), send(0, 16, 1), send(1, 16, 2)), after(fresh(t, 2, 2), send(0, 16, 2), send(1, 16, 1))},
		{"which signal has which value", after(fresh(t, 2, 2), send(0, 16, 1), send(0, 17, 2)), after(fresh(t, 2, 2), send(0, 16, 2), send(0, 17, 1))},
	} {
		wantSame(t, x.what, x.a, x.b, false)
		wantSame(t, x.what+", itself", x.a, x.a.Copy(), true)
		wantSame(t, x.what+", itself", x.b, x.b.Copy(), true)
	}
}

// P17.4: they were brought to the same by unlike calls.
func TestSameOfTwoThatCameThereOtherwise(t *testing.T) {
	for _, x := range []struct {
		what string
		a, b []call
	}{
		{"another order of unlike numbers", []call{send(0, 16, 1), send(0, 17, 2), send(0, 16, 3)}, []call{send(0, 17, 2), send(0, 16, 1), send(0, 16, 3)}},
		{"another order of all", []call{send(0, 31, 1), send(0, 1, 2), send(0, 16, 3), send(0, 15, 4)}, []call{send(0, 15, 4), send(0, 16, 3), send(0, 1, 2), send(0, 31, 1)}},
		{"another order of threads", []call{send(0, 16, 1), send(1, 16, 2)}, []call{send(1, 16, 2), send(0, 16, 1)}},
		{"a value that is dropped", []call{send(0, 15, 1)}, []call{send(0, 15, 2)}},
		{"one that is sent again", []call{send(0, 15, 1), send(0, 15, 2)}, []call{send(0, 15, 1)}},
		{"one that was taken", []call{send(1, 31, 1), next(1, all)}, nil},
		{"a plain one that was taken", []call{send(1, 1, 1), next(1, all)}, nil},
		{"one ahead of it that was taken", []call{send(0, 16, 1), send(0, 16, 2), next(0, of(16))}, []call{send(0, 16, 2)}},
		{"many ahead of it that were taken", []call{send(0, 16, 1), send(0, 16, 2), send(0, 16, 3), next(0, all), next(0, all), send(0, 16, 4), next(0, all)}, []call{send(0, 16, 4)}},
		{"all was cleared", []call{send(0, 16, 1), send(0, 3, 1), setMask(0, all), clearOf(0)}, nil},
		{"a mask there and back", []call{setMask(0, all), setMask(0, of(3)), setMask(0, 0)}, nil},
		{"a mask of the bit 0", []call{setMask(0, of(0))}, nil},
		{"a mask with the bit 0", []call{setMask(0, all)}, []call{setMask(0, each)}},
		{"all slots were used", []call{send(0, 16, 1), send(0, 17, 1), send(1, 18, 1), send(1, 19, 1), send(0, 16, 2), clearOf(1), next(0, all)}, []call{send(0, 17, 1)}},
		{"what was refused", []call{send(0, 0, 1), send(2, 16, 1), setMask(2, all), clearOf(-1)}, nil},
	} {
		wantSame(t, x.what, after(fresh(t, 2, 4), x.a...), after(fresh(t, 2, 4), x.b...), true)
	}
}

// P17.4
func TestACopyGoesOnApart(t *testing.T) {
	s := some(t)
	c := s.Copy()
	if c == nil || c == s {
		t.Fatal("Copy is no other one")
	}
	was := stand(s)
	wantSame(t, "copied", c, s, true)
	wantStand(t, "the copy", c, was)
	for _, x := range []call{send(1, 16, 5), send(0, 1, 5), send(1, 31, 6), next(1, of(16)), next(1, of(3)), setMask(1, all), setMask(2, of(9)), clearOf(0), send(0, 31, 9), clearOf(1)} {
		x.do(c)
		wantStand(t, "the first one, behind "+x.name+" of the copy", s, was)
		wantSame(t, "behind "+x.name, c, s, false)
		wantSame(t, "behind "+x.name, s, some(t), true)
	}
	c = s.Copy()
	for _, x := range []call{next(1, of(16)), send(1, 16, 5), send(1, 16, 6), send(0, 1, 5), setMask(1, all), setMask(2, of(9)), clearOf(0), send(0, 31, 9), clearOf(1), clearOf(2)} {
		x.do(s)
		wantStand(t, "the copy, behind "+x.name+" of the first one", c, was)
		wantSame(t, "behind "+x.name, c, some(t), true)
	}
}

// P17.4: two copies of one that has room behind its values: what is sent to both stands apart.
func TestCopiesShareNoRoom(t *testing.T) {
	for queued := range 12 {
		s := fresh(t, 1, 32)
		for i := range queued {
			want(t, s, send(0, 16, int64(i)), "OK")
		}
		for taken := range queued + 1 {
			a, b := s.Copy(), s.Copy()
			want(t, a, send(0, 16, 100), "OK")
			want(t, s.Copy(), send(0, 16, 300), "OK")
			want(t, b, send(0, 16, 200), "OK")
			for _, x := range []struct {
				s    *signals.Signals
				last int64
			}{{a, 100}, {b, 200}} {
				got := list(x.s, 0)
				if len(got) != queued-taken+1 || got[len(got)-1].Value != x.last {
					t.Errorf("%d of %d were taken: %v", taken, queued, got)
				}
			}
			s.Next(0, all)
		}
	}
}

// P17.4: a copy of one that is new, that has all that it can have, and that was cleared.
func TestACopyIsTheSame(t *testing.T) {
	full := fresh(t, 16, 32)
	for i := range 32 {
		after(full, send(i/2, 31-i/2, int64(i)), send(i/2, 1+i%15, 0), setMask(i/2, all<<i))
	}
	cleared := full.Copy()
	for thread := range 16 {
		after(cleared, clearOf(thread))
	}
	for _, s := range []*signals.Signals{fresh(t, 1, 1), fresh(t, 16, 32), full, cleared} {
		c := s.Copy()
		wantSame(t, "a copy", s, c, true)
		wantStand(t, "a copy", c, stand(s))
		c = c.Copy().Copy()
		for thread := range 16 {
			for {
				x, ok := s.Next(thread, all)
				y, too := c.Next(thread, all)
				if x != y || ok != too {
					t.Errorf("taken of thread %d are %v, %v and %v, %v", thread, x, ok, y, too)
				}
				if !ok || !too {
					break
				}
			}
		}
		wantSame(t, "gone on alike", s, c, true)
	}
}
