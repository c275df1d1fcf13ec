package cancel_test

import (
	"fmt"
	"math"
	"math/rand"
	"slices"
	"testing"

	"metronome/api"
	"metronome/cancel"
)

// model is a cancellation by the chapter's words alone.
type model struct {
	asked, disabled, atOnce, unwinds bool
	// lie has the one on top last.
	lie []api.Cleanup
}

func (m *model) copy() *model {
	other := *m
	other.lie = slices.Clone(m.lie)
	return &other
}

func (m *model) ask() string {
	was := m.asked
	m.asked = true
	return fmt.Sprint(!was, " OK")
}

func (m *model) enable(on bool) string {
	was := !m.disabled
	m.disabled = !on
	return fmt.Sprint(was, " OK")
}

func (m *model) async(on bool) string {
	was := m.atOnce
	m.atOnce = on
	return fmt.Sprint(was, " OK")
}

func (m *model) acts(point bool) bool {
	if !m.asked || m.disabled || m.unwinds {
		return false
	}
	return m.atOnce || point
}

func (m *model) push(program int, value int64) string {
	if program < 0 || program > last {
		return "ErrArg"
	}
	if len(m.lie) == most {
		return "ErrFull"
	}
	m.lie = append(m.lie, cleanup(program, value))
	return "OK"
}

func (m *model) pop() string {
	n := len(m.lie)
	if n == 0 {
		return "0:0 ErrNone"
	}
	x := m.lie[n-1]
	m.lie = m.lie[:n-1]
	return cleanupText(x) + " OK"
}

func (m *model) unwind() string {
	if m.unwinds {
		return "ErrState"
	}
	m.unwinds = true
	return "OK"
}

func (m *model) stand() string {
	top := slices.Clone(m.lie)
	slices.Reverse(top)
	flags := letters(m.asked, !m.disabled, m.atOnce, m.unwinds)
	return fmt.Sprint(flags, " ", m.acts(false), " ", m.acts(true), " ", len(m.lie), " ", listText(top))
}

// both is a call to a cancellation, and the same one to its model.
type both struct {
	call
	model func(m *model) string
}

func askBoth() both { return both{ask(), (*model).ask} }

func enableBoth(on bool) both {
	return both{enable(on), func(m *model) string { return m.enable(on) }}
}

func asyncBoth(on bool) both {
	return both{async(on), func(m *model) string { return m.async(on) }}
}

func actsBoth(point bool) both {
	return both{acts(point), func(m *model) string { return fmt.Sprint(m.acts(point)) }}
}

func pushBoth(program int, value int64) both {
	return both{push(program, value), func(m *model) string { return m.push(program, value) }}
}

func popBoth() both { return both{pop(), (*model).pop} }

func unwindBoth() both { return both{unwind(), (*model).unwind} }

// pair is a cancellation, and its model.
type pair struct {
	c *cancel.Cancel
	m *model
}

func newPair(t *testing.T) pair {
	t.Helper()
	return pair{fresh(t), &model{}}
}

func (p pair) copy() pair { return pair{p.c.Copy(), p.m.copy()} }

// wantBoth does a call to both, and asks that they answer and stand alike.
func wantBoth(t *testing.T, b both, p pair) {
	t.Helper()
	was := p.m.stand()
	got, answer := b.do(p.c), b.model(p.m)
	if got != answer {
		t.Errorf("%s of %s: %s, want %s", b.name, was, got, answer)
	}
	wantStand(t, b.name+" of "+was, p.c, p.m.stand())
}

// P20.1 to P20.5: each state that two kinds of cleanups make, as many of them as may be one upon the other, and in it
// each call. There are 2^n ways for n cleanups, so 2^9-1 for up to 8, and 16 for all else.
func TestEachCallInEachState(t *testing.T) {
	calls := []both{
		askBoth(), enableBoth(true), enableBoth(false), asyncBoth(true), asyncBoth(false), unwindBoth(), popBoth(),
		actsBoth(true), actsBoth(false), pushBoth(0, math.MinInt64), pushBoth(last, math.MaxInt64), pushBoth(-1, 0), pushBoth(last+1, 0),
	}
	start := newPair(t)
	todo := []pair{start}
	seen := map[string]*cancel.Cancel{start.m.stand(): start.c.Copy()}
	for len(todo) > 0 && !t.Failed() {
		at := todo[0]
		todo = todo[1:]
		for _, b := range calls {
			p := at.copy()
			wantBoth(t, b, p)
			name := p.m.stand()
			if first := seen[name]; first != nil {
				wantSame(t, name, p.c, first, true)
			} else {
				seen[name] = p.c.Copy()
				todo = append(todo, p)
			}
		}
	}
	if want := 16 * (1<<9 - 1); len(seen) != want && !t.Failed() {
		t.Errorf("%d states were seen, want %d", len(seen), want)
	}
}

// someBoth is any call, with any program and value; now and then with what may not be. Pushes are as many as pops.
func someBoth(r *rand.Rand) both {
	on := r.Intn(2) == 0
	switch r.Intn(40) {
	case 0:
		return askBoth()
	case 1:
		return unwindBoth()
	case 2, 3, 4:
		return enableBoth(on)
	case 5, 6, 7:
		return asyncBoth(on)
	case 8, 9:
		return actsBoth(on)
	case 10:
		return pushBoth(noPrograms()[r.Intn(len(noPrograms()))], r.Int63())
	case 11:
		return pushBoth(r.Intn(last+1), values()[r.Intn(len(values()))])
	}
	if on {
		return popBoth()
	}
	return pushBoth(r.Intn(last+1), int64(r.Uint64()))
}

// fewBoth is any call with one of few cleanups.
func fewBoth(r *rand.Rand) both {
	b := someBoth(r)
	if r.Intn(4) == 0 {
		return pushBoth(r.Intn(2), int64(r.Intn(2)))
	}
	if r.Intn(2) == 0 {
		return popBoth()
	}
	return b
}

// P20.1 to P20.5: long rows of calls.
func TestItDoesAsTheChapterSays(t *testing.T) {
	r := rand.New(rand.NewSource(20))
	for range 200 {
		p := newPair(t)
		for range 150 {
			wantBoth(t, someBoth(r), p)
			if t.Failed() {
				return
			}
		}
	}
}

// P20.4: of two that go on apart Same says what their models say.
func TestSameDoesAsTheChapterSays(t *testing.T) {
	r := rand.New(rand.NewSource(21))
	same, rounds := 0, 0
	for range 300 {
		p, q := newPair(t), newPair(t)
		for range 30 {
			wantBoth(t, fewBoth(r), p)
			wantBoth(t, fewBoth(r), q)
			is := p.m.stand() == q.m.stand()
			wantSame(t, "a step", p.c, q.c, is)
			if rounds++; is {
				same++
			}
		}
	}
	if same < rounds/100 || same > rounds/2 {
		t.Errorf("%d of %d were the same", same, rounds)
	}
}

// P20.4: copies that were taken by the way stay as they were, and go on as those would have.
func TestCopiesStayAsTheyWere(t *testing.T) {
	r := rand.New(rand.NewSource(22))
	p := newPair(t)
	var copies []pair
	for range 400 {
		wantBoth(t, someBoth(r), p)
		copies = append(copies, p.copy())
	}
	for _, c := range copies {
		wantStand(t, "a copy", c.c, c.m.stand())
		for range 20 {
			wantBoth(t, someBoth(r), c)
		}
	}
}

// P20.5: whatever was done, nothing acts unless it was asked and is enabled, at no point unless it is at once as well,
// and behind Unwind nothing acts.
func TestNothingActsUnlessItIsAskedAndEnabled(t *testing.T) {
	r := rand.New(rand.NewSource(23))
	acted, rounds := 0, 0
	for range 400 {
		c := fresh(t)
		asked, enabled, unwound := false, true, false
		for range 60 {
			x := someBoth(r).call
			answer := x.do(c)
			switch x.name {
			case "Ask":
				asked = true
			case "Enable(true)":
				enabled = true
			case "Enable(false)":
				enabled = false
			case "Unwind":
				unwound = unwound || answer == "OK"
			}
			may := asked && enabled && !unwound
			if c.Acts(true) != may || c.Acts(false) && !may || c.Acts(false) != (may && c.AtOnce()) {
				t.Fatalf("asked %v, enabled %v, unwound %v: it stands as %s", asked, enabled, unwound, stand(c))
			}
			if rounds++; may {
				acted++
			}
		}
	}
	if acted < rounds/20 {
		t.Errorf("it acted %d times of %d", acted, rounds)
	}
}

// P20.5: cleanups come back in the reverse order in which they were pushed, whatever is done besides: of each two that
// lie there at once, the later one is popped first.
func TestCleanupsComeBackInReverse(t *testing.T) {
	r := rand.New(rand.NewSource(24))
	for range 300 {
		c := fresh(t)
		pushed := int64(0)
		var lie []int64
		for range 80 {
			if r.Intn(2) == 0 {
				if c.Push(cleanup(r.Intn(last+1), pushed)) == api.OK {
					lie = append(lie, pushed)
					pushed++
				}
			}
			if r.Intn(3) == 0 {
				if x, err := c.Pop(); err == api.OK {
					if latest := slices.Max(lie); x.Value != latest {
						t.Fatalf("popped is the %d. one, where the %d. is the latest", x.Value, latest)
					}
					lie = slices.DeleteFunc(lie, func(n int64) bool { return n == x.Value })
				}
			}
			if b := someBoth(r); b.name != "Pop" && b.name[0] != 'P' {
				b.do(c)
			}
			if c.Len() != len(lie) {
				t.Fatalf("%d lie there, want %d", c.Len(), len(lie))
			}
		}
	}
}
