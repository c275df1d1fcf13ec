package clock_test

import (
	"math/big"
	"math/rand"
	"testing"

	"metronome/api"
	"metronome/clock"
)

// end is the last time, with numbers that have no end themselves.
func end() *big.Int {
	return new(big.Int).Lsh(big.NewInt(1), 40)
}

func less(a, b *big.Int) *big.Int {
	if a.Cmp(b) < 0 {
		return a
	}
	return b
}

// model is clocks by the chapter's words alone.
type model struct {
	real, mono *big.Int
}

func modelOf(real int64) *model {
	return &model{big.NewInt(real), big.NewInt(0)}
}

func (m *model) now(k api.Clock) *big.Int {
	switch k {
	case 0:
		return m.real
	case 1:
		return m.mono
	}
	return nil
}

func (m *model) tick() {
	one := big.NewInt(1)
	m.real = less(end(), new(big.Int).Add(m.real, one))
	m.mono = less(end(), new(big.Int).Add(m.mono, one))
}

func (m *model) set(k api.Clock, ticks int64) api.Errno {
	if m.now(k) == nil || ticks < 0 || big.NewInt(ticks).Cmp(end()) > 0 {
		return api.ErrArg
	}
	if k == 1 {
		return api.ErrState
	}
	m.real = big.NewInt(ticks)
	return api.OK
}

func (m *model) due(k api.Clock, deadline int64) bool {
	now := m.now(k)
	return now != nil && (now.Cmp(big.NewInt(deadline)) >= 0 || now.Cmp(end()) == 0)
}

func (m *model) in(k api.Clock, ticks int64) (int64, api.Errno) {
	if m.now(k) == nil || ticks < 0 {
		return 0, api.ErrArg
	}
	return less(end(), new(big.Int).Add(m.now(k), big.NewInt(ticks))).Int64(), api.OK
}

func (m *model) left(k api.Clock, deadline int64) (int64, api.Errno) {
	if m.now(k) == nil {
		return 0, api.ErrArg
	}
	if m.due(k, deadline) {
		return 0, api.OK
	}
	return new(big.Int).Sub(less(end(), big.NewInt(deadline)), m.now(k)).Int64(), api.OK
}

// someClock is one of both, or now and then none.
func someClock(r *rand.Rand) api.Clock {
	if r.Intn(10) == 0 {
		return noClocks()[r.Intn(len(noClocks()))]
	}
	return both()[r.Intn(2)]
}

// someTicks is a number of ticks: few, about the end, or of any size, also none that may be.
func someTicks(r *rand.Rand) int64 {
	switch r.Intn(5) {
	case 0:
		return api.MaxTime + r.Int63n(40) - 30
	case 1:
		return r.Int63() >> r.Intn(63)
	case 2:
		return noTicks()[r.Intn(len(noTicks()))]
	}
	return r.Int63n(30)
}

func step(t *testing.T, r *rand.Rand, m *model, c *clock.Clocks) {
	t.Helper()
	if r.Intn(4) > 0 {
		m.tick()
		wantErr(t, "Tick", c.Tick(), api.OK)
		return
	}
	k, ticks := someClock(r), someTicks(r)
	wantErr(t, "Set", c.Set(k, ticks), m.set(k, ticks))
}

func wantModel(t *testing.T, what string, c *clock.Clocks, m *model) {
	t.Helper()
	wantNow(t, what, c, m.real.Int64(), m.mono.Int64())
}

// asks asks all looks for what the model says.
func asks(t *testing.T, r *rand.Rand, m *model, c *clock.Clocks) {
	t.Helper()
	k, n := someClock(r), someTicks(r)
	if now := m.now(k); now != nil && r.Intn(2) == 0 {
		n = now.Int64() + r.Int63n(5) - 2
	}
	wantDue(t, c, k, n, m.due(k, n))
	deadline, err := m.in(k, n)
	wantIn(t, c, k, n, deadline, err)
	left, err := m.left(k, n)
	wantLeft(t, c, k, n, left, err)
}

// P8.1, P8.2
func TestClocksDoAsTheChapterSays(t *testing.T) {
	r := rand.New(rand.NewSource(8))
	for _, real := range []int64{0, 5, 1 << 32, api.MaxTime - 20, api.MaxTime} {
		m, c := modelOf(real), made(t, real)
		for range 2000 {
			step(t, r, m, c)
			for range 4 {
				asks(t, r, m, c)
			}
			wantModel(t, "a step", c, m)
			if t.Failed() {
				return
			}
		}
	}
}

// P8.3: of two that go on apart Same says what their models say.
func TestSameDoesAsTheChapterSays(t *testing.T) {
	r := rand.New(rand.NewSource(9))
	alike := 0
	for range 4000 {
		first, second := r.Int63n(3), r.Int63n(3)
		m, c := modelOf(first), made(t, first)
		n, d := modelOf(second), made(t, second)
		for range 3 {
			if r.Intn(2) == 0 {
				m.tick()
				c.Tick()
			}
			if r.Intn(2) == 0 {
				n.tick()
				d.Tick()
			}
		}
		if real := r.Int63n(4); r.Intn(2) == 0 {
			m.set(api.Real, real)
			c.Set(api.Real, real)
		}
		same := m.real.Cmp(n.real) == 0 && m.mono.Cmp(n.mono) == 0
		wantSame(t, "a step", c, d, same)
		if same {
			alike++
		}
		if t.Failed() {
			return
		}
	}
	if alike < 100 || alike > 3900 {
		t.Errorf("%d of 4000 were alike", alike)
	}
}

// P8.3: copies that were taken by the way stay as they were.
func TestCopiesStayAsTheyWere(t *testing.T) {
	r := rand.New(rand.NewSource(10))
	m, c := modelOf(5), made(t, 5)
	var copies []*clock.Clocks
	var were []model
	for range 500 {
		step(t, r, m, c)
		copies, were = append(copies, c.Copy()), append(were, *m)
	}
	for i, other := range copies {
		wantModel(t, "a copy", other, &were[i])
		were[i].tick()
		other.Tick()
		wantModel(t, "a copy that goes on", other, &were[i])
	}
	wantModel(t, "the elder one", c, m)
}

// wantDueInTime ticks till the deadline of so many ticks is due, which must be behind just so many.
func wantDueInTime(t *testing.T, c *clock.Clocks, k api.Clock, ticks int64, setMeanwhile func()) {
	t.Helper()
	deadline, err := c.In(k, ticks)
	wantErr(t, "In", err, api.OK)
	for n := range ticks {
		wantDue(t, c, k, deadline, false)
		wantLeft(t, c, k, deadline, ticks-n, api.OK)
		setMeanwhile()
		tick(t, c, 1)
	}
	for range 5 {
		wantDue(t, c, k, deadline, true)
		wantLeft(t, c, k, deadline, 0, api.OK)
		setMeanwhile()
		tick(t, c, 1)
	}
}

// P8.4
func TestWhatInAnsweredIsDueBehindSoManyTicks(t *testing.T) {
	for _, real := range []int64{0, 1, 20, 1 << 32, api.MaxTime - 101, api.MaxTime - 100} {
		for _, k := range both() {
			for _, ticks := range []int64{1, 2, 3, 17, 64, 100} {
				c := made(t, real)
				wantDueInTime(t, c, k, ticks, func() {})
				if real < api.MaxTime-200 {
					wantDueInTime(t, c, k, ticks, func() {})
				}
			}
		}
	}
}

// P8.4: ticks that reach the end just; what would be beyond it is due there, so behind fewer (P8.2).
func TestWhatInAnsweredAtTheEndIsDueThere(t *testing.T) {
	for _, ticks := range []int64{10, 11, 1000} {
		c := made(t, api.MaxTime-10)
		deadline, err := c.In(api.Real, ticks)
		wantErr(t, "In", err, api.OK)
		tick(t, c, 9)
		wantDue(t, c, api.Real, deadline, false)
		tick(t, c, 1)
		wantDue(t, c, api.Real, deadline, true)
	}
}

// P8.4: Mono is not set, whatever becomes of Real.
func TestMonoIsInTimeWhileRealIsSet(t *testing.T) {
	r := rand.New(rand.NewSource(11))
	for _, ticks := range []int64{1, 2, 50} {
		c := made(t, 30)
		wantDueInTime(t, c, api.Mono, ticks, func() { set(t, c, r.Int63n(api.MaxTime+1)) })
	}
}

// P8.4: nor does it go back, and it goes on by one with each tick alone.
func TestMonoNeverGoesBack(t *testing.T) {
	r := rand.New(rand.NewSource(12))
	c := made(t, 30)
	was := int64(0)
	for range 5000 {
		goesOn := int64(0)
		switch k, n := someClock(r), someTicks(r); r.Intn(6) {
		case 0:
			goesOn = 1
			tick(t, c, 1)
		case 1:
			c = c.Copy()
		case 2:
			c.In(k, n)
			c.Left(k, n)
			c.Due(k, n)
		default:
			c.Set(k, n)
		}
		now, err := c.Now(api.Mono)
		if now != was+goesOn || err != api.OK {
			t.Fatalf("Mono shows %d, %v behind %d", now, err, was)
		}
		was = now
	}
}
