package sporadic_test

import (
	"math/rand"
	"slices"
	"testing"

	"metronome/api"
	"metronome/sporadic"
)

// model is a server by the chapter's words alone.
type model struct {
	budget, period int64
	most           int
	// spent is how much is on its way back.
	spent  int64
	active bool
	since  int64
	used   int64
	pieces []api.Piece
}

func isTime(now int64) bool { return now >= 0 && now <= 1<<40 }

func (m *model) left() int64 { return m.budget - m.spent - m.used }

func (m *model) high() bool { return m.left() != 0 && len(m.pieces) != m.most }

func (m *model) state() state {
	s := state{left: m.left(), pieces: m.pieces, high: m.high()}
	if m.active {
		s.active, s.since, s.used = true, m.since, m.used
	}
	return s
}

func (m *model) start(now int64) api.Errno {
	if !isTime(now) {
		return api.ErrArg
	}
	if m.active {
		return api.ErrState
	}
	m.active, m.since, m.used = true, now, 0
	return api.OK
}

// rest lets what was used be on its way, and come back at that time.
func (m *model) rest(at int64) {
	if m.used > 0 {
		m.pieces = append(m.pieces, api.Piece{At: at, Amount: m.used})
	}
	m.spent += m.used
	m.active, m.since, m.used = false, 0, 0
}

func (m *model) use() (bool, api.Errno) {
	if !m.active || !m.high() {
		return false, api.ErrState
	}
	m.used++
	if m.left() != 0 {
		return false, api.OK
	}
	m.rest(m.since + m.period)
	return true, api.OK
}

func (m *model) stop(now int64) api.Errno {
	if !isTime(now) {
		return api.ErrArg
	}
	if !m.active {
		return api.ErrState
	}
	at := m.since + m.period
	if now > at {
		at = now
	}
	m.rest(at)
	return api.OK
}

func (m *model) due(now int64) int64 {
	var stay []api.Piece
	was := m.spent
	for _, p := range m.pieces {
		if p.At > now {
			stay = append(stay, p)
		} else {
			m.spent -= p.Amount
		}
	}
	m.pieces = stay
	return was - m.spent
}

// someTime is one of few from a time on, or now and then none that may be, or any one.
func someTime(r *rand.Rand, from int64) int64 {
	switch r.Intn(20) {
	case 0:
		return noTimes()[r.Intn(len(noTimes()))]
	case 1:
		return someTimes()[r.Intn(len(someTimes()))]
	}
	return from + r.Int63n(40)
}

func step(t *testing.T, r *rand.Rand, m *model, s *sporadic.Server, from int64) {
	t.Helper()
	now := someTime(r, from)
	switch r.Intn(8) {
	case 0:
		wantDue(t, s, now, m.due(now))
	case 1:
		wantErr(t, "Stop", s.Stop(now), m.stop(now))
	case 2, 3:
		wantErr(t, "Start", s.Start(now), m.start(now))
	default:
		stops, err := m.use()
		wantUse(t, s, stops, err)
	}
}

// kinds are numbers to make servers with: budgets, periods, most.
func kinds() []model {
	return []model{
		{budget: 1, period: 1, most: 1}, {budget: 1, period: 20, most: 16}, {budget: 2, period: 2, most: 2},
		{budget: 3, period: 10, most: 2}, {budget: 9, period: 9, most: 3}, {budget: 7, period: 30, most: 1},
		{budget: 40, period: 50, most: 16}, {budget: 5, period: api.MaxTime - 10, most: 4},
		{budget: 6, period: api.MaxTime, most: 5}, {budget: api.MaxTime, period: api.MaxTime, most: 16},
	}
}

// both makes a server and its model.
func both(t *testing.T, kind model) (*model, *sporadic.Server) {
	t.Helper()
	return &kind, made(t, kind.budget, kind.period, kind.most)
}

// together is what is left, what was used since it is active, and all pieces on their way.
func together(s *sporadic.Server) int64 {
	_, used, _ := s.Active()
	sum := s.Left() + used
	for _, p := range s.Pieces() {
		sum += p.Amount
	}
	return sum
}

// P11.1 to P11.5
func TestAServerDoesAsTheChapterSays(t *testing.T) {
	r := rand.New(rand.NewSource(11))
	for _, kind := range kinds() {
		for _, from := range []int64{0, 5, api.MaxTime - 40} {
			m, s := both(t, kind)
			for range 1500 {
				step(t, r, m, s, from)
				wantState(t, "a step", s, m.state())
				if sum := together(s); sum != kind.budget {
					t.Errorf("%d are together %d: %+v", kind.budget, sum, stateOf(s))
				}
				if t.Failed() {
					return
				}
			}
		}
	}
}

// P11.5: by the way, and whatever is refused, nothing is lost and nothing is won.
func TestAllIsTogetherTheBudget(t *testing.T) {
	for _, budget := range []int64{1, 2, 5, 30} {
		s := made(t, budget, 30, 3)
		for now := range int64(400) {
			s.Due(now)
			s.Start(now)
			for range now % 7 {
				s.Use()
			}
			s.Start(-1)
			s.Stop(-1)
			if now%3 == 0 {
				s.Stop(now)
			}
			if sum := together(s); sum != budget {
				t.Fatalf("%d are together %d at %d: %+v", budget, sum, now, stateOf(s))
			}
		}
		s.Stop(400)
		s.Due(api.MaxTime)
		wantState(t, "all came back", s, state{left: budget, high: true})
	}
}

// P11.4: of two that go on apart Same says what their models say.
func TestSameDoesAsTheChapterSays(t *testing.T) {
	r := rand.New(rand.NewSource(12))
	alike := 0
	for range 400 {
		m, s := both(t, model{budget: 2, period: 2, most: 2})
		n, o := both(t, model{budget: 2 - r.Int63n(2), period: 2, most: 2})
		for range 20 {
			for _, x := range []struct {
				m *model
				s *sporadic.Server
			}{{m, s}, {n, o}} {
				switch now := r.Int63n(2); r.Intn(4) {
				case 0:
					wantDue(t, x.s, 3*now, x.m.due(3*now))
				case 1:
					wantErr(t, "Stop", x.s.Stop(now), x.m.stop(now))
				case 2:
					wantErr(t, "Start", x.s.Start(now), x.m.start(now))
				default:
					stops, err := x.m.use()
					wantUse(t, x.s, stops, err)
				}
			}
			same := m.budget == n.budget && m.state().is(n.state())
			wantSame(t, "a step", s, o, same)
			if same {
				alike++
			}
		}
		if t.Failed() {
			return
		}
	}
	if alike < 100 || alike > 7900 {
		t.Errorf("%d of 8000 were alike", alike)
	}
}

// P11.4: copies that were taken by the way stay as they were, and go on as one would.
func TestCopiesStayAsTheyWere(t *testing.T) {
	r := rand.New(rand.NewSource(13))
	for _, kind := range kinds() {
		m, s := both(t, kind)
		var copies []*sporadic.Server
		var were []model
		for range 200 {
			step(t, r, m, s, 0)
			was := *m
			was.pieces = slices.Clone(m.pieces)
			copies, were = append(copies, s.Copy()), append(were, was)
		}
		for i, c := range copies {
			wantState(t, "a copy", c, were[i].state())
			for range 10 {
				step(t, r, &were[i], c, 0)
			}
			wantState(t, "a copy that goes on", c, were[i].state())
		}
		wantState(t, "the elder one", s, m.state())
	}
}

// moment is a time, one tick of which was played: what was left ahead of it, since when the server was active then (or
// -1), how much of that it used at this time before that ended, and how much was used at this time in all.
type moment struct {
	left, since, carried, used int64
	// topped is whether something came back to one that was active from a time ahead.
	topped bool
}

// play lets a server go through times, one behind the other, by chance; at each it uses as much as it likes.
// At the last time it stays, as clocks do.
func play(r *rand.Rand, s *sporadic.Server, from, times int64) []moment {
	var all []moment
	for n := range times {
		now := min(from+n, api.MaxTime)
		since, _, active := s.Active()
		m := moment{left: s.Left(), since: -1}
		if active {
			m.since = since
		}
		m.topped = s.Due(now) > 0 && active
		for range r.Intn(12) {
			switch r.Intn(6) {
			case 0:
				s.Stop(now)
			case 1:
				s.Due(now)
			case 2:
				s.Start(now)
			default:
				is, _, _ := s.Active()
				if _, err := s.Use(); err == api.OK {
					m.used++
					if active && is == since && is < now {
						m.carried++
					}
				}
			}
		}
		all = append(all, m)
	}
	return all
}

// window is what was used in all in a period of time, and how much of it by the one that was active since a time ahead
// of it; and whether something came back to that one meanwhile.
func window(all []moment) (used, carried int64, topped bool) {
	since := all[0].since
	for _, m := range all {
		used += m.used
		if since >= 0 && m.since == since {
			carried += m.carried
			topped = topped || m.topped
		}
	}
	return used, carried, topped
}

// wantBound: in a period of time no more than the budget is used, and what one used that was active ahead of it. If
// nothing came back to that one, this is no more than what was left ahead of it. It tells whether more than the budget
// was used, and whether nothing came back.
func wantBound(t *testing.T, kind model, all []moment) (great, plain bool) {
	t.Helper()
	used, carried, topped := window(all)
	if used > kind.budget+carried || used > 2*kind.budget {
		t.Fatalf("%+v: %d used in a period, %d by one that was active", kind, used, carried)
	}
	if !topped && used > kind.budget+all[0].left {
		t.Fatalf("%+v: %d used in a period, where %d were left", kind, used, all[0].left)
	}
	return used > kind.budget, !topped
}

// smallKinds are numbers to make servers with whose periods are short.
func smallKinds() []model {
	return []model{
		{budget: 1, period: 1, most: 1}, {budget: 1, period: 7, most: 2}, {budget: 3, period: 10, most: 2},
		{budget: 9, period: 9, most: 16}, {budget: 10, period: 20, most: 4}, {budget: 30, period: 40, most: 16},
	}
}

// P11.5
func TestNoMoreIsUsedInAPeriod(t *testing.T) {
	r := rand.New(rand.NewSource(14))
	greats, plains := 0, 0
	for _, kind := range smallKinds() {
		for range 20 {
			all := play(r, made(t, kind.budget, kind.period, kind.most), 0, 300)
			for from := range len(all) - int(kind.period) + 1 {
				great, plain := wantBound(t, kind, all[from:from+int(kind.period)])
				if great {
					greats++
				}
				if plain {
					plains++
				}
			}
		}
	}
	if greats == 0 || plains == 0 {
		t.Errorf("more than the budget was used %d times, and nothing came back %d times", greats, plains)
	}
}

// P11.5: at the last time, where clocks stand still, no period ends.
func TestNoMoreIsUsedInTheLastPeriod(t *testing.T) {
	r := rand.New(rand.NewSource(15))
	const ahead = 60
	for _, kind := range smallKinds() {
		for range 20 {
			all := play(r, made(t, kind.budget, kind.period, kind.most), api.MaxTime-ahead, ahead+200)
			for from := range ahead + 1 {
				end := from + int(kind.period)
				if end > ahead {
					end = len(all)
				}
				wantBound(t, kind, all[from:end])
			}
		}
	}
}

// P11.5: one that uses all it has as soon as it has it uses just the budget in any period of time.
func TestAGreedyOneUsesItsBudgetInAPeriod(t *testing.T) {
	for _, kind := range kinds()[:7] {
		s := made(t, kind.budget, kind.period, kind.most)
		var used []int64
		for now := range int64(200) {
			s.Due(now)
			n := int64(0)
			for s.High() {
				start(t, s, now)
				for stops := false; !stops; n++ {
					stops, _ = s.Use()
				}
			}
			used = append(used, n)
		}
		for from := range len(used) - int(kind.period) + 1 {
			sum := int64(0)
			for _, n := range used[from : from+int(kind.period)] {
				sum += n
			}
			if sum != kind.budget {
				t.Fatalf("%+v: %d used from %d on", kind, sum, from)
			}
		}
	}
}

// useUp uses all that is left, behind which the server has stopped.
func useUp(t *testing.T, s *sporadic.Server) {
	t.Helper()
	use(t, s, s.Left()-1)
	wantUse(t, s, true, api.OK)
}

// P11.5: the four that were left ahead of 29, and the budget, from 29 to 38.
func TestWhatWasLeftAheadIsUsedBesideTheBudget(t *testing.T) {
	s := made(t, 4, 10, 2)
	start(t, s, 20)
	wantDue(t, s, 29, 0)
	useUp(t, s)
	wantState(t, "used up at 29", s, state{pieces: []api.Piece{{At: 30, Amount: 4}}})
	wantDue(t, s, 30, 4)
	start(t, s, 30)
	useUp(t, s)
	wantDue(t, s, 39, 0)
	wantState(t, "used up at 30", s, state{pieces: []api.Piece{{At: 40, Amount: 4}}})
}

// P11.2, P11.3: what comes back to one that is active since long, and is used by it, comes back with all else that it
// used, a period behind its start. So from 20 to 39 it is not the budget and the one that was left ahead, but more:
// where P11.5 says less, it is these that hold.
func TestWhatCameBackToAnActiveOneComesBackWithTheRest(t *testing.T) {
	s := made(t, 10, 20, 4)
	ran(t, s, 1, 10, 9)
	start(t, s, 11)
	wantState(t, "at 20", s, state{left: 1, active: true, since: 11, pieces: []api.Piece{{At: 21, Amount: 9}}, high: true})
	wantDue(t, s, 21, 9)
	useUp(t, s)
	wantState(t, "at 30", s, state{pieces: []api.Piece{{At: 31, Amount: 10}}})
	wantDue(t, s, 31, 10)
	start(t, s, 31)
	use(t, s, 9)
	wantState(t, "at 39", s, state{left: 1, active: true, since: 31, used: 9, high: true})
}
