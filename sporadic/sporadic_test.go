package sporadic_test

import (
	"math"
	"slices"
	"testing"

	"metronome/api"
	"metronome/sporadic"
)

// state is a server as its looks tell it.
type state struct {
	left        int64
	active      bool
	since, used int64
	pieces      []api.Piece
	high        bool
}

func stateOf(s *sporadic.Server) state {
	since, used, active := s.Active()
	return state{s.Left(), active, since, used, s.Pieces(), s.High()}
}

func (a state) is(b state) bool {
	return a.left == b.left && a.active == b.active && a.since == b.since && a.used == b.used &&
		slices.Equal(a.pieces, b.pieces) && a.high == b.high
}

// noServers are nil and zero ones.
func noServers() []*sporadic.Server {
	return []*sporadic.Server{nil, {}}
}

// belowTime are numbers below all times.
func belowTime() []int64 {
	return []int64{-1, -2, -5, -10, -1 << 32, -api.MaxTime, -api.MaxTime - 1, math.MinInt64 + 1, math.MinInt64}
}

// beyondTime are numbers beyond all times.
func beyondTime() []int64 {
	return []int64{api.MaxTime + 1, api.MaxTime + 2, api.MaxTime + 5, 2 * api.MaxTime, 1 << 62, math.MaxInt64 - 1, math.MaxInt64}
}

// noTimes are both of these.
func noTimes() []int64 {
	return append(belowTime(), beyondTime()...)
}

// someTimes are times, the first and the last one among them.
func someTimes() []int64 {
	return []int64{0, 1, 2, 9, 10, 11, 1 << 31, 1 << 32, api.MaxTime - 1, api.MaxTime}
}

// noMosts are numbers of pieces that may not be.
func noMosts() []int {
	return []int{0, -1, -2, -16, 17, 18, 32, 256, 257, 1 << 32, 1<<32 + 1, -1 << 32, math.MinInt, math.MinInt + 1, math.MaxInt}
}

func wantErr(t *testing.T, what string, got, want api.Errno) {
	t.Helper()
	if got != want {
		t.Errorf("%s: %v, want %v", what, got, want)
	}
}

func wantState(t *testing.T, what string, s *sporadic.Server, want state) {
	t.Helper()
	if got := stateOf(s); !got.is(want) {
		t.Errorf("%s: %+v, want %+v", what, got, want)
	}
}

func wantSame(t *testing.T, what string, a, b *sporadic.Server, want bool) {
	t.Helper()
	if sporadic.Same(a, b) != want || sporadic.Same(b, a) != want {
		t.Errorf("%s: Same is %v, %v, want %v", what, sporadic.Same(a, b), sporadic.Same(b, a), want)
	}
}

func wantUse(t *testing.T, s *sporadic.Server, want bool, wantErr api.Errno) {
	t.Helper()
	if got, err := s.Use(); got != want || err != wantErr {
		t.Errorf("Use is %v, %v, want %v, %v", got, err, want, wantErr)
	}
}

func wantDue(t *testing.T, s *sporadic.Server, now, want int64) {
	t.Helper()
	if got := s.Due(now); got != want {
		t.Errorf("Due(%d) is %d, want %d", now, got, want)
	}
}

func made(t *testing.T, budget, period int64, most int) *sporadic.Server {
	t.Helper()
	s, err := sporadic.New(budget, period, most)
	if s == nil || err != api.OK {
		t.Fatalf("New(%d, %d, %d) is %v, %v", budget, period, most, s, err)
	}
	return s
}

// use uses so many, behind which something is left.
func use(t *testing.T, s *sporadic.Server, times int64) {
	t.Helper()
	for range times {
		wantUse(t, s, false, api.OK)
	}
}

func start(t *testing.T, s *sporadic.Server, now int64) {
	t.Helper()
	wantErr(t, "Start", s.Start(now), api.OK)
}

func stop(t *testing.T, s *sporadic.Server, now int64) {
	t.Helper()
	wantErr(t, "Stop", s.Stop(now), api.OK)
}

// ran lets a server be active for that time, and use so many, behind which something is left.
func ran(t *testing.T, s *sporadic.Server, from, to, times int64) {
	t.Helper()
	start(t, s, from)
	use(t, s, times)
	stop(t, s, to)
}

// P11.1
func TestNewOnesHaveAllOfTheirBudget(t *testing.T) {
	for _, period := range []int64{1, 2, 10, 1 << 32, api.MaxTime - 1, api.MaxTime} {
		for _, budget := range []int64{1, 2, period / 2, period - 1, period} {
			for most := 1; most <= 16; most++ {
				if budget >= 1 && budget <= period {
					wantState(t, "new", made(t, budget, period, most), state{left: budget, high: true})
				}
			}
		}
	}
	a, b := made(t, 3, 10, 2), made(t, 3, 10, 2)
	ran(t, a, 0, 1, 2)
	wantState(t, "another one", b, state{left: 3, high: true})
}

func wantNoNew(t *testing.T, budget, period int64, most int) {
	t.Helper()
	if s, err := sporadic.New(budget, period, most); s != nil || err != api.ErrArg {
		t.Errorf("New(%d, %d, %d) is %v, %v", budget, period, most, s, err)
	}
}

// P11.1
func TestNewRefusesNumbersThatMayNotBe(t *testing.T) {
	for _, wrong := range append(noTimes(), 0) {
		wantNoNew(t, wrong, 10, 2)
		wantNoNew(t, wrong, api.MaxTime, 2)
		wantNoNew(t, 3, wrong, 2)
		wantNoNew(t, 1, wrong, 2)
		wantNoNew(t, wrong, wrong, 2)
	}
	for _, most := range noMosts() {
		wantNoNew(t, 3, 10, most)
		wantNoNew(t, 0, 10, most)
		wantNoNew(t, 11, 10, most)
	}
	for _, period := range []int64{1, 2, 3, 10, 1 << 32, api.MaxTime - 1} {
		wantNoNew(t, period+1, period, 1)
		wantNoNew(t, api.MaxTime, period, 16)
	}
}

// P11.1
func TestStart(t *testing.T) {
	for _, now := range someTimes() {
		s := made(t, 3, 10, 2)
		start(t, s, now)
		wantState(t, "started", s, state{left: 3, active: true, since: now, high: true})
	}
}

// P11.1: what it used when it was active before is not what it used now.
func TestStartAgainHasUsedNothing(t *testing.T) {
	s := made(t, 9, 10, 3)
	ran(t, s, 5, 7, 4)
	start(t, s, 8)
	wantState(t, "again", s, state{left: 5, active: true, since: 8, pieces: []api.Piece{{At: 15, Amount: 4}}, high: true})
	use(t, s, 1)
	stop(t, s, 9)
	start(t, s, 2)
	wantState(t, "at an earlier time", s, state{
		left: 4, active: true, since: 2, pieces: []api.Piece{{At: 15, Amount: 4}, {At: 18, Amount: 1}}, high: true})
}

// P11.1: nothing says that one that is low may not be started; it has nothing to use yet.
func TestStartOfOneThatIsLow(t *testing.T) {
	none := made(t, 1, 10, 2)
	start(t, none, 0)
	wantUse(t, none, true, api.OK)
	start(t, none, 3)
	wantState(t, "nothing left", none, state{active: true, since: 3, pieces: []api.Piece{{At: 10, Amount: 1}}})
	wantDue(t, none, 10, 1)
	wantUse(t, none, true, api.OK)
	wantState(t, "something came back", none, state{pieces: []api.Piece{{At: 13, Amount: 1}}})
	most := made(t, 5, 10, 1)
	ran(t, most, 0, 1, 2)
	start(t, most, 3)
	wantState(t, "most pieces", most, state{left: 3, active: true, since: 3, pieces: []api.Piece{{At: 10, Amount: 2}}})
	wantDue(t, most, 10, 2)
	use(t, most, 4)
	wantState(t, "none any more", most, state{left: 1, active: true, since: 3, used: 4, high: true})
}

// P11.1
func TestStartRefused(t *testing.T) {
	for _, active := range []bool{false, true} {
		s := made(t, 5, 10, 2)
		ran(t, s, 0, 1, 1)
		if active {
			start(t, s, 4)
			use(t, s, 2)
		}
		was, copied := stateOf(s), s.Copy()
		for _, now := range noTimes() {
			wantErr(t, "Start", s.Start(now), api.ErrArg)
		}
		for _, now := range someTimes() {
			if active {
				wantErr(t, "Start", s.Start(now), api.ErrState)
			}
		}
		wantState(t, "refused", s, was)
		wantSame(t, "refused", s, copied, true)
	}
}

// P11.2
func TestUseLeavesOneLess(t *testing.T) {
	for _, budget := range []int64{1, 2, 3, 10, 300} {
		s := made(t, budget, 500, 2)
		start(t, s, 7)
		for n := int64(1); n < budget; n++ {
			wantUse(t, s, false, api.OK)
			wantState(t, "used", s, state{left: budget - n, active: true, since: 7, used: n, high: true})
		}
		wantUse(t, s, true, api.OK)
		wantState(t, "used up", s, state{pieces: []api.Piece{{At: 507, Amount: budget}}})
	}
}

// P11.2
func TestUseOfTheGreatestBudget(t *testing.T) {
	s := made(t, api.MaxTime, api.MaxTime, 1)
	start(t, s, 0)
	use(t, s, 100)
	wantState(t, "used", s, state{left: api.MaxTime - 100, active: true, used: 100, high: true})
	stop(t, s, api.MaxTime)
	wantState(t, "stopped", s, state{left: api.MaxTime - 100, pieces: []api.Piece{{At: api.MaxTime, Amount: 100}}})
	wantDue(t, s, api.MaxTime-1, 0)
	wantDue(t, s, api.MaxTime, 100)
	wantState(t, "came back", s, state{left: api.MaxTime, high: true})
}

// P11.2: what is used up comes back at the start and the period, also where that is beyond the last time.
func TestUseThatStopsIt(t *testing.T) {
	for _, c := range []struct{ period, since, at int64 }{
		{1, 0, 1}, {1, 5, 6}, {10, 0, 10}, {10, 5, 15}, {api.MaxTime, 0, api.MaxTime},
		{1, api.MaxTime - 1, api.MaxTime}, {10, api.MaxTime - 10, api.MaxTime}, {api.MaxTime - 5, 5, api.MaxTime},
		{1, api.MaxTime, api.MaxTime + 1}, {10, api.MaxTime - 9, api.MaxTime + 1}, {10, api.MaxTime, api.MaxTime + 10},
		{api.MaxTime, 1, api.MaxTime + 1}, {api.MaxTime, api.MaxTime, 2 * api.MaxTime},
	} {
		s := made(t, 1, c.period, 2)
		start(t, s, c.since)
		wantUse(t, s, true, api.OK)
		wantState(t, "used up", s, state{pieces: []api.Piece{{At: c.at, Amount: 1}}})
	}
}

// P11.2: what came back meanwhile is used before it stops, and its piece is all that it used.
func TestUseOfWhatCameBack(t *testing.T) {
	s := made(t, 3, 10, 2)
	ran(t, s, 0, 1, 2)
	start(t, s, 9)
	wantDue(t, s, 10, 2)
	use(t, s, 2)
	wantUse(t, s, true, api.OK)
	wantState(t, "used up", s, state{pieces: []api.Piece{{At: 19, Amount: 3}}})
}

// P11.2
func TestUseRefused(t *testing.T) {
	idle := made(t, 3, 10, 2)
	stopped := made(t, 3, 10, 2)
	ran(t, stopped, 0, 1, 1)
	usedUp := made(t, 1, 10, 2)
	start(t, usedUp, 0)
	wantUse(t, usedUp, true, api.OK)
	nothingLeft := usedUp.Copy()
	start(t, nothingLeft, 3)
	most := made(t, 9, 10, 2)
	ran(t, most, 0, 1, 1)
	ran(t, most, 1, 2, 1)
	start(t, most, 3)
	for what, s := range map[string]*sporadic.Server{
		"never active": idle, "stopped": stopped, "used up": usedUp, "nothing left": nothingLeft, "most pieces": most,
	} {
		was, copied := stateOf(s), s.Copy()
		for range 3 {
			wantUse(t, s, false, api.ErrState)
		}
		wantState(t, what, s, was)
		wantSame(t, what, s, copied, true)
	}
}

// P11.2
func TestStopOfOneThatUsedNothing(t *testing.T) {
	for _, since := range someTimes() {
		for _, now := range someTimes() {
			s := made(t, 3, 10, 2)
			start(t, s, since)
			stop(t, s, now)
			wantState(t, "stopped", s, state{left: 3, high: true})
			wantSame(t, "stopped", s, made(t, 3, 10, 2), true)
		}
	}
}

// P11.2: at its start and the period, also where that is beyond the last time, or at now, if that is later.
func TestStopOfOneThatUsedSomething(t *testing.T) {
	for _, c := range []struct{ period, since, now, at int64 }{
		{10, 5, 0, 15}, {10, 5, 4, 15}, {10, 5, 5, 15}, {10, 5, 6, 15}, {10, 5, 14, 15},
		{10, 5, 15, 15}, {10, 5, 16, 16}, {10, 5, 99, 99}, {10, 5, api.MaxTime, api.MaxTime},
		{10, 0, 0, 10}, {10, 0, 9, 10}, {10, 0, 10, 10}, {10, 0, 11, 11},
		{3, 0, 0, 3}, {3, 7, 10, 10}, {3, 7, 11, 11}, {api.MaxTime, 0, 0, api.MaxTime},
		{10, api.MaxTime - 10, 0, api.MaxTime}, {10, api.MaxTime - 11, 0, api.MaxTime - 1},
		{10, api.MaxTime - 11, api.MaxTime, api.MaxTime},
		{10, api.MaxTime - 9, 0, api.MaxTime + 1}, {10, api.MaxTime - 9, api.MaxTime, api.MaxTime + 1},
		{10, api.MaxTime, 0, api.MaxTime + 10}, {10, api.MaxTime, api.MaxTime, api.MaxTime + 10},
		{api.MaxTime, 1, 2, api.MaxTime + 1}, {api.MaxTime, api.MaxTime, api.MaxTime, 2 * api.MaxTime},
	} {
		s := made(t, 3, c.period, 2)
		ran(t, s, c.since, c.now, 2)
		wantState(t, "stopped", s, state{left: 1, pieces: []api.Piece{{At: c.at, Amount: 2}}, high: true})
	}
}

// P11.2
func TestStopRefused(t *testing.T) {
	for _, active := range []bool{false, true} {
		s := made(t, 5, 10, 2)
		ran(t, s, 0, 1, 1)
		if active {
			start(t, s, 4)
			use(t, s, 2)
		}
		was, copied := stateOf(s), s.Copy()
		for _, now := range noTimes() {
			wantErr(t, "Stop", s.Stop(now), api.ErrArg)
		}
		for _, now := range someTimes() {
			if !active {
				wantErr(t, "Stop", s.Stop(now), api.ErrState)
			}
		}
		wantState(t, "refused", s, was)
		wantSame(t, "refused", s, copied, true)
	}
}

// P11.2: one that was used up has stopped already.
func TestStopOfOneThatIsUsedUp(t *testing.T) {
	s := made(t, 1, 10, 2)
	start(t, s, 0)
	wantUse(t, s, true, api.OK)
	wantErr(t, "Stop", s.Stop(3), api.ErrState)
	wantState(t, "refused", s, state{pieces: []api.Piece{{At: 10, Amount: 1}}})
}

// shuffled has pieces that come back in another order than they were made: 50: 1, 15: 2, 30: 3, 15: 4.
func shuffled(t *testing.T) *sporadic.Server {
	t.Helper()
	s := made(t, 11, 15, 5)
	ran(t, s, 3, 50, 1)
	ran(t, s, 0, 4, 2)
	ran(t, s, 15, 16, 3)
	ran(t, s, 0, 15, 4)
	wantState(t, "shuffled", s, state{left: 1, pieces: shuffledPieces(), high: true})
	return s
}

func shuffledPieces() []api.Piece {
	return []api.Piece{{At: 50, Amount: 1}, {At: 15, Amount: 2}, {At: 30, Amount: 3}, {At: 15, Amount: 4}}
}

// P11.3: no piece, some, all; just at a piece's time and ahead of it.
func TestDue(t *testing.T) {
	for _, c := range []struct {
		now, sum int64
		pieces   []api.Piece
	}{
		{0, 0, shuffledPieces()},
		{14, 0, shuffledPieces()},
		{15, 6, []api.Piece{{At: 50, Amount: 1}, {At: 30, Amount: 3}}},
		{16, 6, []api.Piece{{At: 50, Amount: 1}, {At: 30, Amount: 3}}},
		{29, 6, []api.Piece{{At: 50, Amount: 1}, {At: 30, Amount: 3}}},
		{30, 9, []api.Piece{{At: 50, Amount: 1}}},
		{49, 9, []api.Piece{{At: 50, Amount: 1}}},
		{50, 10, nil},
		{51, 10, nil},
		{api.MaxTime, 10, nil},
	} {
		s := shuffled(t)
		wantDue(t, s, c.now, c.sum)
		wantState(t, "came back", s, state{left: 1 + c.sum, pieces: c.pieces, high: true})
		wantDue(t, s, c.now, 0)
		wantState(t, "asked again", s, state{left: 1 + c.sum, pieces: c.pieces, high: true})
		wantDue(t, s, 99, 10-c.sum)
		wantState(t, "all came back", s, state{left: 11, high: true})
	}
}

// P11.3: of one piece behind the other, and of a time ahead of the one that was asked last.
func TestDueOfOneBehindTheOther(t *testing.T) {
	s := shuffled(t)
	for now := range int64(60) {
		switch now {
		case 15:
			wantDue(t, s, now, 6)
		case 30:
			wantDue(t, s, now, 3)
		case 50:
			wantDue(t, s, now, 1)
		default:
			wantDue(t, s, now, 0)
		}
		wantDue(t, s, now/2, 0)
	}
	wantState(t, "all came back", s, state{left: 11, high: true})
}

// P11.3: no error can be told; a time below all is ahead of each piece's, one beyond all behind that of each piece here.
func TestDueOfTimesThatMayNotBe(t *testing.T) {
	for _, now := range belowTime() {
		s := shuffled(t)
		wantDue(t, s, now, 0)
		wantState(t, "nothing", s, state{left: 1, pieces: shuffledPieces(), high: true})
	}
	for _, now := range beyondTime() {
		s := shuffled(t)
		wantDue(t, s, now, 10)
		wantState(t, "all", s, state{left: 11, high: true})
	}
}

// P11.3: of none that has pieces, and of one that is active: that goes on.
func TestDueWhileItIsActive(t *testing.T) {
	s := made(t, 5, 10, 2)
	wantDue(t, s, api.MaxTime, 0)
	wantState(t, "new", s, state{left: 5, high: true})
	ran(t, s, 0, 1, 2)
	start(t, s, 4)
	use(t, s, 1)
	wantDue(t, s, 9, 0)
	wantDue(t, s, 10, 2)
	wantState(t, "active", s, state{left: 4, active: true, since: 4, used: 1, high: true})
	wantDue(t, s, api.MaxTime, 0)
	wantState(t, "what is used is no piece yet", s, state{left: 4, active: true, since: 4, used: 1, high: true})
}

// P11.3: at the last time comes back what is due then, and no more, however often one asks.
func TestDueAtTheLastTime(t *testing.T) {
	s := made(t, 9, 10, 4)
	ran(t, s, api.MaxTime-10, api.MaxTime-9, 2)
	ran(t, s, api.MaxTime-9, api.MaxTime-8, 3)
	wantDue(t, s, api.MaxTime-1, 0)
	wantDue(t, s, api.MaxTime, 2)
	for range 3 {
		wantDue(t, s, api.MaxTime, 0)
		wantState(t, "came back", s, state{left: 6, pieces: []api.Piece{{At: api.MaxTime + 1, Amount: 3}}, high: true})
	}
}

// P11.3: no error can be told; beyond all times, too, what comes back is what is due at that number.
func TestDueBeyondTheLastTime(t *testing.T) {
	s := made(t, 9, 10, 4)
	ran(t, s, api.MaxTime, api.MaxTime, 2)
	ran(t, s, api.MaxTime-9, api.MaxTime, 3)
	wantDue(t, s, api.MaxTime, 0)
	wantDue(t, s, api.MaxTime+1, 3)
	wantDue(t, s, api.MaxTime+9, 0)
	wantState(t, "one came back", s, state{left: 7, pieces: []api.Piece{{At: api.MaxTime + 10, Amount: 2}}, high: true})
	wantDue(t, s, api.MaxTime+10, 2)
	wantState(t, "both came back", s, state{left: 9, high: true})
}

// P11.4: high, while fewer than most are on their way, and something is left.
func TestHigh(t *testing.T) {
	for most := 1; most <= 16; most++ {
		s := made(t, 40, 100, most)
		for n := 1; n <= most; n++ {
			if !s.High() {
				t.Errorf("low with %d of %d pieces", n-1, most)
			}
			ran(t, s, int64(n), int64(n), 2)
		}
		if s.High() || s.Left() < 1 || len(s.Pieces()) != most {
			t.Errorf("high with %v of %d pieces", s.Pieces(), most)
		}
		wantDue(t, s, 101, 2)
		if !s.High() {
			t.Errorf("low with %v of %d pieces", s.Pieces(), most)
		}
	}
}

// P11.4: nothing left is low, with no more than one piece.
func TestLowWithNothingLeft(t *testing.T) {
	s := made(t, 1, 100, 16)
	start(t, s, 0)
	wantUse(t, s, true, api.OK)
	wantState(t, "nothing left", s, state{pieces: []api.Piece{{At: 100, Amount: 1}}})
	wantDue(t, s, 100, 1)
	wantState(t, "came back", s, state{left: 1, high: true})
}

// P11.4
func TestLooksChangeNothing(t *testing.T) {
	s := shuffled(t)
	start(t, s, 8)
	copied := s.Copy()
	for range 3 {
		wantState(t, "looked at", s, state{left: 1, active: true, since: 8, pieces: shuffledPieces(), high: true})
	}
	wantSame(t, "looked at", s, copied, true)
}

// P11.4: what is done with an answer is not done with the server, nor the other way round.
func TestPiecesAreTheCallers(t *testing.T) {
	s := shuffled(t)
	one, other := s.Pieces(), s.Pieces()
	for i := range one {
		one[i] = api.Piece{At: 1, Amount: 99}
	}
	one = append(one[:1], api.Piece{At: 2, Amount: 98}, api.Piece{At: 3, Amount: 97})
	wantState(t, "an answer changed", s, state{left: 1, pieces: shuffledPieces(), high: true})
	grown := append(s.Pieces(), api.Piece{At: 4, Amount: 96})
	wantDue(t, s, 15, 6)
	ran(t, s, 20, 21, 1)
	if !slices.Equal(other, shuffledPieces()) {
		t.Errorf("an answer is %v when the server goes on", other)
	}
	if !slices.Equal(grown[:4], shuffledPieces()) || grown[4] != (api.Piece{At: 4, Amount: 96}) {
		t.Errorf("a longer answer is %v when the server goes on", grown)
	}
	if !slices.Equal(one, []api.Piece{{At: 1, Amount: 99}, {At: 2, Amount: 98}, {At: 3, Amount: 97}}) {
		t.Errorf("an answer that was changed is %v", one)
	}
}

// P11.4
func TestACopyGoesOnApart(t *testing.T) {
	s := shuffled(t)
	start(t, s, 8)
	c := s.Copy()
	if c == nil || c == s {
		t.Fatal("Copy is no other one")
	}
	wantSame(t, "copied", s, c, true)
	wantDue(t, c, 15, 6)
	use(t, c, 3)
	stop(t, c, 20)
	wantState(t, "the first one", s, state{left: 1, active: true, since: 8, pieces: shuffledPieces(), high: true})
	wantDue(t, s, 30, 9)
	use(t, s, 1)
	stop(t, s, 40)
	ran(t, s, 41, 42, 2)
	wantState(t, "the copy", c, state{
		left: 4, pieces: []api.Piece{{At: 50, Amount: 1}, {At: 30, Amount: 3}, {At: 23, Amount: 3}}, high: true})
	wantState(t, "the first one", s, state{
		left: 7, pieces: []api.Piece{{At: 50, Amount: 1}, {At: 40, Amount: 1}, {At: 56, Amount: 2}}, high: true})
	wantSame(t, "gone on apart", s, c, false)
}

// P11.4: a piece more for each goes to no place that both have.
func TestACopyHasPiecesOfItsOwn(t *testing.T) {
	s := made(t, 9, 10, 9)
	for n := range int64(5) {
		ran(t, s, n, n, 1)
		c := s.Copy()
		ran(t, c, 100, 100, 1)
		d := s.Copy()
		ran(t, d, 200, 200, 2)
		wantPieces := append(s.Pieces(), api.Piece{At: 110, Amount: 1})
		wantState(t, "a copy", c, state{left: 9 - n - 2, pieces: wantPieces, high: true})
	}
}

// P11.4: of all that can be asked a copy does as the first one.
func TestACopyDoesAsTheFirstOne(t *testing.T) {
	for _, s := range []*sporadic.Server{made(t, 1, 1, 1), made(t, 3, 10, 2), made(t, api.MaxTime, api.MaxTime, 16), shuffled(t)} {
		c := s.Copy().Copy()
		for _, x := range []*sporadic.Server{s, c} {
			start(t, x, 7)
			x.Use()
			x.Stop(9)
			x.Start(10)
		}
		wantSame(t, "gone on alike", s, c, true)
	}
}

// P11.4: one thing alone is another.
func TestSameTellsOneThingAlone(t *testing.T) {
	begin := func(budget, period int64, most int, since, times int64) *sporadic.Server {
		s := made(t, budget, period, most)
		ran(t, s, 1, 2, 1)
		start(t, s, since)
		use(t, s, times)
		return s
	}
	a := begin(9, 10, 3, 4, 2)
	wantSame(t, "the same", a, begin(9, 10, 3, 4, 2), true)
	wantSame(t, "the budget, and what is left", a, begin(8, 10, 3, 4, 2), false)
	wantSame(t, "the budget, and what was used", a, begin(8, 10, 3, 4, 1), false)
	wantSame(t, "most", a, begin(9, 10, 4, 4, 2), false)
	wantSame(t, "since when", a, begin(9, 10, 3, 5, 2), false)
	wantSame(t, "what was used, and what is left", a, begin(9, 10, 3, 4, 3), false)
	stopped := a.Copy()
	stop(t, stopped, 5)
	wantSame(t, "active", a, stopped, false)
	back := a.Copy()
	wantDue(t, back, 11, 1)
	wantSame(t, "a piece, and what is left", a, back, false)
}

// P11.4: of new ones the numbers that they are made with.
func TestSameOfNewOnes(t *testing.T) {
	wantSame(t, "the same", made(t, 3, 10, 2), made(t, 3, 10, 2), true)
	wantSame(t, "the budget", made(t, 3, 10, 2), made(t, 4, 10, 2), false)
	wantSame(t, "the period", made(t, 3, 10, 2), made(t, 3, 11, 2), false)
	wantSame(t, "most", made(t, 3, 10, 2), made(t, 3, 10, 3), false)
	wantSame(t, "the greatest period", made(t, 1, api.MaxTime, 1), made(t, 1, api.MaxTime-1, 1), false)
}

// P11.4: active since 0, with nothing used, is not the same as not active.
func TestSameTellsWhetherItIsActive(t *testing.T) {
	s := made(t, 3, 10, 2)
	start(t, s, 0)
	wantSame(t, "active since 0", s, made(t, 3, 10, 2), false)
	stop(t, s, 0)
	wantSame(t, "not any more", s, made(t, 3, 10, 2), true)
}

// P11.4: the budget alone, where as much is left.
func TestSameTellsTheBudget(t *testing.T) {
	a, b := made(t, 4, 10, 2), made(t, 5, 10, 2)
	start(t, a, 3)
	use(t, a, 1)
	start(t, b, 3)
	use(t, b, 2)
	wantSame(t, "while they are active", a, b, false)
	stop(t, a, 4)
	stop(t, b, 4)
	wantSame(t, "when they have stopped", a, b, false)
	wantDue(t, a, 13, 1)
	wantDue(t, b, 13, 2)
	wantSame(t, "when all came back", a, b, false)
}

// P11.4: a piece's time, its amount, its place in the order, and what is a piece or not yet.
func TestSameTellsAPiece(t *testing.T) {
	pair := func(first, second int64, firstTimes, secondTimes int64) *sporadic.Server {
		s := made(t, 9, 10, 3)
		ran(t, s, 0, first, firstTimes)
		ran(t, s, 0, second, secondTimes)
		return s
	}
	a := pair(20, 30, 2, 1)
	wantSame(t, "the same", a, pair(20, 30, 2, 1), true)
	wantSame(t, "a time", a, pair(21, 30, 2, 1), false)
	wantSame(t, "a time", a, pair(20, 31, 2, 1), false)
	wantSame(t, "amounts", a, pair(20, 30, 1, 2), false)
	wantSame(t, "the order", a, pair(30, 20, 1, 2), false)
	one := made(t, 9, 10, 3)
	ran(t, one, 0, 20, 3)
	wantSame(t, "one of both", a, one, false)
	b := pair(20, 30, 2, 1)
	ran(t, b, 0, 40, 1)
	c := made(t, 8, 10, 3)
	ran(t, c, 0, 20, 2)
	ran(t, c, 0, 30, 1)
	wantSame(t, "one piece more, and as much left", b, c, false)
}

// P11.4: which way led there is nothing to Same.
func TestSameHangsOnNoWayThere(t *testing.T) {
	a, b := made(t, 5, 10, 3), made(t, 5, 10, 3)
	ran(t, a, 7, 8, 2)
	ran(t, b, 0, 9, 4)
	ran(t, b, 3, 4, 0)
	wantDue(t, b, 10, 4)
	ran(t, b, 0, 17, 2)
	wantSame(t, "another way there", a, b, true)
	wantDue(t, a, 17, 2)
	wantSame(t, "one came back", a, b, false)
	wantDue(t, b, 18, 2)
	wantSame(t, "both came back", a, b, true)
	wantSame(t, "as new ones", a, made(t, 5, 10, 3), true)
}

// P11.4
func TestSameOfNoServers(t *testing.T) {
	for _, a := range noServers() {
		for _, b := range noServers() {
			wantSame(t, "none", a, b, true)
		}
		for _, s := range []*sporadic.Server{made(t, 1, 1, 1), made(t, 3, 10, 2), made(t, api.MaxTime, api.MaxTime, 16), shuffled(t)} {
			wantSame(t, "none and one", a, s, false)
		}
	}
}

// P11.1 to P11.4: ErrNil ahead of all, and else nothing.
func TestNoServer(t *testing.T) {
	for _, s := range noServers() {
		for _, now := range append(noTimes(), someTimes()...) {
			wantErr(t, "Start", s.Start(now), api.ErrNil)
			wantUse(t, s, false, api.ErrNil)
			wantErr(t, "Stop", s.Stop(now), api.ErrNil)
			wantDue(t, s, now, 0)
			wantState(t, "none", s, state{})
		}
		if c := s.Copy(); c != nil {
			t.Errorf("Copy of none is %v", c)
		}
		wantSame(t, "refused", s, nil, true)
	}
}

// The chapter's examples.
func TestExamples(t *testing.T) {
	s := made(t, 3, 10, 2)
	start(t, s, 5)
	wantUse(t, s, false, api.OK)
	wantUse(t, s, false, api.OK)
	stop(t, s, 9)
	wantState(t, "Stop(9)", s, state{left: 1, pieces: []api.Piece{{At: 15, Amount: 2}}, high: true})
	start(t, s, 11)
	wantUse(t, s, true, api.OK)
	wantState(t, "Use", s, state{pieces: []api.Piece{{At: 15, Amount: 2}, {At: 21, Amount: 1}}})
	wantDue(t, s, 14, 0)
	wantDue(t, s, 15, 2)
	wantState(t, "Due(15)", s, state{left: 2, pieces: []api.Piece{{At: 21, Amount: 1}}, high: true})
	wantDue(t, s, 30, 1)
	wantState(t, "Due(30)", s, state{left: 3, high: true})
	wantNoNew(t, 4, 3, 1)
	wantNoNew(t, 0, 3, 1)
	wantUse(t, s, false, api.ErrState)
}
