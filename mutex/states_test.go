package mutex_test

import (
	"fmt"
	"testing"

	"metronome/api"
	"metronome/mutex"
)

// Of the scenes below, 1 is the owner, if there is one, 2 is the one that waits, if one does, and 3 is another one.
// The ceiling is 10, and who locks has the base 4.
func scene(t *testing.T, kind api.Kind, name string) *mutex.Mutex {
	t.Helper()
	m := made(t, kind, api.ProtocolProtect, 10, name != "gone")
	switch name {
	case "owned":
		return after(m, lock(1, 4, 4), lock(2, 4, 4))
	case "left":
		return after(m, lock(1, 4, 4), ended(1))
	case "left, owned":
		return after(m, lock(0, 4, 4), ended(0), lock(1, 4, 4), lock(2, 4, 4))
	case "lost":
		return after(m, lock(1, 4, 4), ended(1), lock(1, 4, 4), unlock(1))
	case "gone":
		return after(m, lock(1, 4, 4), lock(2, 4, 4), ended(1))
	}
	return m
}

// stood is how each scene stands.
func stood() map[string]string {
	return map[string]string{
		"free":        "none well 10 []",
		"owned":       "1*1 well 10 [2]",
		"left":        "none left 10 []",
		"left, owned": "1*1 left 10 [2]",
		"lost":        "none lost 10 []",
		"gone":        "none gone 10 [2]",
	}
}

// row is what a call in a scene answers, and how the mutex stands behind it; as before it, if that is empty.
type row struct {
	scene  string
	call   call
	answer string
	stands string
}

func wantRows(t *testing.T, kind api.Kind, rows []row) {
	t.Helper()
	for _, r := range rows {
		m := scene(t, kind, r.scene)
		wantStand(t, r.scene, m, stood()[r.scene])
		what := fmt.Sprintf("kind %d, %s, %s", kind, r.scene, r.call.name)
		if got := r.call.do(m); got != r.answer {
			t.Errorf("%s: %s, want %s", what, got, r.answer)
		}
		if r.stands == "" {
			wantStand(t, what, m, stood()[r.scene])
			wantSame(t, what, m, scene(t, kind, r.scene), true)
			continue
		}
		wantStand(t, what, m, r.stands)
	}
}

func allKinds() []api.Kind {
	return []api.Kind{api.KindNormal, api.KindCheck, api.KindRecursive}
}

// P13.2
func TestLockAndTryInEachState(t *testing.T) {
	for _, kind := range allKinds() {
		wantRows(t, kind, []row{
			{"free", lock(3, 9, 4), "true 0", "3*1 well 10 []"},
			{"free", try(3, 4), "0", "3*1 well 10 []"},
			{"owned", lock(2, 9, 4), "false EINVAL", ""},
			{"owned", try(2, 4), "EINVAL", ""},
			{"owned", lock(3, 9, 4), "false 0", "1*1 well 10 [3 2]"},
			{"owned", lock(3, 4, 9), "false 0", "1*1 well 10 [2 3]"},
			{"owned", try(3, 4), "EBUSY", ""},
			{"left", lock(3, 9, 4), "true EOWNERDEAD", "3*1 left 10 []"},
			{"left", try(3, 4), "EOWNERDEAD", "3*1 left 10 []"},
			{"left", lock(1, 9, 4), "true EOWNERDEAD", "1*1 left 10 []"},
			{"left", try(1, 4), "EOWNERDEAD", "1*1 left 10 []"},
			{"left, owned", lock(2, 9, 4), "false EINVAL", ""},
			{"left, owned", try(2, 4), "EINVAL", ""},
			{"left, owned", lock(3, 9, 4), "false 0", "1*1 left 10 [3 2]"},
			{"left, owned", try(3, 4), "EBUSY", ""},
			{"lost", lock(1, 9, 4), "false ENOTRECOVERABLE", ""},
			{"lost", try(1, 4), "ENOTRECOVERABLE", ""},
			{"lost", lock(3, 9, 4), "false ENOTRECOVERABLE", ""},
			{"lost", try(3, 4), "ENOTRECOVERABLE", ""},
			{"gone", lock(1, 9, 4), "false 0", "none gone 10 [1 2]"},
			{"gone", try(1, 4), "EBUSY", ""},
			{"gone", lock(2, 9, 4), "false EINVAL", ""},
			{"gone", try(2, 4), "EINVAL", ""},
			{"gone", lock(3, 4, 4), "false 0", "none gone 10 [2 3]"},
			{"gone", try(3, 4), "EBUSY", ""},
		})
	}
}

// P13.2: also of one that is left: who has it already is told of that no more.
func TestLockAndTryByTheOwnerInEachState(t *testing.T) {
	for name, state := range map[string]string{"owned": "well", "left, owned": "left"} {
		wantRows(t, api.KindNormal, []row{
			{name, lock(1, 9, 4), "false 0", "1*1 " + state + " 10 [1 2]"},
			{name, lock(1, 4, 4), "false 0", "1*1 " + state + " 10 [2 1]"},
			{name, try(1, 4), "EBUSY", ""},
		})
		wantRows(t, api.KindCheck, []row{
			{name, lock(1, 9, 4), "false EDEADLK", ""},
			{name, try(1, 4), "EBUSY", ""},
		})
		wantRows(t, api.KindRecursive, []row{
			{name, lock(1, 9, 4), "true 0", "1*2 " + state + " 10 [2]"},
			{name, try(1, 4), "0", "1*2 " + state + " 10 [2]"},
		})
	}
}

// P13.3
func TestUnlockInEachState(t *testing.T) {
	for _, kind := range allKinds() {
		wantRows(t, kind, []row{
			{"free", unlock(3), "[] EPERM", ""},
			{"owned", unlock(1), "[2:0] 0", "2*1 well 10 []"},
			{"owned", unlock(2), "[] EPERM", ""},
			{"owned", unlock(3), "[] EPERM", ""},
			{"left", unlock(1), "[] EPERM", ""},
			{"left", unlock(3), "[] EPERM", ""},
			{"left, owned", unlock(1), "[2:ENOTRECOVERABLE] 0", "none lost 10 []"},
			{"left, owned", unlock(2), "[] EPERM", ""},
			{"left, owned", unlock(3), "[] EPERM", ""},
			{"lost", unlock(1), "[] EPERM", ""},
			{"lost", unlock(3), "[] EPERM", ""},
			{"gone", unlock(1), "[] EPERM", ""},
			{"gone", unlock(2), "[] EPERM", ""},
			{"gone", unlock(3), "[] EPERM", ""},
		})
	}
}

// P13.4
func TestConsistentInEachState(t *testing.T) {
	for _, kind := range allKinds() {
		for name := range stood() {
			for thread := range 16 {
				if name == "left, owned" && thread == 1 {
					wantRows(t, kind, []row{{name, consistent(1), "0", "1*1 well 10 [2]"}})
					continue
				}
				wantRows(t, kind, []row{{name, consistent(thread), "EINVAL", ""}})
			}
		}
	}
}

// P13.4: of one that is robust, the gone one is not.
func TestEndedInEachState(t *testing.T) {
	for _, kind := range allKinds() {
		for name := range stood() {
			for thread := range 16 {
				r := row{name, ended(thread), "[]", ""}
				if thread == 1 && (name == "owned" || name == "left, owned") {
					r.answer, r.stands = "[2:EOWNERDEAD]", "2*1 left 10 []"
				}
				wantRows(t, kind, []row{r})
			}
		}
	}
}

// P13.4: by its owner, and by each one where there is none: whoever waits.
func TestCeilInEachState(t *testing.T) {
	for _, kind := range allKinds() {
		wantRows(t, kind, []row{
			{"free", ceil(3, 7), "10 0", "none well 7 []"},
			{"owned", ceil(1, 7), "10 0", "1*1 well 7 [2]"},
			{"owned", ceil(2, 7), "0 EBUSY", ""},
			{"owned", ceil(3, 7), "0 EBUSY", ""},
			{"left", ceil(1, 7), "10 0", "none left 7 []"},
			{"left", ceil(3, 7), "10 0", "none left 7 []"},
			{"left, owned", ceil(1, 7), "10 0", "1*1 left 7 [2]"},
			{"left, owned", ceil(2, 7), "0 EBUSY", ""},
			{"left, owned", ceil(3, 7), "0 EBUSY", ""},
			{"lost", ceil(1, 7), "10 0", "none lost 7 []"},
			{"lost", ceil(3, 7), "10 0", "none lost 7 []"},
			{"gone", ceil(1, 7), "10 0", "none gone 7 [2]"},
			{"gone", ceil(2, 7), "10 0", "none gone 7 [2]"},
			{"gone", ceil(3, 7), "10 0", "none gone 7 [2]"},
		})
	}
}

// P13.5
func TestLeaveAndChangeInEachState(t *testing.T) {
	for _, kind := range allKinds() {
		for name, text := range stood() {
			for thread := range 16 {
				if waits := name == "owned" || name == "left, owned" || name == "gone"; thread == 2 && waits {
					wantRows(t, kind, []row{
						{name, leave(2), "true", text[:len(text)-len("[2]")] + "[]"},
						{name, change(2, 9), "true", text},
					})
					continue
				}
				wantRows(t, kind, []row{{name, leave(thread), "false", ""}, {name, change(thread, 9), "false", ""}})
			}
		}
	}
}

// P13.4: nobody waits, one waits, many wait.
func TestTheOwnerOfARobustOneEnds(t *testing.T) {
	for _, f := range forms() {
		if !f.robust {
			continue
		}
		m := after(f.made(t), lock(1, 1, 1))
		want(t, m, ended(1), "[]")
		wantStand(t, "nobody waits", m, fmt.Sprintf("none left %d []", f.ceiling))
		want(t, m, lock(2, 1, 1), "true EOWNERDEAD")
		wantStand(t, "told", m, fmt.Sprintf("2*1 left %d []", f.ceiling))

		m = after(f.made(t), lock(1, 1, 1), lock(2, 1, 1))
		want(t, m, ended(1), "[2:EOWNERDEAD]")
		wantStand(t, "one waits", m, fmt.Sprintf("2*1 left %d []", f.ceiling))

		m = after(f.made(t), lock(1, 1, 1), lock(2, 3, 1), lock(3, 5, 1), lock(4, 5, 1), lock(5, 4, 1))
		want(t, m, ended(1), "[3:EOWNERDEAD]")
		wantStand(t, "many wait", m, fmt.Sprintf("3*1 left %d [4 5 2]", f.ceiling))
	}
}

// P13.3, P13.4: made consistent, it goes on as if nothing had been: the next one is told nothing.
func TestOneThatIsMadeConsistentGoesOn(t *testing.T) {
	for _, f := range forms() {
		if !f.robust {
			continue
		}
		m := after(f.made(t), lock(1, 1, 1), lock(2, 3, 1), lock(3, 5, 1), ended(1))
		want(t, m, consistent(3), "0")
		wantStand(t, "consistent", m, fmt.Sprintf("3*1 well %d [2]", f.ceiling))
		wantRefused(t, m, consistent(3), "EINVAL")
		want(t, m, unlock(3), "[2:0] 0")
		wantStand(t, "the next one", m, fmt.Sprintf("2*1 well %d []", f.ceiling))
		want(t, m, unlock(2), "[] 0")
		wantSame(t, "as if nothing had been", m, f.made(t), true)
		want(t, m, lock(4, 1, 1), "true 0")
	}
}

// P13.3: not made consistent, nobody gets it any more: nobody waits, one waits, many wait.
func TestOneThatIsNotMadeConsistentIsLost(t *testing.T) {
	for _, f := range forms() {
		if !f.robust {
			continue
		}
		lost := fmt.Sprintf("none lost %d []", f.ceiling)
		m := after(f.made(t), lock(1, 1, 1), ended(1), try(2, 1))
		want(t, m, unlock(2), "[] 0")
		wantStand(t, "nobody waits", m, lost)

		m = after(f.made(t), lock(1, 1, 1), lock(2, 1, 1), lock(3, 1, 1), ended(1))
		want(t, m, unlock(2), "[3:ENOTRECOVERABLE] 0")
		wantStand(t, "one waits", m, lost)

		m = after(f.made(t), lock(1, 1, 1), lock(2, 31, 1), ended(1), lock(3, 4, 1), lock(4, 9, 1), lock(5, 4, 1), lock(6, 9, 1))
		want(t, m, unlock(2), "[4:ENOTRECOVERABLE 6:ENOTRECOVERABLE 3:ENOTRECOVERABLE 5:ENOTRECOVERABLE] 0")
		wantStand(t, "many wait", m, lost)
		for thread := range 16 {
			wantRefused(t, m, lock(thread, 9, 1), "false ENOTRECOVERABLE")
			wantRefused(t, m, try(thread, 1), "ENOTRECOVERABLE")
			wantRefused(t, m, consistent(thread), "EINVAL")
			wantRefused(t, m, ended(thread), "[]")
		}
	}
}

// P13.3: one that is left and was locked several times is lost at the last unlock alone; made consistent ahead of it, it is not.
func TestARecursiveOneThatIsLeftIsLostAtTheLastUnlock(t *testing.T) {
	m := after(plain(t, api.KindRecursive, true), lock(1, 5, 5), ended(1), lock(2, 5, 5), lock(2, 5, 5), lock(3, 5, 5))
	n := m.Copy()
	want(t, m, unlock(2), "[] 0")
	wantStand(t, "once less", m, "2*1 left 0 [3]")
	want(t, m, unlock(2), "[3:ENOTRECOVERABLE] 0")
	wantStand(t, "lost", m, "none lost 0 []")

	want(t, n, unlock(2), "[] 0")
	want(t, n, consistent(2), "0")
	want(t, n, unlock(2), "[3:0] 0")
	wantStand(t, "well", n, "3*1 well 0 []")
}

// P13.4, P13.6: each end is told once, to the next one, whether it was made consistent in between or not.
func TestOwnersEndAgainAndAgain(t *testing.T) {
	for _, mends := range []bool{false, true} {
		m := after(plain(t, api.KindCheck, true), lock(0, 5, 5))
		for thread := 1; thread < 16; thread++ {
			want(t, m, lock(thread, 5, 5), "false 0")
		}
		for thread := range 15 {
			want(t, m, ended(thread), fmt.Sprintf("[%d:EOWNERDEAD]", thread+1))
			if got := m.At(); got != (api.LockState{Owner: thread + 1, Count: 1, State: api.Left}) {
				t.Errorf("%d has ended: %+v", thread, got)
			}
			if mends {
				want(t, m, consistent(thread+1), "0")
			}
			wantRefused(t, m, ended(thread), "[]")
		}
		want(t, m, ended(15), "[]")
		wantStand(t, "all have ended", m, "none left 0 []")
		for thread := range 16 {
			want(t, m, try(thread, 5), "EOWNERDEAD")
			want(t, m, ended(thread), "[]")
		}
	}
}

// P13.4: of one that is not robust nobody gets it any more; who waits goes on waiting, and others come.
func TestTheOwnerOfOneThatIsNotRobustEnds(t *testing.T) {
	for _, f := range forms() {
		if f.robust {
			continue
		}
		m := after(f.made(t), lock(1, 1, 1))
		want(t, m, ended(1), "[]")
		wantStand(t, "nobody waits", m, fmt.Sprintf("none gone %d []", f.ceiling))
		want(t, m, lock(2, 4, 1), "false 0")
		want(t, m, lock(1, 5, 1), "false 0")
		wantStand(t, "they wait for ever", m, fmt.Sprintf("none gone %d [1 2]", f.ceiling))

		m = after(f.made(t), lock(1, 1, 1), lock(2, 3, 1), lock(3, 5, 1))
		want(t, m, ended(1), "[]")
		wantStand(t, "two wait", m, fmt.Sprintf("none gone %d [3 2]", f.ceiling))
		for thread := range 16 {
			wantRefused(t, m, unlock(thread), "[] EPERM")
			wantRefused(t, m, consistent(thread), "EINVAL")
			wantRefused(t, m, ended(thread), "[]")
		}
		want(t, m, leave(3), "true")
		want(t, m, leave(2), "true")
		wantRefused(t, m, try(2, 1), "EBUSY")
	}
}

// P13.4: of one that is not robust there is nothing to be made consistent.
func TestConsistentIsOfRobustOnesAlone(t *testing.T) {
	for _, f := range forms() {
		m := after(f.made(t), lock(1, 1, 1))
		wantRefused(t, m, consistent(1), "EINVAL")
		if !f.robust {
			wantRefused(t, after(m, ended(1)), consistent(1), "EINVAL")
		}
	}
}

// P13.4: each ceiling by each other one; the elder one is told, and the new one holds for who locks.
func TestCeilTellsTheElderCeiling(t *testing.T) {
	for elder := 1; elder <= 31; elder++ {
		for ceiling := 1; ceiling <= 31; ceiling++ {
			m := made(t, api.KindRecursive, api.ProtocolProtect, elder, false)
			want(t, m, ceil(5, ceiling), fmt.Sprintf("%d 0", elder))
			wantStand(t, "Ceil", m, fmt.Sprintf("none well %d []", ceiling))
			wantSame(t, "Ceil", m, made(t, api.KindRecursive, api.ProtocolProtect, ceiling, false), true)
			want(t, m, lock(4, 1, ceiling), "true 0")
			want(t, m, ceil(4, elder), fmt.Sprintf("%d 0", ceiling))
			if ceiling > elder {
				wantRefused(t, m, lock(4, 1, ceiling), "false EINVAL")
			} else {
				want(t, m, lock(4, 1, ceiling), "true 0")
			}
		}
	}
}

// P13.4: without Protect there is none to be set, whatever it is, and whoever asks.
func TestCeilIsOfProtectAlone(t *testing.T) {
	for _, f := range forms() {
		if f.protocol == api.ProtocolProtect {
			continue
		}
		m := f.made(t)
		owned := after(f.made(t), lock(1, 1, 1))
		for _, ceiling := range append(noPrios(), 1, 5, 31) {
			wantRefused(t, m, ceil(1, ceiling), "0 EINVAL")
			wantRefused(t, owned, ceil(1, ceiling), "0 EINVAL")
			wantRefused(t, owned, ceil(2, ceiling), "0 EINVAL")
		}
	}
}

// P13.5: to a higher one, a lower one, the same; who changes keeps how long it has waited.
func TestChangeAndTheOrderBehindIt(t *testing.T) {
	m := after(plain(t, api.KindNormal, false), lock(0, 1, 1), lock(1, 5, 1), lock(2, 5, 1), lock(3, 5, 1), lock(4, 9, 1))
	steps := []struct {
		thread, prio int
		order        string
	}{
		{3, 5, "[4 1 2 3]"},
		{2, 9, "[2 4 1 3]"},
		{4, 5, "[2 1 3 4]"},
		{2, 5, "[1 2 3 4]"},
		{1, 1, "[2 3 4 1]"},
		{1, 5, "[1 2 3 4]"},
		{4, 31, "[4 1 2 3]"},
		{3, 31, "[3 4 1 2]"},
		{1, 31, "[1 3 4 2]"},
	}
	for _, s := range steps {
		want(t, m, change(s.thread, s.prio), "true")
		wantStand(t, fmt.Sprintf("Change(%d, %d)", s.thread, s.prio), m, "0*1 well 0 "+s.order)
	}
	wantRefused(t, m, change(0, 31), "false")
	wantRefused(t, m, change(5, 31), "false")
	want(t, m, unlock(0), "[1:0] 0")
	want(t, m, unlock(1), "[3:0] 0")
}

// P13.5: who has left comes behind those of its priority if it waits again.
func TestWhoHasLeftIsPassedOver(t *testing.T) {
	m := after(plain(t, api.KindNormal, false), lock(0, 1, 1), lock(1, 5, 1), lock(2, 5, 1), lock(3, 5, 1))
	want(t, m, leave(1), "true")
	wantRefused(t, m, leave(1), "false")
	wantRefused(t, m, leave(0), "false")
	wantStand(t, "it has left", m, "0*1 well 0 [2 3]")
	want(t, m, lock(1, 5, 1), "false 0")
	wantStand(t, "it waits again", m, "0*1 well 0 [2 3 1]")
	want(t, m, leave(3), "true")
	want(t, m, unlock(0), "[2:0] 0")
	wantRefused(t, m, leave(2), "false")
	wantRefused(t, m, change(2, 9), "false")
	want(t, m, unlock(2), "[1:0] 0")
}

// P13.5: the owner of a normal one may wait for it, and leave.
func TestTheOwnerThatWaitsLeaves(t *testing.T) {
	m := after(plain(t, api.KindNormal, false), lock(1, 5, 5), lock(2, 6, 6), lock(1, 5, 5))
	want(t, m, change(1, 7), "true")
	wantStand(t, "ahead", m, "1*1 well 0 [1 2]")
	want(t, m, leave(1), "true")
	wantStand(t, "it has it yet", m, "1*1 well 0 [2]")
	want(t, m, unlock(1), "[2:0] 0")
}
