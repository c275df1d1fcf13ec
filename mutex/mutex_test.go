package mutex_test

import (
	"fmt"
	"math"
	"strings"
	"testing"

	"metronome/api"
	"metronome/mutex"
)

// noMutexes are a nil and a zero one.
func noMutexes() []*mutex.Mutex {
	return []*mutex.Mutex{nil, {}}
}

// noThreads are numbers that are no threads.
func noThreads() []int {
	return []int{-1, -2, -15, -16, -17, 16, 17, 31, 32, 256, 257, 1 << 32, 1<<32 + 1, -1 << 32, math.MinInt, math.MinInt + 1, math.MaxInt}
}

// noPrios are numbers that are no priorities.
func noPrios() []int {
	return []int{0, -1, -2, -5, -31, -32, 32, 33, 63, 64, 69, 256, 261, 1 << 32, 1<<32 + 5, -1 << 32, math.MinInt, math.MinInt + 5, math.MaxInt}
}

// made is a mutex of those.
func made(t *testing.T, kind api.Kind, protocol api.Protocol, ceiling int, robust bool) *mutex.Mutex {
	t.Helper()
	m, err := mutex.New(kind, protocol, ceiling, robust)
	if err != api.OK || m == nil {
		t.Fatalf("New(%d, %d, %d, %v): %v, %v", kind, protocol, ceiling, robust, m, err)
	}
	return m
}

// plain is one of that kind that hands no priorities on.
func plain(t *testing.T, kind api.Kind, robust bool) *mutex.Mutex {
	t.Helper()
	return made(t, kind, api.ProtocolNone, 0, robust)
}

// form is what a mutex can be made as.
type form struct {
	kind     api.Kind
	protocol api.Protocol
	ceiling  int
	robust   bool
}

// forms are each kind with each protocol, robust and not, with the least and the greatest ceiling.
func forms() []form {
	var all []form
	for _, kind := range []api.Kind{api.KindNormal, api.KindCheck, api.KindRecursive} {
		for _, robust := range []bool{false, true} {
			all = append(all,
				form{kind, api.ProtocolNone, 0, robust},
				form{kind, api.ProtocolInherit, 0, robust},
				form{kind, api.ProtocolProtect, 1, robust},
				form{kind, api.ProtocolProtect, 31, robust})
		}
	}
	return all
}

func (f form) made(t *testing.T) *mutex.Mutex {
	t.Helper()
	return made(t, f.kind, f.protocol, f.ceiling, f.robust)
}

// posixText is an answer as a text.
func posixText(p api.Posix) string {
	switch p {
	case 0:
		return "0"
	case api.EPERM:
		return "EPERM"
	case api.EAGAIN:
		return "EAGAIN"
	case api.EBUSY:
		return "EBUSY"
	case api.EINVAL:
		return "EINVAL"
	case api.EDEADLK:
		return "EDEADLK"
	case api.EOWNERDEAD:
		return "EOWNERDEAD"
	case api.ENOTRECOVERABLE:
		return "ENOTRECOVERABLE"
	}
	return fmt.Sprint("posix ", int(p))
}

// wokenText is who goes on, with what each is told.
func wokenText(list []api.Woken) string {
	var words []string
	for _, w := range list {
		words = append(words, fmt.Sprintf("%d:%s", w.Thread, posixText(w.Posix)))
	}
	return "[" + strings.Join(words, " ") + "]"
}

// call is something that is done to a mutex, and tells the answer as a text.
type call struct {
	name string
	do   func(m *mutex.Mutex) string
}

func lock(t, prio, base int) call {
	return call{fmt.Sprintf("Lock(%d, %d, %d)", t, prio, base), func(m *mutex.Mutex) string {
		has, posix := m.Lock(t, prio, base)
		return fmt.Sprintf("%v %s", has, posixText(posix))
	}}
}

func try(t, base int) call {
	return call{fmt.Sprintf("Try(%d, %d)", t, base), func(m *mutex.Mutex) string {
		return posixText(m.Try(t, base))
	}}
}

func unlock(t int) call {
	return call{fmt.Sprintf("Unlock(%d)", t), func(m *mutex.Mutex) string {
		woken, posix := m.Unlock(t)
		return wokenText(woken) + " " + posixText(posix)
	}}
}

func consistent(t int) call {
	return call{fmt.Sprintf("Consistent(%d)", t), func(m *mutex.Mutex) string {
		return posixText(m.Consistent(t))
	}}
}

func ended(t int) call {
	return call{fmt.Sprintf("Ended(%d)", t), func(m *mutex.Mutex) string {
		return wokenText(m.Ended(t))
	}}
}

func leave(t int) call {
	return call{fmt.Sprintf("Leave(%d)", t), func(m *mutex.Mutex) string {
		return fmt.Sprint(m.Leave(t))
	}}
}

func change(t, prio int) call {
	return call{fmt.Sprintf("Change(%d, %d)", t, prio), func(m *mutex.Mutex) string {
		return fmt.Sprint(m.Change(t, prio))
	}}
}

func ceil(t, ceiling int) call {
	return call{fmt.Sprintf("Ceil(%d, %d)", t, ceiling), func(m *mutex.Mutex) string {
		elder, posix := m.Ceil(t, ceiling)
		return fmt.Sprintf("%d %s", elder, posixText(posix))
	}}
}

// stand is how a mutex stands, as a text: its owner and how often that one has locked it, its state, its ceiling, who waits.
func stand(m *mutex.Mutex) string {
	at := m.At()
	return standText(at.Owner, at.Count, int(at.State), at.Ceiling, m.Waiting())
}

func standText(owner, count, state, ceiling int, waiting []int) string {
	name := fmt.Sprint("state ", state)
	if names := []string{"well", "left", "lost", "gone"}; state >= 0 && state < len(names) {
		name = names[state]
	}
	who := "none"
	if owner != -1 || count != 0 {
		who = fmt.Sprintf("%d*%d", owner, count)
	}
	return fmt.Sprintf("%s %s %d %v", who, name, ceiling, append([]int{}, waiting...))
}

// want does a call, and asks for that answer.
func want(t *testing.T, m *mutex.Mutex, c call, answer string) {
	t.Helper()
	if got := c.do(m); got != answer {
		t.Errorf("%s is %s, want %s", c.name, got, answer)
	}
}

// wantStand asks for how it stands.
func wantStand(t *testing.T, what string, m *mutex.Mutex, text string) {
	t.Helper()
	if got := stand(m); got != text {
		t.Errorf("%s: it stands as %s, want %s", what, got, text)
	}
}

// wantRefused does a call, asks for that answer, and that nothing has changed.
func wantRefused(t *testing.T, m *mutex.Mutex, c call, answer string) {
	t.Helper()
	was, text := m.Copy(), stand(m)
	want(t, m, c, answer)
	wantStand(t, c.name, m, text)
	wantSame(t, c.name, m, was, true)
}

func wantSame(t *testing.T, what string, a, b *mutex.Mutex, is bool) {
	t.Helper()
	if mutex.Same(a, b) != is || mutex.Same(b, a) != is {
		t.Errorf("%s: Same is %v, %v, want %v", what, mutex.Same(a, b), mutex.Same(b, a), is)
	}
}

// after does calls to a mutex, whatever they answer.
func after(m *mutex.Mutex, calls ...call) *mutex.Mutex {
	for _, c := range calls {
		c.do(m)
	}
	return m
}

// P13.1, P13.5
func TestANewOneIsFreeAndWell(t *testing.T) {
	for _, f := range forms() {
		m := f.made(t)
		wantStand(t, fmt.Sprint(f), m, fmt.Sprintf("none well %d []", f.ceiling))
		if m.At() != (api.LockState{Owner: -1, Ceiling: f.ceiling}) || m.Protocol() != f.protocol {
			t.Errorf("%v: %+v, protocol %d", f, m.At(), m.Protocol())
		}
		for thread := range 16 {
			wantRefused(t, m, unlock(thread), "[] EPERM")
			wantRefused(t, m, leave(thread), "false")
		}
	}
}

// P13.1: with Protect alone there is a ceiling, from 1 to 31; it must be one then.
func TestNewTakesTheCeilingsOfItsProtocol(t *testing.T) {
	for _, f := range forms() {
		for ceiling := 0; ceiling <= 31; ceiling++ {
			m, err := mutex.New(f.kind, f.protocol, ceiling, f.robust)
			if may := (f.protocol == api.ProtocolProtect) == (ceiling > 0); !may {
				if m != nil || err != api.ErrArg {
					t.Errorf("%v: ceiling %d: %v, %v", f, ceiling, m, err)
				}
				continue
			}
			if err != api.OK {
				t.Fatalf("%v: ceiling %d: %v", f, ceiling, err)
			}
			wantStand(t, "New", m, fmt.Sprintf("none well %d []", ceiling))
		}
	}
}

// P13.1
func TestNewRefusesWhatMayNotBe(t *testing.T) {
	numbers := []int{-1, -2, -3, 3, 4, 5, 256, 257, 1 << 32, 1<<32 + 1, -1 << 32, math.MinInt, math.MaxInt}
	refused := func(k api.Kind, p api.Protocol, ceiling int) {
		t.Helper()
		for _, robust := range []bool{false, true} {
			if m, err := mutex.New(k, p, ceiling, robust); m != nil || err != api.ErrArg {
				t.Errorf("New(%d, %d, %d, %v): %v, %v", k, p, ceiling, robust, m, err)
			}
		}
	}
	for _, n := range numbers {
		for _, ceiling := range []int{0, 1, 31, -1, 32} {
			refused(api.Kind(n), api.ProtocolNone, ceiling)
			refused(api.Kind(n), api.ProtocolInherit, ceiling)
			refused(api.Kind(n), api.ProtocolProtect, ceiling)
			refused(api.KindNormal, api.Protocol(n), ceiling)
			refused(api.KindRecursive, api.Protocol(n), ceiling)
			refused(api.Kind(n), api.Protocol(n), ceiling)
		}
	}
	for _, f := range forms() {
		for _, ceiling := range noPrios() {
			if ceiling != 0 || f.protocol == api.ProtocolProtect {
				refused(f.kind, f.protocol, ceiling)
			}
		}
	}
}

// P13.2: each thread, with each priority, gets one that is free.
func TestWhoLocksAFreeOneHasIt(t *testing.T) {
	for _, f := range forms() {
		for thread := range 16 {
			for prio := 1; prio <= 31; prio++ {
				m := f.made(t)
				want(t, m, lock(thread, prio, 1), "true 0")
				wantStand(t, "Lock", m, fmt.Sprintf("%d*1 well %d []", thread, f.ceiling))
				n := f.made(t)
				want(t, n, try(thread, 1), "0")
				wantSame(t, "Lock and Try", m, n, true)
			}
		}
	}
}

// P13.2: below, at and beyond the ceiling; the effective priority is nothing to it.
func TestABaseBesideTheCeiling(t *testing.T) {
	for ceiling := 1; ceiling <= 31; ceiling++ {
		for base := 1; base <= 31; base++ {
			for _, prio := range []int{1, base, 31} {
				m := made(t, api.KindNormal, api.ProtocolProtect, ceiling, false)
				n := m.Copy()
				if base > ceiling {
					wantRefused(t, m, lock(3, prio, base), "false EINVAL")
					wantRefused(t, n, try(3, base), "EINVAL")
					continue
				}
				want(t, m, lock(3, prio, base), "true 0")
				want(t, n, try(3, base), "0")
			}
		}
	}
}

// P13.2: where there is no ceiling, no base is beyond it.
func TestWithoutACeilingEachBaseMayBe(t *testing.T) {
	for _, protocol := range []api.Protocol{api.ProtocolNone, api.ProtocolInherit} {
		for base := 1; base <= 31; base++ {
			want(t, made(t, api.KindCheck, protocol, 0, false), lock(0, 1, base), "true 0")
			want(t, made(t, api.KindCheck, protocol, 0, false), try(0, base), "0")
		}
	}
}

// P13.2: a base beyond the ceiling is told ahead of that it is lost, of who waits, of a deadlock, and of too many.
func TestABaseBeyondTheCeilingIsToldFirst(t *testing.T) {
	for _, f := range forms() {
		if f.protocol != api.ProtocolProtect || f.ceiling == 31 {
			continue
		}
		owned := after(f.made(t), lock(1, 1, 1), lock(2, 1, 1))
		for _, m := range []*mutex.Mutex{owned, after(owned.Copy(), ended(1)), after(owned.Copy(), ended(1), unlock(2))} {
			for _, thread := range []int{1, 2, 3} {
				wantRefused(t, m, lock(thread, 1, 2), "false EINVAL")
				wantRefused(t, m, try(thread, 2), "EINVAL")
			}
		}
	}
}

// P13.2: by Lock and by Try, each kind, whatever the protocol.
func TestALockByTheOwner(t *testing.T) {
	for _, f := range forms() {
		m := after(f.made(t), lock(4, 1, 1))
		switch f.kind {
		case api.KindNormal:
			wantRefused(t, m, try(4, 1), "EBUSY")
			want(t, m, lock(4, 9, 1), "false 0")
			wantStand(t, "it waits for itself", m, fmt.Sprintf("4*1 well %d [4]", f.ceiling))
			wantRefused(t, m, lock(4, 9, 1), "false EINVAL")
			wantRefused(t, m, try(4, 1), "EINVAL")
		case api.KindCheck:
			wantRefused(t, m, lock(4, 9, 1), "false EDEADLK")
			wantRefused(t, m, try(4, 1), "EBUSY")
		case api.KindRecursive:
			want(t, m, lock(4, 9, 1), "true 0")
			wantStand(t, "once more", m, fmt.Sprintf("4*2 well %d []", f.ceiling))
			want(t, m, try(4, 1), "0")
			wantStand(t, "once more", m, fmt.Sprintf("4*3 well %d []", f.ceiling))
		}
	}
}

// P13.2, P13.3: once, as often as may be, once more; and as often back.
func TestARecursiveOneIsLockedAsOftenAsMayBe(t *testing.T) {
	m := after(plain(t, api.KindRecursive, true), lock(7, 5, 5))
	for n := 2; n <= api.MaxCount; n++ {
		if n%2 == 0 {
			want(t, m, lock(7, 5, 5), "true 0")
		} else {
			want(t, m, try(7, 5), "0")
		}
		if got := m.At().Count; got != n {
			t.Fatalf("Count is %d, want %d", got, n)
		}
	}
	wantRefused(t, m, lock(7, 5, 5), "false EAGAIN")
	wantRefused(t, m, try(7, 5), "EAGAIN")
	want(t, m, lock(8, 5, 5), "false 0")
	want(t, m, unlock(7), "[] 0")
	want(t, m, lock(7, 5, 5), "true 0")
	wantRefused(t, m, try(7, 5), "EAGAIN")
	for n := api.MaxCount - 1; n >= 1; n-- {
		want(t, m, unlock(7), "[] 0")
		if got := m.At(); got.Count != n || got.Owner != 7 {
			t.Fatalf("%+v, want Count %d", got, n)
		}
	}
	want(t, m, unlock(7), "[8:0] 0")
	wantStand(t, "handed on", m, "8*1 well 0 []")
	wantRefused(t, m, unlock(7), "[] EPERM")
}

// P13.3, P13.4: how often it was locked ends with its owner, and is no part of the next one's.
func TestTheCountEndsWithTheOwner(t *testing.T) {
	for _, robust := range []bool{false, true} {
		m := after(plain(t, api.KindRecursive, robust), lock(1, 5, 5), lock(1, 5, 5), lock(1, 5, 5))
		wantStand(t, "locked", m, "1*3 well 0 []")
		want(t, m, ended(1), "[]")
		if robust {
			wantStand(t, "ended", m, "none left 0 []")
			want(t, m, lock(2, 5, 5), "true EOWNERDEAD")
			wantStand(t, "the next one", m, "2*1 left 0 []")
		} else {
			wantStand(t, "ended", m, "none gone 0 []")
		}
	}
}

// P13.2, P13.3: who gets it is the one of the greatest priority, of several the one that has waited longest.
func TestWhoGetsItNext(t *testing.T) {
	for _, f := range forms() {
		m := after(f.made(t), lock(0, 1, 1), lock(9, 5, 1), lock(3, 7, 1), lock(8, 5, 1), lock(2, 31, 1), lock(5, 7, 1), lock(6, 1, 1), lock(1, 5, 1))
		order := []int{2, 3, 5, 9, 8, 1, 6}
		wantStand(t, "all wait", m, fmt.Sprintf("0*1 well %d %v", f.ceiling, order))
		owner := 0
		for i, next := range order {
			want(t, m, unlock(owner), fmt.Sprintf("[%d:0] 0", next))
			wantStand(t, "handed on", m, fmt.Sprintf("%d*1 well %d %v", next, f.ceiling, order[i+1:]))
			owner = next
		}
		want(t, m, unlock(owner), "[] 0")
		wantSame(t, "all have had it", m, f.made(t), true)
	}
}

// P13.2: it waits with its effective priority, not with its base.
func TestWhoWaitsHasItsEffectivePriority(t *testing.T) {
	m := after(plain(t, api.KindNormal, false), lock(0, 1, 1), lock(1, 2, 30), lock(2, 9, 1), lock(3, 8, 9))
	wantStand(t, "three wait", m, "0*1 well 0 [2 3 1]")
}

// P13.3: the owner of a normal one that waits for it gives it up, to itself if it is the first one.
func TestTheOwnerThatWaitsForItselfUnlocks(t *testing.T) {
	m := after(plain(t, api.KindNormal, false), lock(4, 5, 5), lock(4, 5, 5), lock(6, 5, 5))
	want(t, m, unlock(4), "[4:0] 0")
	wantStand(t, "it has it again", m, "4*1 well 0 [6]")
	want(t, m, unlock(4), "[6:0] 0")
	wantStand(t, "the other one", m, "6*1 well 0 []")

	m = after(plain(t, api.KindNormal, true), lock(4, 5, 5), lock(4, 5, 5), lock(6, 6, 5))
	want(t, m, ended(4), "[6:EOWNERDEAD]")
	wantStand(t, "the other one", m, "6*1 left 0 [4]")
	want(t, m, leave(4), "true")
	want(t, m, unlock(6), "[] 0")
	wantStand(t, "lost", m, "none lost 0 []")
}

// P13.2: one that waits for it is refused, and keeps its place.
func TestWhoWaitsAndLocksAgainIsRefused(t *testing.T) {
	for _, f := range forms() {
		m := after(f.made(t), lock(0, 1, 1), lock(1, 5, 1), lock(2, 5, 1))
		for _, prio := range []int{1, 5, 31} {
			wantRefused(t, m, lock(2, prio, 1), "false EINVAL")
			wantRefused(t, m, try(2, 1), "EINVAL")
		}
		want(t, m, leave(2), "true")
		want(t, m, lock(2, 31, 1), "false 0")
		wantStand(t, "it waits anew", m, fmt.Sprintf("0*1 well %d [2 1]", f.ceiling))
	}
}

// P13.2, P13.3: sixteen threads, all that there may be, the owner among those who wait.
func TestAllThreadsWait(t *testing.T) {
	m := plain(t, api.KindNormal, true)
	for thread := range 16 {
		want(t, m, lock(thread, 1+thread, 1), fmt.Sprintf("%v 0", thread == 0))
	}
	want(t, m, lock(0, 31, 1), "false 0")
	wantStand(t, "all wait", m, "0*1 well 0 [0 15 14 13 12 11 10 9 8 7 6 5 4 3 2 1]")
	want(t, m, ended(0), "[0:EOWNERDEAD]")
	want(t, m, unlock(0), "[15:ENOTRECOVERABLE 14:ENOTRECOVERABLE 13:ENOTRECOVERABLE 12:ENOTRECOVERABLE 11:ENOTRECOVERABLE 10:ENOTRECOVERABLE 9:ENOTRECOVERABLE 8:ENOTRECOVERABLE 7:ENOTRECOVERABLE 6:ENOTRECOVERABLE 5:ENOTRECOVERABLE 4:ENOTRECOVERABLE 3:ENOTRECOVERABLE 2:ENOTRECOVERABLE 1:ENOTRECOVERABLE] 0")
	wantStand(t, "lost", m, "none lost 0 []")
}

// P13.2, P13.3, P13.4: the chapter's examples.
func TestTheExamples(t *testing.T) {
	m := plain(t, api.KindCheck, true)
	want(t, m, lock(1, 5, 5), "true 0")
	want(t, m, lock(1, 5, 5), "false EDEADLK")
	want(t, m, lock(2, 6, 6), "false 0")
	want(t, m, lock(3, 7, 7), "false 0")
	want(t, m, try(4, 4), "EBUSY")
	want(t, m, unlock(2), "[] EPERM")
	want(t, m, ended(1), "[3:EOWNERDEAD]")
	wantStand(t, "ended", m, "3*1 left 0 [2]")
	want(t, m, unlock(3), "[2:ENOTRECOVERABLE] 0")
	wantStand(t, "unlocked", m, "none lost 0 []")
	want(t, m, lock(4, 4, 4), "false ENOTRECOVERABLE")

	m = made(t, api.KindNormal, api.ProtocolProtect, 6, false)
	want(t, m, lock(1, 7, 7), "false EINVAL")
	want(t, m, lock(1, 6, 6), "true 0")
	want(t, m, ceil(2, 3), "0 EBUSY")
	want(t, m, ceil(1, 9), "6 0")
	wantStand(t, "ceiling", m, "1*1 well 9 []")
}
