package keys_test

import (
	"fmt"
	"testing"

	"metronome/api"
	"metronome/keys"
)

// onceCall is something that is done to a control, and tells the answer as a text.
type onceCall struct {
	name string
	do   func(o *keys.Once) string
}

func askOnce(thread int) onceCall {
	return onceCall{fmt.Sprintf("Ask(%d)", thread), func(o *keys.Once) string {
		was, err := o.Ask(thread)
		return fmt.Sprint(stateText(was), " ", errText(err))
	}}
}

func endOnce(thread int, done bool) onceCall {
	return onceCall{fmt.Sprintf("End(%d, %v)", thread, done), func(o *keys.Once) string { return errText(o.End(thread, done)) }}
}

func stateText(s api.OnceState) string {
	names := []string{"free", "runs", "done"}
	if int(s) >= 0 && int(s) < len(names) {
		return names[s]
	}
	return fmt.Sprint("state ", int(s))
}

// onceStand is what a control is, and by whom.
func onceStand(o *keys.Once) string {
	s, thread := o.At()
	return fmt.Sprint(stateText(s), " ", thread)
}

// afterOnce does calls to a control, whatever they answer.
func afterOnce(o *keys.Once, calls ...onceCall) *keys.Once {
	for _, x := range calls {
		x.do(o)
	}
	return o
}

func wantOnce(t *testing.T, o *keys.Once, x onceCall, answer, stands string) {
	t.Helper()
	was := onceStand(o)
	if got := x.do(o); got != answer || onceStand(o) != stands {
		t.Errorf("%s of %s is %s, and it is %s, want %s, %s", x.name, was, got, onceStand(o), answer, stands)
	}
}

// controls are one that NewOnce made, and a zero one, which is as that.
func controls(t *testing.T) []*keys.Once {
	t.Helper()
	o := keys.NewOnce()
	if o == nil {
		t.Fatal("NewOnce is nil")
	}
	return []*keys.Once{o, {}}
}

// P21.4: the chapter's calls.
func TestTheChaptersOnce(t *testing.T) {
	for _, o := range controls(t) {
		wantOnce(t, o, askOnce(1), "free OK", "runs 1")
		wantOnce(t, o, askOnce(1), "free ErrState", "runs 1")
		wantOnce(t, o, askOnce(2), "runs OK", "runs 1")
		wantOnce(t, o, endOnce(1, false), "OK", "free 0")
		wantOnce(t, o, askOnce(2), "free OK", "runs 2")
		wantOnce(t, o, endOnce(2, true), "OK", "done 0")
		wantOnce(t, o, askOnce(1), "done OK", "done 0")
	}
}

// P21.4: a new one is free, by nobody; no two are one.
func TestNewOnce(t *testing.T) {
	for _, o := range controls(t) {
		if onceStand(o) != "free 0" {
			t.Errorf("a new one is %s", onceStand(o))
		}
		other := keys.NewOnce()
		afterOnce(o, askOnce(3))
		if onceStand(other) != "free 0" || onceStand(keys.NewOnce()) != "free 0" {
			t.Errorf("others are %s, %s", onceStand(other), onceStand(keys.NewOnce()))
		}
	}
}

// onceStates are all that a control may be, with the calls that bring a new one there.
func onceStates() map[string][]onceCall {
	all := map[string][]onceCall{
		"free 0": {},
		"done 0": {askOnce(5), endOnce(5, true)},
	}
	for thread := range threads {
		all[fmt.Sprint("runs ", thread)] = []onceCall{askOnce(thread)}
	}
	return all
}

// P21.4: in each state that may be, each thread asks, and ends it, done and not: the first and the last thread, the one
// that runs it and another one, of one that is free, runs, or is done.
func TestOnceInEachState(t *testing.T) {
	for is, calls := range onceStates() {
		for made := range 2 {
			at := func() *keys.Once {
				o := afterOnce(controls(t)[made], calls...)
				if onceStand(o) != is {
					t.Errorf("it is %s, want %s", onceStand(o), is)
				}
				return o
			}
			for thread := range threads {
				runs := fmt.Sprint("runs ", thread)
				switch is {
				case "free 0":
					wantOnce(t, at(), askOnce(thread), "free OK", runs)
				case "done 0":
					wantOnce(t, at(), askOnce(thread), "done OK", is)
				case runs:
					wantOnce(t, at(), askOnce(thread), "free ErrState", is)
				default:
					wantOnce(t, at(), askOnce(thread), "runs OK", is)
				}
				if is == runs {
					wantOnce(t, at(), endOnce(thread, false), "OK", "free 0")
					wantOnce(t, at(), endOnce(thread, true), "OK", "done 0")
				} else {
					wantOnce(t, at(), endOnce(thread, false), "ErrState", is)
					wantOnce(t, at(), endOnce(thread, true), "ErrState", is)
				}
			}
		}
	}
}

// P21.4: threads that may not be, in each state; ahead of all else that could be told.
func TestOnceOfThreadsThatMayNotBe(t *testing.T) {
	for is, calls := range onceStates() {
		for _, made := range controls(t) {
			o := afterOnce(made, calls...)
			for _, thread := range noThreads() {
				wantOnce(t, o, askOnce(thread), "free ErrArg", is)
				wantOnce(t, o, endOnce(thread, true), "ErrArg", is)
				wantOnce(t, o, endOnce(thread, false), "ErrArg", is)
			}
		}
	}
}

// P21.4: a nil control refuses whatever it is given, and is free, by nobody.
func TestNilOnce(t *testing.T) {
	var o *keys.Once
	for range 2 {
		for _, thread := range append(noThreads(), 0, 1, threads-1) {
			wantOnce(t, o, askOnce(thread), "free ErrNil", "free 0")
			wantOnce(t, o, endOnce(thread, true), "ErrNil", "free 0")
			wantOnce(t, o, endOnce(thread, false), "ErrNil", "free 0")
		}
		if o.Copy() != nil {
			t.Error("Copy of nil is one")
		}
	}
}

// P21.4: Copy is another one in each state, a zero one's, too, and both go on apart; looking changes nothing.
func TestOnceCopy(t *testing.T) {
	changes := []onceCall{askOnce(0), askOnce(7), endOnce(0, true), endOnce(0, false), endOnce(7, true), endOnce(15, false)}
	for is, calls := range onceStates() {
		for made := range 2 {
			for _, x := range changes {
				o := afterOnce(controls(t)[made], calls...)
				other := o.Copy()
				if other == nil || other == o || onceStand(other) != is || onceStand(o) != is {
					t.Fatalf("a copy of %s is %s", is, onceStand(other))
				}
				answer := x.do(other)
				changed := onceStand(other)
				if onceStand(o) != is {
					t.Errorf("%s of a copy: it became %s of %s", x.name, onceStand(o), is)
				}
				wantOnce(t, o, x, answer, changed)
				if onceStand(other) != changed {
					t.Errorf("%s: its copy became %s of %s", x.name, onceStand(other), changed)
				}
			}
		}
	}
}

// P21.5: whatever is asked and ended: a control is free, then running, then done for ever, or free again.
func TestOnceFollows(t *testing.T) {
	r := dice(210)
	ways := map[string]int{}
	for range 500 {
		o := controls(t)[r.Intn(2)]
		for range 40 {
			was, by := o.At()
			x := askOnce(r.Intn(threads+2) - 1)
			if r.Intn(2) == 0 {
				x = endOnce(r.Intn(threads+2)-1, r.Intn(8) == 0)
			}
			x.do(o)
			is, who := o.At()
			ways[stateText(was)+" "+stateText(is)]++
			switch {
			case was == api.OnceDone && is != api.OnceDone:
				t.Fatalf("%s: done, and then %s", x.name, stateText(is))
			case was == api.OnceFree && is == api.OnceDone:
				t.Fatalf("%s: free, and then done", x.name)
			case was == api.OnceRuns && is == api.OnceRuns && by != who:
				t.Fatalf("%s: run by %d, and then by %d", x.name, by, who)
			case is != api.OnceRuns && who != 0 || who < 0 || who >= threads:
				t.Fatalf("%s: %s by %d", x.name, stateText(is), who)
			}
		}
	}
	for _, way := range []string{"free free", "free runs", "runs runs", "runs free", "runs done", "done done"} {
		if ways[way] < 20 {
			t.Errorf("%s was gone %d times", way, ways[way])
		}
	}
}
