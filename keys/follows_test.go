package keys_test

import (
	"fmt"
	"maps"
	"math/rand"
	"slices"
	"strings"
	"testing"

	"metronome/keys"
)

// dice are numbers that look like chance, the same ones each time.
func dice(seed int64) *rand.Rand { return rand.New(rand.NewSource(seed)) }

// place is a thread's value of a key.
type place struct{ thread, key int }

// walk is how far a thread that ends has come: how many keys it has come to, over and over, whether any was told since it
// came to key 0 last, and whether it is over.
type walk struct {
	steps      int
	told, over bool
}

// model is keys by the chapter's words alone.
type model struct {
	count int
	// made has the destructors of keys that are made.
	made map[int]int
	// values has those that are not 0.
	values map[place]int64
	// walks has the threads that end.
	walks map[int]walk
}

func newModel(count int) *model {
	return &model{count: count, made: map[int]int{}, values: map[place]int64{}, walks: map[int]walk{}}
}

func (m *model) copy() *model {
	return &model{count: m.count, made: maps.Clone(m.made), values: maps.Clone(m.values), walks: maps.Clone(m.walks)}
}

func (m *model) create(destructor int) string {
	if destructor < -1 || destructor > last {
		return "0 ErrArg"
	}
	for key := range m.count {
		if _, is := m.made[key]; !is {
			m.made[key] = destructor
			return fmt.Sprint(key, " OK")
		}
	}
	return "0 ErrFull"
}

func (m *model) drop(key int) string {
	if _, is := m.made[key]; !is {
		return "ErrNone"
	}
	delete(m.made, key)
	maps.DeleteFunc(m.values, func(p place, _ int64) bool { return p.key == key })
	return "OK"
}

// refused is why a thread's value of a key is not to be had, or OK.
func (m *model) refused(thread, key int) string {
	if thread < 0 || thread >= threads {
		return "ErrArg"
	}
	if _, is := m.made[key]; !is {
		return "ErrNone"
	}
	return "OK"
}

func (m *model) set(thread, key int, value int64) string {
	err := m.refused(thread, key)
	if err == "OK" {
		m.values[place{thread, key}] = value
	}
	if value == 0 {
		delete(m.values, place{thread, key})
	}
	return err
}

func (m *model) get(thread, key int) string {
	if err := m.refused(thread, key); err != "OK" {
		return "0 " + err
	}
	return fmt.Sprint(m.values[place{thread, key}], " OK")
}

// round is which going through a thread is at.
func (m *model) round(thread int) int {
	return (m.walks[thread].steps + m.count - 1) / m.count
}

func (m *model) next(thread int) string {
	if thread < 0 || thread >= threads {
		return "0:0 false"
	}
	w := m.walks[thread]
	for !w.over {
		key := w.steps % m.count
		if w.steps > 0 && key == 0 {
			if !w.told || w.steps == rounds*m.count {
				w.over = true
				break
			}
			w.told = false
		}
		w.steps++
		destructor, is := m.made[key]
		value := m.values[place{thread, key}]
		if is && destructor >= 0 && value != 0 {
			delete(m.values, place{thread, key})
			w.told = true
			m.walks[thread] = w
			return fmt.Sprintf("%d:%d true", destructor, value)
		}
	}
	m.walks[thread] = w
	return "0:0 false"
}

func (m *model) clear(thread int) string {
	if thread < 0 || thread >= threads {
		return "ErrArg"
	}
	maps.DeleteFunc(m.values, func(p place, _ int64) bool { return p.thread == thread })
	delete(m.walks, thread)
	return "OK"
}

func (m *model) stand() string {
	var each []string
	lastMade := 0
	for key := range m.count {
		d, is := m.made[key]
		switch {
		case !is:
			each = append(each, ".")
			continue
		case d == -1:
			each = append(each, "-")
		default:
			each = append(each, fmt.Sprint(d))
		}
		lastMade = key + 1
	}
	text := fmt.Sprint(len(m.made), " [", strings.Join(each[:lastMade], " "), "]")
	for thread := range threads {
		any := m.round(thread) != 0
		var has []string
		for key := range lastMade {
			value := m.values[place{thread, key}]
			if _, is := m.made[key]; is {
				has = append(has, fmt.Sprint(value))
			} else {
				has = append(has, ".")
			}
			any = any || value != 0
		}
		if any {
			text += fmt.Sprintf(", %d has %s in %d", thread, strings.Join(has, " "), m.round(thread))
		}
	}
	return text
}

// name is all of the model, what does not show among it.
func (m *model) name() string {
	text := fmt.Sprint(m.count, ": ", m.stand())
	for _, thread := range slices.Sorted(maps.Keys(m.walks)) {
		text += fmt.Sprintf(", %d: %+v", thread, m.walks[thread])
	}
	return text
}

// both is a call to keys, and the same one to their model.
type both struct {
	call
	model func(m *model) string
}

func createBoth(destructor int) both {
	return both{create(destructor), func(m *model) string { return m.create(destructor) }}
}

func dropBoth(key int) both {
	return both{drop(key), func(m *model) string { return m.drop(key) }}
}

func setBoth(thread, key int, value int64) both {
	return both{set(thread, key, value), func(m *model) string { return m.set(thread, key, value) }}
}

func getBoth(thread, key int) both {
	return both{get(thread, key), func(m *model) string { return m.get(thread, key) }}
}

func nextBoth(thread int) both {
	return both{next(thread), func(m *model) string { return m.next(thread) }}
}

func clearBoth(thread int) both {
	return both{wipe(thread), func(m *model) string { return m.clear(thread) }}
}

// pair is keys, and their model.
type pair struct {
	k *keys.Keys
	m *model
}

func newPair(t *testing.T, count int) pair {
	t.Helper()
	return pair{fresh(t, count), newModel(count)}
}

func (p pair) copy() pair { return pair{p.k.Copy(), p.m.copy()} }

// wantBoth does a call to both, and asks that they answer and stand alike.
func wantBoth(t *testing.T, b both, p pair) {
	t.Helper()
	was := p.m.name()
	got, answer := b.do(p.k), b.model(p.m)
	if got != answer {
		t.Errorf("%s of %s: %s, want %s", b.name, was, got, answer)
	}
	wantStand(t, b.name+" of "+was, p.k, p.m.stand())
}

// fewCalls are all calls to so many keys and these threads, with one destructor or none, and one value or 0.
func fewCalls(count int, of []int) []both {
	calls := []both{createBoth(-1), createBoth(4), createBoth(-2), createBoth(last + 1)}
	for key := -1; key <= count; key++ {
		calls = append(calls, dropBoth(key))
		for _, thread := range of {
			calls = append(calls, setBoth(thread, key, 0), setBoth(thread, key, -7))
		}
	}
	for _, thread := range of {
		calls = append(calls, nextBoth(thread), clearBoth(thread))
	}
	return append(calls, nextBoth(threads), clearBoth(-1), setBoth(threads, 0, 1))
}

// power is n times itself, so often.
func power(n, often int) int {
	p := 1
	for range often {
		p *= n
	}
	return p
}

// P21.1 to P21.5: each state that so many keys and threads make, and in it each call; what was brought to one state by
// unlike calls is the same, and what was brought to two is not.
func TestEachStateOfFew(t *testing.T) {
	for _, x := range []struct {
		count   int
		threads []int
	}{{1, []int{0}}, {2, []int{15}}, {1, []int{0, 15}}, {3, []int{7}}} {
		calls := fewCalls(x.count, x.threads)
		start := newPair(t, x.count)
		todo := []pair{start}
		seen := map[string]*keys.Keys{start.m.name(): start.k.Copy()}
		for len(todo) > 0 && !t.Failed() {
			at := todo[0]
			todo = todo[1:]
			is := at.m.name()
			for _, b := range calls {
				p := at.copy()
				wantBoth(t, b, p)
				name := p.m.name()
				wantSame(t, b.name+" of "+is, p.k, at.k, name == is)
				if first := seen[name]; first != nil {
					wantSame(t, name, p.k, first, true)
				} else {
					seen[name] = p.k.Copy()
					todo = append(todo, p)
				}
			}
		}
		// A key is free, or made, with a destructor or without, and each thread has a value of it or not. A thread does not
		// end, or was told a key in one of four goings through, or it is over behind one of them in which there was none, or
		// behind a fourth in which there was one.
		want := power(1+2*power(2, len(x.threads)), x.count) * power(1+rounds*x.count+rounds+1, len(x.threads))
		if len(seen) != want && !t.Failed() {
			t.Errorf("%d keys, threads %v: %d states were seen, want %d", x.count, x.threads, len(seen), want)
		}
	}
}

// someThread is any thread, of few ones more often; now and then one that may not be.
func someThread(r *rand.Rand) int {
	switch r.Intn(20) {
	case 0:
		return noThreads()[r.Intn(len(noThreads()))]
	case 1, 2:
		return r.Intn(threads)
	}
	return []int{0, 5, threads - 1}[r.Intn(3)]
}

// someKey is any key; now and then one that may not be.
func someKey(r *rand.Rand, count int) int {
	if r.Intn(30) == 0 {
		return noKeys()[r.Intn(len(noKeys()))]
	}
	return r.Intn(count)
}

func someValue(r *rand.Rand) int64 {
	if r.Intn(3) == 0 {
		return values()[r.Intn(len(values()))]
	}
	return int64(r.Uint64())
}

// someBoth is any call.
func someBoth(r *rand.Rand, count int) both {
	switch r.Intn(60) {
	case 0, 1, 2:
		return dropBoth(someKey(r, count))
	case 3:
		return createBoth(noDestructors()[r.Intn(len(noDestructors()))])
	case 4, 5, 6, 7:
		return createBoth(r.Intn(last+2) - 1)
	case 8, 9:
		return createBoth(-1)
	case 10:
		return clearBoth(someThread(r))
	case 11, 12, 13:
		return getBoth(someThread(r), someKey(r, count))
	}
	if r.Intn(2) == 0 {
		return nextBoth(someThread(r))
	}
	return setBoth(someThread(r), someKey(r, count), someValue(r))
}

// P21.1 to P21.5: long rows of calls, of each number of keys.
func TestTheyDoAsTheChapterSays(t *testing.T) {
	r := dice(21)
	for i := range 160 {
		count := i%most + 1
		p := newPair(t, count)
		for range 150 {
			wantBoth(t, someBoth(r, count), p)
			if t.Failed() {
				return
			}
		}
	}
}

// fewBoth is any call to one key and two threads, with one destructor or none, and one value or 0.
func fewBoth(r *rand.Rand) both {
	calls := fewCalls(1, []int{0, 1})
	return calls[r.Intn(len(calls))]
}

// P21.3: of two that go on apart Same says what their models say.
func TestSameDoesAsTheChapterSays(t *testing.T) {
	r := dice(22)
	same, all := 0, 0
	for range 300 {
		p, q := newPair(t, 1), newPair(t, 1)
		for range 30 {
			wantBoth(t, fewBoth(r), p)
			wantBoth(t, fewBoth(r), q)
			is := p.m.name() == q.m.name()
			wantSame(t, p.m.name()+" and "+q.m.name(), p.k, q.k, is)
			if all++; is {
				same++
			}
		}
	}
	if same < all/100 || same > all/2 {
		t.Errorf("%d of %d were the same", same, all)
	}
}

// P21.3: copies that were taken by the way stay as they were, and go on as those would have.
func TestCopiesStayAsTheyWere(t *testing.T) {
	r := dice(23)
	p := newPair(t, 4)
	var copies []pair
	for range 300 {
		wantBoth(t, someBoth(r, 4), p)
		copies = append(copies, p.copy())
	}
	for _, c := range copies {
		wantStand(t, "a copy", c.k, c.m.stand())
		for range 20 {
			wantBoth(t, someBoth(r, 4), c)
		}
	}
}

// P21.5: whatever is done meanwhile, Next tells each value that was not 0 once, to its key's destructor alone, and no
// more of them than MaxRounds times as many as there are keys.
func TestNextTellsEachValueOnce(t *testing.T) {
	r := dice(24)
	atMost := 0
	for i := range 200 {
		count := i%most + 1
		k := fresh(t, count, row(count, createEach)...)
		lie := map[place]int64{}
		set, told := int64(0), 0
		for range 100 * count {
			key := r.Intn(count)
			switch r.Intn(20) {
			case 0:
				k.Create(r.Intn(5) - 1)
			case 1:
				if r.Intn(40) == 0 && k.Delete(key) == 0 {
					delete(lie, place{9, key})
				}
			case 2:
				x, ok := k.Next(9)
				if !ok {
					continue
				}
				told++
				if x.Value == 0 || !takeOut(lie, k, x.Program, x.Value) {
					t.Fatalf("told is %v of %v", x, lie)
				}
			default:
				if k.Set(9, key, set+1) == 0 {
					set++
					lie[place{9, key}] = set
				}
			}
		}
		if told > rounds*count {
			t.Fatalf("%d keys: %d were told", count, told)
		}
		if told == rounds*count {
			atMost++
		}
	}
	if atMost < 10 {
		t.Errorf("as many as may be were told %d times", atMost)
	}
}

func createEach(i int) call { return create(i) }

// takeOut takes a value out of what lies there, if it does: of a key with that destructor.
func takeOut(lie map[place]int64, k *keys.Keys, destructor int, value int64) bool {
	for p, v := range lie {
		if d, is := k.Made(p.key); v == value && is && d == destructor {
			delete(lie, p)
			return true
		}
	}
	return false
}

// P21.5: with nothing set meanwhile, Next tells all that have a destructor, once, and no other ones.
func TestNextTellsAllThatThereAre(t *testing.T) {
	r := dice(25)
	for i := range 300 {
		count := i%most + 1
		k := fresh(t, count)
		var wanted []string
		for key := range count {
			destructor, value := r.Intn(6)-1, int64(r.Intn(5)-2)
			after(k, create(destructor), set(0, key, value))
			if destructor >= 0 && value != 0 {
				wanted = append(wanted, fmt.Sprintf("%d:%d true", destructor, value))
			}
		}
		for _, answer := range append(wanted, "0:0 false", "0:0 false") {
			want(t, k, next(0), answer)
		}
		for key := range count {
			d, _ := k.Made(key)
			if v, _ := k.Get(0, key); v != 0 && d != -1 {
				t.Errorf("%d is left of key %d", v, key)
			}
		}
	}
}
