package table_test

import (
	"math"
	"slices"
	"testing"

	"metronome/api"
	"metronome/table"
)

// taken is a place with its handle.
type taken struct {
	place  int
	handle int64
}

// noTables are a nil and a zero one.
func noTables() []*table.Table {
	return []*table.Table{nil, {}}
}

func wantErr(t *testing.T, what string, got, want api.Errno) {
	t.Helper()
	if got != want {
		t.Errorf("%s: %v, want %v", what, got, want)
	}
}

func made(t *testing.T, places int) *table.Table {
	t.Helper()
	x, err := table.New(places)
	if x == nil || err != api.OK {
		t.Fatalf("New(%d) is %v, %v", places, x, err)
	}
	return x
}

func wantAdd(t *testing.T, x *table.Table, want int64) {
	t.Helper()
	if got, err := x.Add(); got != want || err != api.OK {
		t.Errorf("Add is %d, %v, want %d", got, err, want)
	}
}

func wantNoAdd(t *testing.T, x *table.Table, want api.Errno) {
	t.Helper()
	if got, err := x.Add(); got != 0 || err != want {
		t.Errorf("Add is %d, %v, want 0, %v", got, err, want)
	}
}

func wantDrop(t *testing.T, x *table.Table, handle int64, want api.Errno) {
	t.Helper()
	if got := x.Drop(handle); got != want {
		t.Errorf("Drop(%d) is %v, want %v", handle, got, want)
	}
}

func wantAt(t *testing.T, x *table.Table, handle int64, want int) {
	t.Helper()
	if got, ok := x.At(handle); got != want || !ok {
		t.Errorf("At(%d) is %d, %v, want %d", handle, got, ok, want)
	}
}

func wantNoAt(t *testing.T, x *table.Table, handle int64) {
	t.Helper()
	if got, ok := x.At(handle); got != 0 || ok {
		t.Errorf("At(%d) is %d, %v, want 0, false", handle, got, ok)
	}
}

func wantOf(t *testing.T, x *table.Table, place int, want int64) {
	t.Helper()
	if got, ok := x.Of(place); got != want || !ok {
		t.Errorf("Of(%d) is %d, %v, want %d", place, got, ok, want)
	}
}

func wantNoOf(t *testing.T, x *table.Table, place int) {
	t.Helper()
	if got, ok := x.Of(place); got != 0 || ok {
		t.Errorf("Of(%d) is %d, %v, want 0, false", place, got, ok)
	}
}

func wantSame(t *testing.T, what string, a, b *table.Table, want bool) {
	t.Helper()
	if table.Same(a, b) != want || table.Same(b, a) != want {
		t.Errorf("%s: Same is %v, %v, want %v", what, table.Same(a, b), table.Same(b, a), want)
	}
}

// gone are those that All goes over, till there are so many of them.
func gone(x *table.Table, most int) []taken {
	var all []taken
	if most == 0 {
		return nil
	}
	for place, handle := range x.All() {
		all = append(all, taken{place, handle})
		if len(all) == most {
			break
		}
	}
	return all
}

// wantTable asks of all looks at a table that they say just that.
func wantTable(t *testing.T, what string, x *table.Table, places int, want ...taken) {
	t.Helper()
	if got := gone(x, -1); !slices.Equal(got, want) {
		t.Errorf("%s: All goes over %v, want %v", what, got, want)
	}
	if x.Places() != places || x.Len() != len(want) {
		t.Errorf("%s: %d of %d places are taken, want %d of %d", what, x.Len(), x.Places(), len(want), places)
	}
	handles := map[int]int64{}
	for _, w := range want {
		handles[w.place] = w.handle
		wantAt(t, x, w.handle, w.place)
		wantOf(t, x, w.place, w.handle)
	}
	for place := -2; place < api.MaxThreads+2; place++ {
		if handles[place] == 0 {
			wantNoOf(t, x, place)
		}
	}
}

// filled is a table that is full, and what is in it: each place in its first generation.
func filled(t *testing.T, places int) (*table.Table, []taken) {
	t.Helper()
	x := made(t, places)
	var all []taken
	for place := range places {
		wantAdd(t, x, int64(16+place))
		all = append(all, taken{place, int64(16 + place)})
	}
	return x, all
}

// turned is a table of three places of unlike generations: 3, and taken; 2, and free; 1, and taken.
func turned(t *testing.T) *table.Table {
	t.Helper()
	x := made(t, 3)
	wantAdd(t, x, 16)
	wantAdd(t, x, 17)
	wantAdd(t, x, 18)
	wantDrop(t, x, 16, api.OK)
	wantAdd(t, x, 32)
	wantDrop(t, x, 32, api.OK)
	wantDrop(t, x, 17, api.OK)
	wantAdd(t, x, 48)
	wantAdd(t, x, 33)
	wantDrop(t, x, 33, api.OK)
	return x
}

// noHandles are numbers that are no handles in turned.
func noHandles() []int64 {
	l := []int64{
		16, 32, 64, 80, // generations of place 0 that are over, and such as have not come
		17, 33, 49, // of place 1, which is free
		34, 50, // of place 2
		19, 20, 31, 35, 51, // of places beyond those there are
		48 + 1<<32, 48 + 1<<36, 18 + 1<<40, 18 + 1<<60,
		48 - 1<<32, 18 - 1<<60,
		math.MaxInt64, math.MaxInt64 - 13, math.MaxInt64 - 15, math.MinInt64, math.MinInt64 + 16, math.MinInt64 + 18, math.MinInt64 + 48,
		math.MaxInt32, math.MinInt32,
	}
	for h := int64(-70); h < 16; h++ {
		l = append(l, h)
	}
	return l
}

// P4.1
func TestNewTakesEveryNumberThatMayBe(t *testing.T) {
	for places := -20; places <= 3*api.MaxThreads; places++ {
		x, err := table.New(places)
		if places >= 1 && places <= 16 {
			wantErr(t, "New", err, api.OK)
			wantTable(t, "new", x, places)
			continue
		}
		wantErr(t, "New", err, api.ErrArg)
		if x != nil {
			t.Errorf("New(%d) has a table beside an error", places)
		}
	}
}

// P4.1
func TestNewRefusesNumbersAtTheEnds(t *testing.T) {
	for _, places := range []int{math.MinInt, math.MinInt + 1, -16, 0, 17, 1 << 8, 1<<8 + 1, 1 << 16, 1 << 32, 1<<32 + 1, math.MaxInt} {
		x, err := table.New(places)
		wantErr(t, "New", err, api.ErrArg)
		if x != nil {
			t.Errorf("New(%d) has a table beside an error", places)
		}
	}
}

// P4.1
func TestTablesAreApart(t *testing.T) {
	a, b := made(t, 2), made(t, 2)
	wantAdd(t, a, 16)
	wantTable(t, "another", b, 2)
	wantAdd(t, b, 16)
	wantDrop(t, a, 16, api.OK)
	wantTable(t, "another", b, 2, taken{0, 16})
}

// P4.1: one place and as many as may be, and all between.
func TestAddTakesAllPlacesInTurn(t *testing.T) {
	for places := 1; places <= api.MaxThreads; places++ {
		x := made(t, places)
		var all []taken
		for place := range places {
			wantAdd(t, x, int64(16+place))
			all = append(all, taken{place, int64(16 + place)})
			wantTable(t, "Add", x, places, all...)
		}
		for range 3 {
			wantNoAdd(t, x, api.ErrFull)
		}
		wantTable(t, "full", x, places, all...)
	}
}

// P4.1: whichever two places are free, the lower one is taken first.
func TestAddTakesTheLowestFreePlace(t *testing.T) {
	for low := range api.MaxThreads {
		for high := low + 1; high < api.MaxThreads; high++ {
			for _, order := range [][]int{{low, high}, {high, low}} {
				x, all := filled(t, api.MaxThreads)
				for _, place := range order {
					wantDrop(t, x, all[place].handle, api.OK)
				}
				wantAdd(t, x, int64(32+low))
				wantAdd(t, x, int64(32+high))
				wantNoAdd(t, x, api.ErrFull)
			}
		}
	}
}

// P4.1
func TestDropMakesItsPlaceFreeAlone(t *testing.T) {
	for places := 1; places <= api.MaxThreads; places++ {
		for place := range places {
			x, all := filled(t, places)
			wantDrop(t, x, all[place].handle, api.OK)
			left := slices.Delete(slices.Clone(all), place, place+1)
			wantTable(t, "Drop", x, places, left...)
			wantDrop(t, x, all[place].handle, api.ErrNone)
			wantTable(t, "Drop again", x, places, left...)
		}
	}
}

// P4.1, P4.2: and what is refused changes nothing.
func TestNumbersThatAreNoHandles(t *testing.T) {
	x, was := turned(t), turned(t)
	for _, h := range noHandles() {
		wantNoAt(t, x, h)
		wantDrop(t, x, h, api.ErrNone)
	}
	wantTable(t, "Drop", x, 3, taken{0, 48}, taken{2, 18})
	wantSame(t, "Drop", x, was, true)
}

// P4.1, P4.2: a table of which nothing was ever taken.
func TestAnEmptyTableHasNoHandles(t *testing.T) {
	x := made(t, api.MaxThreads)
	for _, h := range append(noHandles(), 18, 48) {
		wantNoAt(t, x, h)
		wantDrop(t, x, h, api.ErrNone)
	}
	wantSame(t, "Drop", x, made(t, api.MaxThreads), true)
	wantAdd(t, x, 16)
}

// P4.1
func TestAFullTableIsLeftAsItIs(t *testing.T) {
	x, all := filled(t, 5)
	was := x.Copy()
	wantNoAdd(t, x, api.ErrFull)
	wantSame(t, "Add", x, was, true)
	wantTable(t, "Add", x, 5, all...)
	wantDrop(t, x, 18, api.OK)
	wantAdd(t, x, 34)
}

// P4.2
func TestOfPlacesThatAreNone(t *testing.T) {
	x, _ := filled(t, 3)
	full, _ := filled(t, api.MaxThreads)
	for _, place := range []int{3, 4, 15, 16, 17, 32, -1, -2, -3, -16, 1 << 32, -1 << 32, math.MinInt, math.MaxInt} {
		wantNoOf(t, x, place)
	}
	for _, place := range []int{16, 17, 31, 32, -1, -16, 1 << 32, -1 << 32, math.MinInt, math.MaxInt} {
		wantNoOf(t, full, place)
	}
}

// P4.2: it may be left behind each one, and gone through again.
func TestAllIsLeftAndGoneThroughAgain(t *testing.T) {
	x, want := filled(t, api.MaxThreads)
	all := x.All()
	for most := 1; most <= len(want); most++ {
		var got []taken
		for place, handle := range all {
			got = append(got, taken{place, handle})
			if len(got) == most {
				break
			}
		}
		if !slices.Equal(got, want[:most]) {
			t.Errorf("All left behind %d goes over %v", most, got)
		}
	}
	if got := gone(x, -1); !slices.Equal(got, want) {
		t.Errorf("All goes over %v, want %v", got, want)
	}
	wantTable(t, "All", x, api.MaxThreads, want...)
}

// P4.2: one that was left is asked for no more.
func TestAllEndsWhenItIsLeft(t *testing.T) {
	x, want := filled(t, 4)
	for most := 1; most <= 4; most++ {
		asked := 0
		x.All()(func(place int, handle int64) bool {
			if (taken{place, handle}) != want[asked] {
				t.Errorf("the one behind %d is %d, %d", asked, place, handle)
			}
			asked++
			return asked < most
		})
		if asked != most {
			t.Errorf("All told %d, want %d", asked, most)
		}
	}
}

// P4.2: two goings over one table at once.
func TestAllWithinAll(t *testing.T) {
	x, want := filled(t, 3)
	all := x.All()
	n := 0
	for outer := range all {
		i := 0
		for place, handle := range all {
			if (taken{place, handle}) != want[i] {
				t.Errorf("within %d: %d, %d", outer, place, handle)
			}
			i++
			n++
		}
	}
	if n != 9 {
		t.Errorf("%d within, want 9", n)
	}
}

// P4.2: what is dropped, added and taken anew by the way is not seen by it, but by the next one.
func TestAllGoesOverWhatThereIsWhenItBegins(t *testing.T) {
	x, want := filled(t, 4)
	wantDrop(t, x, 19, api.OK)
	all := x.All()
	var got []taken
	for place, handle := range all {
		if place == 0 {
			wantDrop(t, x, 17, api.OK)
			wantAdd(t, x, 33)
			wantAdd(t, x, 35)
			wantDrop(t, x, 18, api.OK)
			wantDrop(t, x, 16, api.OK)
		}
		got = append(got, taken{place, handle})
	}
	if !slices.Equal(got, want[:3]) {
		t.Errorf("All goes over %v, want %v", got, want[:3])
	}
	got = nil
	for place, handle := range all {
		got = append(got, taken{place, handle})
	}
	if want := []taken{{1, 33}, {3, 35}}; !slices.Equal(got, want) {
		t.Errorf("All gone through again goes over %v, want %v", got, want)
	}
}

// P4.2: rising by places, not by handles.
func TestAllRisesByPlaces(t *testing.T) {
	x := turned(t)
	wantTable(t, "turned", x, 3, taken{0, 48}, taken{2, 18})
	wantAdd(t, x, 49)
	wantTable(t, "turned", x, 3, taken{0, 48}, taken{1, 49}, taken{2, 18})
}

// P4.3
func TestACopyGoesOnApart(t *testing.T) {
	x := turned(t)
	c := x.Copy()
	if c == nil || c == x {
		t.Fatal("Copy is no other table")
	}
	wantSame(t, "copied", c, x, true)
	wantTable(t, "the copy", c, 3, taken{0, 48}, taken{2, 18})
	wantDrop(t, c, 48, api.OK)
	wantAdd(t, c, 64)
	wantAdd(t, c, 49)
	wantTable(t, "the first one", x, 3, taken{0, 48}, taken{2, 18})
	wantDrop(t, x, 18, api.OK)
	wantTable(t, "the copy", c, 3, taken{0, 64}, taken{1, 49}, taken{2, 18})
	wantAdd(t, x, 49)
	wantAdd(t, x, 34)
	wantNoAt(t, c, 34)
	wantNoAdd(t, c, api.ErrFull)
}

// P4.3: a copy of a copy, of a new one, and of a full one.
func TestACopyIsTheSame(t *testing.T) {
	full, _ := filled(t, api.MaxThreads)
	for _, x := range []*table.Table{made(t, 1), made(t, api.MaxThreads), full, turned(t)} {
		c := x.Copy().Copy()
		wantSame(t, "copied", c, x, true)
		a, errA := x.Add()
		b, errB := c.Add()
		if a != b || errA != errB {
			t.Errorf("Add is %d, %v, the copy's %d, %v", a, errA, b, errB)
		}
		wantSame(t, "gone on alike", c, x, true)
	}
}

// P4.3
func TestSameTellsNumbersOfPlaces(t *testing.T) {
	for a := 1; a <= api.MaxThreads; a++ {
		for b := 1; b <= api.MaxThreads; b++ {
			wantSame(t, "new", made(t, a), made(t, b), a == b)
		}
	}
	two, three := made(t, 2), made(t, 3)
	wantAdd(t, two, 16)
	wantAdd(t, three, 16)
	wantSame(t, "one taken in each", two, three, false)
}

// P4.3: in each place.
func TestSameTellsFreeFromTakenAndGenerations(t *testing.T) {
	for place := range api.MaxThreads {
		x, all := filled(t, api.MaxThreads)
		y := x.Copy()
		handle := all[place].handle
		wantDrop(t, x, handle, api.OK)
		wantSame(t, "free and taken", x, y, false)
		wantDrop(t, y, handle, api.OK)
		wantSame(t, "both free", x, y, true)
		wantAdd(t, x, handle+16)
		wantSame(t, "taken and free", x, y, false)
		wantDrop(t, x, handle+16, api.OK)
		wantSame(t, "both free, of unlike generations", x, y, false)
		wantAdd(t, x, handle+32)
		wantAdd(t, y, handle+16)
		wantSame(t, "both taken, of unlike generations", x, y, false)
		wantDrop(t, y, handle+16, api.OK)
		wantAdd(t, y, handle+32)
		wantSame(t, "both taken, of one generation", x, y, true)
	}
}

// P4.3: a place that was taken once is not as one that never was.
func TestSameTellsAUsedTableFromANewOne(t *testing.T) {
	x := made(t, 2)
	wantAdd(t, x, 16)
	wantDrop(t, x, 16, api.OK)
	wantTable(t, "used", x, 2)
	wantSame(t, "used and new", x, made(t, 2), false)
	wantSame(t, "with itself", x, x, true)
}

// P4.3: those that are taken in unlike orders are the same in the end.
func TestSameHangsOnNoOrder(t *testing.T) {
	x, _ := filled(t, 3)
	y, _ := filled(t, 3)
	wantDrop(t, x, 16, api.OK)
	wantDrop(t, x, 18, api.OK)
	wantDrop(t, y, 18, api.OK)
	wantDrop(t, y, 16, api.OK)
	wantSame(t, "dropped in unlike orders", x, y, true)
}

// P4.3
func TestSameOfNoTables(t *testing.T) {
	full, _ := filled(t, 1)
	for _, a := range noTables() {
		for _, b := range noTables() {
			wantSame(t, "none", a, b, true)
		}
		for _, x := range []*table.Table{made(t, 1), made(t, api.MaxThreads), full, turned(t)} {
			wantSame(t, "none and one", a, x, false)
		}
	}
}

// P4.1, P4.2, P4.3
func TestNoTables(t *testing.T) {
	for _, x := range noTables() {
		wantNoAdd(t, x, api.ErrNil)
		for _, h := range append(noHandles(), 18, 48) {
			wantNoAt(t, x, h)
			wantDrop(t, x, h, api.ErrNil)
		}
		for _, place := range []int{0, 1, 15, 16, -1, math.MinInt, math.MaxInt} {
			wantNoOf(t, x, place)
		}
		wantTable(t, "none", x, 0)
		if x.All() == nil || len(gone(x, -1)) != 0 {
			t.Error("one can't range over none")
		}
		if c := x.Copy(); c != nil {
			t.Errorf("Copy of none is %v", c)
		}
	}
}

// P4.1: refused calls leave a zero table zero.
func TestAZeroTableStaysZero(t *testing.T) {
	var zero table.Table
	wantNoAdd(t, &zero, api.ErrNil)
	wantDrop(t, &zero, 16, api.ErrNil)
	if zero != (table.Table{}) {
		t.Errorf("a zero table is %v", zero)
	}
}

// The chapter's examples.
func TestExamples(t *testing.T) {
	for _, places := range []int{0, 17} {
		_, err := table.New(places)
		wantErr(t, "New", err, api.ErrArg)
	}
	x := made(t, 2)
	wantAdd(t, x, 16)
	wantAdd(t, x, 17)
	wantNoAdd(t, x, api.ErrFull)
	wantDrop(t, x, 16, api.OK)
	wantNoAt(t, x, 16)
	wantAt(t, x, 17, 1)
	wantAdd(t, x, 32)
	wantOf(t, x, 0, 32)
	wantDrop(t, x, 16, api.ErrNone)
	wantDrop(t, x, 0, api.ErrNone)
	if x.Len() != 2 {
		t.Errorf("Len is %d", x.Len())
	}
}
