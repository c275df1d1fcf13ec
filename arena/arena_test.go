package arena_test

import (
	"bytes"
	"math"
	"testing"

	"metronome/api"
	"metronome/arena"
)

// sizes are the least, the greatest, their neighbours within, and one between.
func sizes() []int {
	return []int{api.MinMemory, api.MinMemory + 8, 1000, api.MaxMemory - 8, api.MaxMemory}
}

// wrongWords are offsets at which an arena of that size has no word.
func wrongWords(size int) []int {
	return []int{
		1, 2, 3, 5, 6, 7, size - 1, size - 2, size - 3, size, size + 1, size + 4, 2 * size,
		-1, -2, -3, -4, -8, -size, math.MinInt, math.MinInt + 4, math.MaxInt, math.MaxInt - 3,
	}
}

type piece struct{ offset, n int }

// wrongPieces are bytes that an arena of that size does not have.
func wrongPieces(size int) []piece {
	return []piece{
		{0, size + 1}, {1, size}, {size - 1, 2}, {size, 1}, {size + 1, 0}, {size + 1, 1}, {2 * size, 0},
		{-1, 0}, {-1, 1}, {-1, 2}, {-4, 8}, {-size, size},
		{math.MinInt, 0}, {math.MinInt, 1}, {math.MaxInt, 0}, {math.MaxInt, 1},
	}
}

// wrongNumbers are bytes that can be asked for, but never be handed in.
func wrongNumbers(size int) []piece {
	return []piece{
		{0, -1}, {size, -1}, {4, -4}, {8, -8}, {0, math.MinInt}, {size, math.MinInt}, {0, math.MaxInt}, {1, math.MaxInt},
		{size, math.MaxInt}, {math.MaxInt, math.MaxInt}, {math.MaxInt, math.MinInt}, {math.MaxInt, -1},
		{math.MinInt, math.MinInt}, {math.MinInt, math.MaxInt}, {-1, math.MaxInt}, {-1, -1}, {size + 1, -1},
	}
}

// noArenas are a nil and a zero one.
func noArenas() []*arena.Arena {
	return []*arena.Arena{nil, {}}
}

func wantErr(t *testing.T, what string, got, want api.Errno) {
	t.Helper()
	if got != want {
		t.Errorf("%s: %v, want %v", what, got, want)
	}
}

func made(t *testing.T, size int) *arena.Arena {
	t.Helper()
	a, err := arena.New(size)
	if a == nil || err != api.OK {
		t.Fatalf("New(%d) is %v, %v", size, a, err)
	}
	return a
}

// filled is an arena whose neighbouring bytes all differ, with the cost 0.
func filled(t *testing.T, size int) (*arena.Arena, []byte) {
	t.Helper()
	a := made(t, size)
	b := make([]byte, size)
	for i := range b {
		b[i] = byte(7*i + 3 + i/256)
	}
	wantErr(t, "filling", a.Write(0, b), api.OK)
	return a, b
}

func wantBytes(t *testing.T, what string, a *arena.Arena, want []byte) {
	t.Helper()
	got, err := a.Read(0, len(want))
	if !bytes.Equal(got, want) || err != api.OK || a.Size() != len(want) {
		t.Errorf("%s: the arena of %d bytes has other bytes, %v", what, a.Size(), err)
	}
}

func wantCost(t *testing.T, what string, a *arena.Arena, want int64) {
	t.Helper()
	if got := a.Cost(); got != want {
		t.Errorf("%s: the cost is %d, want %d", what, got, want)
	}
}

func wantWord(t *testing.T, a *arena.Arena, offset int, want uint32) {
	t.Helper()
	if got, err := a.Get(offset); got != want || err != api.OK {
		t.Errorf("the word at %d is %x, %v, want %x", offset, got, err, want)
	}
}

// P2.1
func TestNewHasNoughts(t *testing.T) {
	for _, size := range sizes() {
		a := made(t, size)
		wantCost(t, "new", a, 0)
		wantBytes(t, "new", a, make([]byte, size))
		wantWord(t, a, 0, 0)
		wantWord(t, a, size-4, 0)
	}
}

// P2.1
func TestNewTakesEverySizeThatMayBe(t *testing.T) {
	for size := -16; size <= api.MaxMemory+16; size++ {
		want, bytes := api.ErrArg, 0
		if size >= 256 && size <= 65536 && size%8 == 0 {
			want, bytes = api.OK, size
		}
		a, err := arena.New(size)
		if err != want || a.Size() != bytes || (a == nil) != (want != api.OK) {
			t.Errorf("New(%d): %v, size %d", size, err, a.Size())
		}
	}
}

// P2.1
func TestNewRefusesSizesAtTheEnds(t *testing.T) {
	for _, size := range []int{math.MinInt, math.MinInt + 8, -256, -65536, 1 << 20, 1 << 32, 1<<32 + 256, math.MaxInt, math.MaxInt - 7} {
		a, err := arena.New(size)
		wantErr(t, "New", err, api.ErrArg)
		if a != nil {
			t.Errorf("New(%d) has an arena beside an error", size)
		}
	}
}

// P2.1
func TestArenasAreApart(t *testing.T) {
	a, b := made(t, 256), made(t, 256)
	wantErr(t, "Set", a.Set(4, 9), api.OK)
	wantBytes(t, "another", b, make([]byte, 256))
	wantCost(t, "another", b, 0)
}

// P2.1
func TestGetAndSet(t *testing.T) {
	for _, size := range sizes() {
		a := made(t, size)
		for i, at := range []int{0, 4, 8, 252, size - 8, size - 4} {
			word := uint32(0xfedc0000 + i)
			wantErr(t, "Set", a.Set(at, word), api.OK)
			wantCost(t, "Set", a, int64(2*i+1))
			wantWord(t, a, at, word)
			wantCost(t, "Get", a, int64(2*i+2))
		}
	}
}

// P2.1: what the section 'Words' says of a word's bytes.
func TestWordsStandTheLowestByteFirst(t *testing.T) {
	words := []struct {
		word uint32
		b    string
	}{
		{0, "\x00\x00\x00\x00"}, {1, "\x01\x00\x00\x00"}, {1<<24 + 5, "\x05\x00\x00\x01"}, {0x04030201, "\x01\x02\x03\x04"},
		{0x100, "\x00\x01\x00\x00"}, {0x10000, "\x00\x00\x01\x00"}, {1 << 31, "\x00\x00\x00\x80"}, {0xff00ff00, "\x00\xff\x00\xff"},
		{0x00ff00ff, "\xff\x00\xff\x00"}, {math.MaxUint32, "\xff\xff\xff\xff"}, {math.MaxUint32 - 1, "\xfe\xff\xff\xff"},
	}
	for _, w := range words {
		a, _ := filled(t, 256)
		wantErr(t, "Set", a.Set(8, w.word), api.OK)
		if b, err := a.Read(8, 4); string(b) != w.b || err != api.OK {
			t.Errorf("%x stands as % x, %v", w.word, b, err)
		}
		wantErr(t, "Write", a.Write(252, []byte(w.b)), api.OK)
		wantWord(t, a, 252, w.word)
	}
}

// P2.1
func TestWrongOffsetsAreRefused(t *testing.T) {
	for _, size := range sizes() {
		a, b := filled(t, size)
		wantWord(t, a, 0, 0x18110a03)
		for _, at := range wrongWords(size) {
			word, err := a.Get(at)
			wantErr(t, "Get", err, api.ErrArg)
			if word != 0 {
				t.Errorf("Get(%d) has the word %x beside an error", at, word)
			}
			wantErr(t, "Set", a.Set(at, 0x55555555), api.ErrArg)
		}
		wantCost(t, "refused", a, 1)
		wantBytes(t, "refused", a, b)
	}
}

// P2.1, P2.2, P2.3
func TestNoArenaIsRefused(t *testing.T) {
	for _, a := range noArenas() {
		for _, at := range append(wrongWords(256), 0, 4, 252) {
			word, err := a.Get(at)
			wantErr(t, "Get", err, api.ErrNil)
			wantErr(t, "Set", a.Set(at, 1), api.ErrNil)
			wantErr(t, "Write", a.Write(at, []byte{1}), api.ErrNil)
			wantErr(t, "Write of none", a.Write(at, nil), api.ErrNil)
			for _, n := range []int{0, 1, -1, math.MinInt, math.MaxInt} {
				b, err := a.Read(at, n)
				wantErr(t, "Read", err, api.ErrNil)
				if len(b) != 0 || word != 0 {
					t.Error("there is an answer beside an error")
				}
			}
		}
		if a.Size() != 0 || a.Cost() != 0 || a.Reset() != 0 || a.Copy() != nil {
			t.Error("no arena has a size, a cost or a copy")
		}
	}
}

// P2.2
func TestSizeCostsNothing(t *testing.T) {
	for _, size := range sizes() {
		a := made(t, size)
		if a.Size() != size {
			t.Errorf("the size is %d, want %d", a.Size(), size)
		}
		wantCost(t, "Size, Cost", a, 0)
	}
}

// P2.2
func TestCostIsCountedFromResetOn(t *testing.T) {
	a, b := filled(t, 256)
	for i := range int64(100) {
		wantCost(t, "so far", a, 2*i)
		wantWord(t, a, 8, uint32(b[8])|uint32(b[9])<<8|uint32(b[10])<<16|uint32(b[11])<<24)
		wantErr(t, "Set", a.Set(0, 0x18110a03), api.OK)
	}
	if n := a.Reset(); n != 200 {
		t.Errorf("Reset is %d", n)
	}
	wantCost(t, "Reset", a, 0)
	if n := a.Reset(); n != 0 {
		t.Errorf("another Reset is %d", n)
	}
	wantErr(t, "Set", a.Set(0, 0x18110a03), api.OK)
	wantCost(t, "from then on", a, 1)
	wantBytes(t, "Reset", a, b)
}

// P2.3
func TestReadAndWrite(t *testing.T) {
	for _, size := range sizes() {
		a, want := filled(t, size)
		for _, p := range []piece{{0, 0}, {size, 0}, {size - 1, 0}, {0, 1}, {size - 1, 1}, {1, 2}, {7, 9}, {3, size - 3}, {0, size - 1}, {1, size - 1}, {0, size}} {
			got, err := a.Read(p.offset, p.n)
			if !bytes.Equal(got, want[p.offset:p.offset+p.n]) || err != api.OK {
				t.Errorf("Read(%d, %d) is % x, %v", p.offset, p.n, got, err)
			}
			b := bytes.Repeat([]byte{byte(p.n), 0x81, 0}, p.n/3+1)[:p.n]
			copy(want[p.offset:], b)
			wantErr(t, "Write", a.Write(p.offset, b), api.OK)
			wantBytes(t, "Write", a, want)
		}
		wantCost(t, "Read, Write", a, 0)
	}
}

// P2.3
func TestWrongBytesAreRefused(t *testing.T) {
	for _, size := range sizes() {
		a, b := filled(t, size)
		for _, p := range append(wrongPieces(size), wrongNumbers(size)...) {
			got, err := a.Read(p.offset, p.n)
			wantErr(t, "Read", err, api.ErrArg)
			if len(got) != 0 {
				t.Errorf("Read(%d, %d) has bytes beside an error", p.offset, p.n)
			}
		}
		for _, p := range wrongPieces(size) {
			wantErr(t, "Write", a.Write(p.offset, bytes.Repeat([]byte{0x55}, p.n)), api.ErrArg)
		}
		wantBytes(t, "refused", a, b)
		wantCost(t, "refused", a, 0)
	}
}

// P2.3: no bytes, nil or empty, may be written wherever bytes may be.
func TestNoBytesAreWritten(t *testing.T) {
	a, b := filled(t, 256)
	for _, none := range [][]byte{nil, {}} {
		for _, at := range []int{0, 1, 255, 256} {
			wantErr(t, "Write", a.Write(at, none), api.OK)
		}
		for _, at := range []int{-1, 257, math.MinInt, math.MaxInt} {
			wantErr(t, "Write", a.Write(at, none), api.ErrArg)
		}
	}
	wantBytes(t, "none", a, b)
}

// P2.3: what is answered and what is handed in share no memory.
func TestBytesAreTheCallers(t *testing.T) {
	a, want := filled(t, 256)
	first, _ := a.Read(0, 256)
	second, _ := a.Read(0, 256)
	clear(first)
	_ = append(first[:4], 0x55)
	wantBytes(t, "what was read is changed", a, want)
	if !bytes.Equal(second, want) {
		t.Error("two answers share memory")
	}
	wantErr(t, "Set", a.Set(0, 0x55555555), api.OK)
	if !bytes.Equal(second, want) {
		t.Error("what was read is changed by Set")
	}

	in := []byte("handed in")
	wantErr(t, "Write", a.Write(100, in), api.OK)
	if string(in) != "handed in" {
		t.Error("what is handed in is changed")
	}
	clear(in)
	if got, err := a.Read(100, 9); string(got) != "handed in" || err != api.OK {
		t.Errorf("what was handed in is changed, and the arena has %q, %v", got, err)
	}
	wantErr(t, "Set", a.Set(100, 0x55555555), api.OK)
	if !bytes.Equal(in, make([]byte, 9)) {
		t.Error("what was handed in is changed by Set")
	}
}

// P2.3: the rest of a list that is handed in is not looked at.
func TestWriteTakesTheListAlone(t *testing.T) {
	a, want := filled(t, 256)
	in := []byte{1, 2, 3, 4, 5, 6}
	wantErr(t, "Write", a.Write(252, in[:4]), api.OK)
	copy(want[252:], in[:4])
	wantBytes(t, "Write", a, want)
	wantErr(t, "Write", a.Write(252, in[:5]), api.ErrArg)
}

// P2.4
func TestCopyGoesOnApart(t *testing.T) {
	for _, size := range sizes() {
		a, was := filled(t, size)
		wantWord(t, a, 0, 0x18110a03)
		c := a.Copy()
		wantCost(t, "the copy", c, 1)
		wantCost(t, "the other", a, 1)
		wantBytes(t, "the copy", c, was)
		if !arena.Same(a, c) || a == c {
			t.Error("the copy is not another one of the same bytes")
		}

		wantErr(t, "Set", a.Set(size-4, 1), api.OK)
		wantErr(t, "Write", a.Write(1, []byte{9, 9}), api.OK)
		wantCost(t, "the copy", c, 1)
		wantBytes(t, "the copy", c, was)

		left, _ := a.Read(0, size)
		wantErr(t, "Set", c.Set(8, 7), api.OK)
		wantErr(t, "Set", c.Set(12, 7), api.OK)
		wantCost(t, "the copy", c, 3)
		wantCost(t, "the other", a, 2)
		wantBytes(t, "the other", a, left)
		if c.Reset() != 3 || a.Reset() != 2 {
			t.Error("Reset has another cost")
		}
	}
}

// P2.4
func TestCopyOfACopy(t *testing.T) {
	a, b := filled(t, 256)
	c := a.Copy().Copy()
	wantErr(t, "Set", a.Set(0, 0), api.OK)
	wantBytes(t, "a copy's copy", c, b)
	wantCost(t, "a copy's copy", c, 0)
}

// P2.4
func TestSameIsOfAllBytes(t *testing.T) {
	for _, size := range sizes() {
		a, b := filled(t, size)
		c := a.Copy()
		for _, at := range []int{0, 1, 7, 100, size - 2, size - 1} {
			wantErr(t, "Write", c.Write(at, []byte{b[at] ^ 0x80}), api.OK)
			if arena.Same(a, c) || arena.Same(c, a) {
				t.Errorf("of %d bytes that at %d is not seen", size, at)
			}
			wantErr(t, "Write", c.Write(at, b[at:at+1]), api.OK)
			if !arena.Same(a, c) || !arena.Same(c, a) || !arena.Same(a, a) {
				t.Errorf("the same %d bytes are others", size)
			}
		}
		wantCost(t, "Same", a, 0)
	}
}

// P2.4: the cost is not of the bytes, the size is.
func TestSameIsOfBytesAlone(t *testing.T) {
	a, b := made(t, 256), made(t, 256)
	wantWord(t, a, 0, 0)
	if !arena.Same(a, b) {
		t.Error("the cost is looked at")
	}
	for _, size := range []int{264, api.MaxMemory} {
		if long := made(t, size); arena.Same(a, long) || arena.Same(long, a) {
			t.Errorf("256 noughts are %d noughts", size)
		}
	}
}

// P2.4
func TestSameOfNoArenas(t *testing.T) {
	a := made(t, 256)
	for _, none := range noArenas() {
		if arena.Same(none, a) || arena.Same(a, none) {
			t.Error("no arena is one of noughts")
		}
		for _, other := range noArenas() {
			if !arena.Same(none, other) {
				t.Error("two that are not there differ")
			}
		}
	}
}

// P2.5
func TestEachWordIsItsOwn(t *testing.T) {
	for _, size := range []int{api.MinMemory, 1000, api.MaxMemory} {
		a := made(t, size)
		word := func(at int) uint32 { return uint32(at)*2654435761 + 12345 }
		for at := size - 4; at >= 0; at -= 4 {
			wantErr(t, "Set", a.Set(at, word(at)), api.OK)
		}
		for at := 0; at < size; at += 4 {
			wantWord(t, a, at, word(at))
		}
		wantCost(t, "all words", a, int64(size/2))
	}
}

// P2.5
func TestSetTouchesItsWordAlone(t *testing.T) {
	for _, at := range []int{0, 4, 8, 124, 248, 252} {
		for _, word := range []uint32{0, math.MaxUint32, 0x00800100} {
			a, want := filled(t, 256)
			wantErr(t, "Set", a.Set(at, word), api.OK)
			copy(want[at:], []byte{byte(word), byte(word >> 8), byte(word >> 16), byte(word >> 24)})
			wantBytes(t, "Set", a, want)
		}
	}
}

// P2.5: against a list of words and bytes that is kept beside the arena.
func TestAWordIsWhatWasWrittenLast(t *testing.T) {
	for _, size := range []int{api.MinMemory, 520} {
		a, kept := filled(t, size)
		cost := int64(0)
		seed := uint32(1)
		next := func(n int) int {
			seed = seed*1664525 + 1013904223
			return int(seed>>8) % n
		}
		for range 20000 {
			switch at := next(size); next(3) {
			case 0:
				at -= at % 4
				b := []byte{byte(next(256)), byte(next(256)), byte(next(256)), byte(next(256))}
				copy(kept[at:], b)
				wantErr(t, "Set", a.Set(at, uint32(b[0])+uint32(b[1])<<8+uint32(b[2])<<16+uint32(b[3])<<24), api.OK)
				cost++
			case 1:
				b := bytes.Repeat([]byte{byte(next(256))}, next(min(9, size-at+1)))
				copy(kept[at:], b)
				wantErr(t, "Write", a.Write(at, b), api.OK)
			case 2:
				at -= at % 4
				b, err := a.Read(at, 4)
				wantErr(t, "Read", err, api.OK)
				wantWord(t, a, at, uint32(b[0])+uint32(b[1])<<8+uint32(b[2])<<16+uint32(b[3])<<24)
				cost++
			}
		}
		wantBytes(t, "behind all", a, kept)
		wantCost(t, "behind all", a, cost)
	}
}

// The chapter's examples.
func TestExamples(t *testing.T) {
	for _, size := range []int{255, 260, 65544} {
		_, err := arena.New(size)
		wantErr(t, "New", err, api.ErrArg)
	}
	a := made(t, 256)
	_, err := a.Get(2)
	wantErr(t, "Get(2)", err, api.ErrArg)
	_, err = a.Get(256)
	wantErr(t, "Get(256)", err, api.ErrArg)
	wantErr(t, "Set(-4, 1)", a.Set(-4, 1), api.ErrArg)

	wantErr(t, "Set", a.Set(8, 1<<24+5), api.OK)
	wantWord(t, a, 8, 1<<24+5)
	if b, err := a.Read(8, 4); !bytes.Equal(b, []byte{5, 0, 0, 1}) || err != api.OK {
		t.Errorf("Read(8, 4) is % x, %v", b, err)
	}
	wantCost(t, "Set, Get, Read", a, 2)

	wantErr(t, "Write", a.Write(7, []byte{1, 2}), api.OK)
	wantWord(t, a, 8, 1<<24+2)
	wantWord(t, a, 4, 1<<24)
	if n := a.Reset(); n != 4 {
		t.Errorf("Reset is %d", n)
	}
	wantCost(t, "Reset", a, 0)
}
