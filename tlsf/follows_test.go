package tlsf_test

import (
	"bytes"
	"math"
	"math/rand"
	"slices"
	"testing"

	"metronome/api"
	"metronome/arena"
	"metronome/tlsf"
)

const mostWords = 200

// wantCheap asks that a call looks at no more words of the arena than it may.
func wantCheap(t *testing.T, h *tlsf.Heap, what string, call func()) {
	t.Helper()
	h.Arena().Reset()
	call()
	if cost := h.Arena().Reset(); cost > mostWords {
		t.Errorf("%s looks at %d words", what, cost)
	}
}

// laidOut is a heap as full as can be of the least pieces.
func laidOut(t *testing.T, size int) (*tlsf.Heap, []int) {
	t.Helper()
	h := made(t, size)
	var all []int
	for {
		var at int
		var err api.Errno
		wantCheap(t, h, "Alloc", func() { at, err = h.Alloc(1) })
		if err != api.OK {
			break
		}
		all = append(all, at)
	}
	if len(all) != (size-112)/16 {
		t.Errorf("%d bytes have %d pieces", size, len(all))
	}
	return h, all
}

// wantFreed frees all in that order, cheaply, till there is one block.
func wantFreed(t *testing.T, h *tlsf.Heap, all []int) {
	t.Helper()
	for _, at := range all {
		wantCheap(t, h, "Free", func() { wantErr(t, "Free", h.Free(at), api.OK) })
	}
	wantBlocks(t, h, free(112, h.Arena().Size()-112))
}

// P3.5: every second one is free, all of them in one list, and is taken out of it wherever it stands.
func TestCostOfALongList(t *testing.T) {
	for _, size := range []int{api.MinMemory, 4096, api.MaxMemory} {
		h, all := laidOut(t, size)
		var even, odd []int
		for i, at := range all {
			if i%2 == 0 {
				even = append(even, at)
			} else {
				odd = append(odd, at)
			}
		}
		for _, at := range even {
			wantCheap(t, h, "Free", func() { wantErr(t, "Free", h.Free(at), api.OK) })
		}
		if !h.Check() || h.Len() != len(odd) {
			t.Errorf("there are %d pieces, want %d", h.Len(), len(odd))
		}
		wantCheap(t, h, "Alloc", func() { wantAlloc(t, h, 1, even[len(even)-1]) })
		wantCheap(t, h, "Free", func() { wantFree(t, h, even[len(even)-1]) })
		wantCheap(t, h, "Alloc", func() { wantNoAllocOf(t, h, 200) })
		wantCheap(t, h, "Aligned", func() { wantNoAlignedOf(t, h, 4096, 1) })
		rand.New(rand.NewSource(1)).Shuffle(len(odd), func(i, j int) { odd[i], odd[j] = odd[j], odd[i] })
		wantFreed(t, h, odd)
	}
}

func wantNoAllocOf(t *testing.T, h *tlsf.Heap, n int) {
	t.Helper()
	_, err := h.Alloc(n)
	wantErr(t, "Alloc", err, api.ErrFull)
}

func wantNoAlignedOf(t *testing.T, h *tlsf.Heap, multiple, n int) {
	t.Helper()
	_, err := h.Aligned(multiple, n)
	wantErr(t, "Aligned", err, api.ErrFull)
}

// P3.5: whatever order pieces are freed in, there is one block at last, and all can be had again.
func TestAllThatWasFreedCanBeHadAgain(t *testing.T) {
	for _, size := range []int{api.MinMemory, 1000, api.MaxMemory} {
		h, all := laidOut(t, size)
		wantFreed(t, h, all)

		h, all = laidOut(t, size)
		slices.Reverse(all)
		wantFreed(t, h, all)

		h, all = laidOut(t, size)
		rand.New(rand.NewSource(2)).Shuffle(len(all), func(i, j int) { all[i], all[j] = all[j], all[i] })
		wantFreed(t, h, all)
		fresh := made(t, size)
		for n := 1; n < size; n += 13 {
			at, err := h.Alloc(n)
			want, wantErrno := fresh.Alloc(n)
			if at != want || err != wantErrno {
				t.Errorf("Alloc(%d) is %d, %v, want %d, %v", n, at, err, want, wantErrno)
			}
		}
	}
}

// P3.5
func TestCostOfAnyCalls(t *testing.T) {
	for seed, size := range []int{api.MinMemory, 2048, api.MaxMemory} {
		h := made(t, size)
		r := rand.New(rand.NewSource(int64(seed)))
		var all []int
		keep := func(at int, err api.Errno) {
			if err == api.OK {
				all = append(all, at)
			}
		}
		for range 20000 {
			switch r.Intn(4) {
			case 0:
				wantCheap(t, h, "Alloc", func() { keep(h.Alloc(1 + r.Intn(1<<r.Intn(14)))) })
			case 1:
				wantCheap(t, h, "Aligned", func() { keep(h.Aligned(8<<r.Intn(10), 1+r.Intn(300))) })
			default:
				if len(all) > 0 {
					i := r.Intn(len(all))
					at := all[i]
					all = slices.Delete(all, i, i+1)
					wantCheap(t, h, "Free", func() { wantErr(t, "Free", h.Free(at), api.OK) })
				}
			}
		}
		if !h.Check() || h.Len() != len(all) {
			t.Errorf("there are %d pieces, want %d", h.Len(), len(all))
		}
		wantFreed(t, h, all)
	}
}

// P3.5: blocks stand one behind the other, at multiples of 8, and no two free ones do.
func TestBlocksFillTheArena(t *testing.T) {
	for seed, size := range []int{256, 1024, 8192} {
		p := newPair(t, size, 100+int64(seed))
		for range 2000 {
			p.play(t)
			at, wasFree := 112, false
			for b := range p.h.All() {
				if b.At != at || b.At%8 != 0 || b.Size%8 != 0 || b.Size < 16 || b.Free && wasFree {
					t.Fatalf("the block %v stands behind %d, free %v", b, at, wasFree)
				}
				at, wasFree = b.At+b.Size, b.Free
			}
			if at != size {
				t.Fatalf("the blocks end at %d of %d", at, size)
			}
		}
	}
}

// P3.5: each byte of the pieces is looked at from outside, behind each call.
func TestNobodyWritesIntoAPiece(t *testing.T) {
	p := newPair(t, 2048, 200)
	for range 3000 {
		was := p.h.Copy()
		p.play(t)
		for b := range p.h.All() {
			n, err := was.Size(b.At + 8)
			if b.Free || err != api.OK {
				continue
			}
			n = min(n, b.Size-8)
			before, _ := was.Arena().Read(b.At+8, n)
			now, _ := p.h.Arena().Read(b.At+8, n)
			if !bytes.Equal(before, now) {
				t.Fatalf("the piece at %d has other bytes", b.At+8)
			}
		}
	}
}

// P3.5: what Set writes stands in one piece, and spoils nothing else, whatever it looks like.
func TestWordsThatLookLikeBlocks(t *testing.T) {
	for _, word := range []uint32{0, 1, 16, 17, 112, 113, 145, 128, math.MaxUint32} {
		h := made(t, 256)
		wantAlloc(t, h, 24, 120)
		wantAlloc(t, h, 24, 152)
		wantAlloc(t, h, 24, 184)
		for _, piece := range []int{120, 152, 184} {
			for at := piece; at < piece+24; at += 4 {
				wantErr(t, "Set", h.Set(at, word), api.OK)
			}
		}
		wantBlocks(t, h, used(112, 32), used(144, 32), used(176, 32), free(208, 48))
		wantFree(t, h, 152)
		wantBlocks(t, h, used(112, 32), free(144, 32), used(176, 32), free(208, 48))
		wantFree(t, h, 184, 120)
		wantBlocks(t, h, free(112, 144))
	}
}

// mixed is a heap with pieces, a list of three free blocks, and others.
func mixed(t *testing.T) *tlsf.Heap {
	t.Helper()
	h := made(t, 512)
	for i := range 7 {
		wantAlloc(t, h, 24, 120+32*i)
	}
	wantAlloc(t, h, 8, 344)
	wantAlloc(t, h, 8, 360)
	wantFree(t, h, 120, 184, 248, 344)
	wantBlocks(t, h, free(112, 32), used(144, 32), free(176, 32), used(208, 32), free(240, 32), used(272, 32), used(304, 32),
		free(336, 16), used(352, 16), free(368, 144))
	return h
}

// told are the words that tell of blocks, lists and bits: the heap's own, each block's own, and the links of free ones.
func told(h *tlsf.Heap) []int {
	var all []int
	for at := 0; at < 112; at += 4 {
		all = append(all, at)
	}
	for b := range h.All() {
		all = append(all, b.At, b.At+4)
		if b.Free {
			all = append(all, b.At+8, b.At+12)
		}
	}
	return all
}

// P3.4
func TestCheckSeesEachWord(t *testing.T) {
	h := mixed(t)
	words := told(h)
	for at := 0; at < 512; at += 4 {
		was, _ := h.Arena().Get(at)
		for _, word := range []uint32{0, 1, 8, 16, 17, 32, 33, 112, 144, 176, 240, 336, 368, 512, was ^ 1, was + 8, was ^ 1<<31, was ^ 1<<24, ^was} {
			wantErr(t, "Set", h.Arena().Set(at, word), api.OK)
			if want := word == was || !slices.Contains(words, at); h.Check() != want {
				t.Errorf("the word at %d was %d and is %d, and Check is %v", at, was, word, !want)
			}
		}
		wantErr(t, "Set", h.Arena().Set(at, was), api.OK)
		if !h.Check() {
			t.Errorf("the word at %d is as it was, and Check is false", at)
		}
	}
}

// P3.4: each list has the blocks of another one's class.
func TestCheckSeesListsThatAreSwapped(t *testing.T) {
	h := mixed(t)
	a := h.Arena()
	for i := 0; i < 112; i += 4 {
		for j := 0; j < i; j += 4 {
			x, _ := a.Get(i)
			y, _ := a.Get(j)
			a.Set(i, y)
			a.Set(j, x)
			if h.Check() != (x == y) {
				t.Errorf("the words at %d and %d, %d and %d, are swapped, and Check is %v", i, j, x, y, x != y)
			}
			a.Set(i, x)
			a.Set(j, y)
		}
	}
}

// P3.4: arenas of which each word is as it should be in another heap.
func TestCheckSeesOtherHeaps(t *testing.T) {
	h := mixed(t)
	was, _ := h.Arena().Read(0, 512)
	other := h.Copy()
	wantRealloc(t, other, 312, 8, 312)
	grown := h.Copy()
	wantRealloc(t, grown, 152, 56, 152)
	fuller := h.Copy()
	wantAlloc(t, fuller, 24, 248)
	emptier := h.Copy()
	wantFree(t, emptier, 360)
	for _, o := range []*tlsf.Heap{made(t, 512), other, grown, fuller, emptier} {
		b, _ := o.Arena().Read(0, 512)
		wantErr(t, "Write", h.Arena().Write(0, b), api.OK)
		if h.Check() || !o.Check() {
			t.Error("the arena is another heap's, and Check does not see it")
		}
	}
	for _, b := range [][]byte{make([]byte, 512), bytes.Repeat([]byte{0xff}, 512), make([]byte, 112), bytes.Repeat([]byte{1}, 112)} {
		wantErr(t, "Write", h.Arena().Write(0, was), api.OK)
		wantErr(t, "Write", h.Arena().Write(0, b), api.OK)
		if h.Check() {
			t.Error("the arena is no heap's, and Check does not see it")
		}
	}
	wantErr(t, "Write", h.Arena().Write(0, was), api.OK)
	if !h.Check() {
		t.Error("the arena is as it was, and Check is false")
	}
}

// P3.4: Check, Size, All and the others change no word.
func TestLookingChangesNothing(t *testing.T) {
	h := mixed(t)
	was := h.Arena().Copy()
	h.Check()
	h.Left()
	h.Len()
	h.Copy()
	for range h.All() {
		break
	}
	for at := range 512 {
		h.Size(at)
		h.Get(at)
	}
	if !arena.Same(was, h.Arena()) {
		t.Error("looking changes the arena")
	}
}

// spoil writes words that look like something into the arena.
func spoil(h *tlsf.Heap, r *rand.Rand) {
	size := h.Arena().Size()
	for range 1 + r.Intn(40) {
		word := []uint32{r.Uint32(), uint32(r.Intn(size)), uint32(r.Intn(size/8) * 8), uint32(r.Intn(size/8)*8 + 1), math.MaxUint32, 1 << 31, 0}[r.Intn(7)]
		at := r.Intn(size/4) * 4
		if r.Intn(2) == 0 {
			at = r.Intn(28) * 4
		}
		h.Arena().Set(at, word)
	}
}

// P3.4, P3.5: whatever stands in the arena, calls end, and look at few words; what they give out is in the arena.
func TestSpoiledArenas(t *testing.T) {
	for seed := range 3000 {
		r := rand.New(rand.NewSource(int64(seed)))
		h := mixed(t)
		spoil(h, r)
		for range 30 {
			wantCheap(t, h, "Alloc", func() { wantInside(t, h)(h.Alloc(1 + r.Intn(100))) })
			wantCheap(t, h, "Aligned", func() { wantInside(t, h)(h.Aligned(8<<r.Intn(4), 1+r.Intn(100))) })
			for b := range h.All() {
				if !b.Free && r.Intn(4) == 0 {
					wantInside(t, h)(h.Realloc(b.At+8, 1+r.Intn(200)))
				} else if !b.Free && r.Intn(4) == 0 {
					wantCheap(t, h, "Free", func() { h.Free(b.At + 8) })
				}
			}
			h.Check()
			h.Left()
			h.Copy().Check()
			if r.Intn(5) == 0 {
				spoil(h, r)
			}
		}
	}
}

// P3.5: a list that was led astray, to what looks like a free block, gives out nothing that no piece may be.
func TestListsThatLeadAstray(t *testing.T) {
	was := mixed(t)
	for word := 0; word < 112; word += 4 {
		for at := 0; at < 544; at += 4 {
			h := was.Copy()
			h.Arena().Set(at, 33)
			h.Arena().Set(word, uint32(at))
			before := slices.Collect(h.All())
			offset, err := h.Alloc(24)
			wantInside(t, h)(offset, err)
			if slices.Contains(before, used(offset-8, 32)) {
				t.Errorf("the piece at %d is given out again", offset)
			}
		}
	}
}

// P3.5: a block that does not end where the piece's begins is not joined with it.
func TestABlockAheadThatIsElsewhere(t *testing.T) {
	h := mixed(t)
	for at := 144; at < 152; at += 4 {
		if word, _ := h.Arena().Get(at); word == 112 {
			wantErr(t, "Set", h.Arena().Set(at, 240), api.OK)
		}
	}
	wantFree(t, h, 152)
	wantAlloc(t, h, 88, 376)
}

func wantInside(t *testing.T, h *tlsf.Heap) func(int, api.Errno) {
	return func(at int, err api.Errno) {
		t.Helper()
		if err != api.OK {
			return
		}
		if n, _ := h.Size(at); at%8 != 0 || at < 120 || n < 8 || at+n > h.Arena().Size() {
			t.Errorf("a piece of %d bytes is at %d", n, at)
		}
	}
}
