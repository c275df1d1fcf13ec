package tlsf_test

import (
	"bytes"
	"math"
	"slices"
	"testing"

	"metronome/api"
	"metronome/arena"
	"metronome/tlsf"
)

func wantErr(t *testing.T, what string, got, want api.Errno) {
	t.Helper()
	if got != want {
		t.Errorf("%s: %v, want %v", what, got, want)
	}
}

func made(t *testing.T, size int) *tlsf.Heap {
	t.Helper()
	a, err := arena.New(size)
	wantErr(t, "an arena", err, api.OK)
	h, err := tlsf.New(a)
	if h == nil || err != api.OK || h.Arena() != a {
		t.Fatalf("New over %d bytes is %v, %v", size, h, err)
	}
	return h
}

// noHeaps are a nil and a zero one.
func noHeaps() []*tlsf.Heap {
	return []*tlsf.Heap{nil, {}}
}

func used(at, size int) api.Block { return api.Block{At: at, Size: size} }

func free(at, size int) api.Block { return api.Block{At: at, Size: size, Free: true} }

func wantBlocks(t *testing.T, h *tlsf.Heap, want ...api.Block) {
	t.Helper()
	if got := slices.Collect(h.All()); !slices.Equal(got, want) {
		t.Errorf("the blocks are %v, want %v", got, want)
	}
	if !h.Check() {
		t.Error("Check is false")
	}
}

func wantAlloc(t *testing.T, h *tlsf.Heap, n, want int) {
	t.Helper()
	if at, err := h.Alloc(n); at != want || err != api.OK {
		t.Errorf("Alloc(%d) is %d, %v, want %d", n, at, err, want)
	}
}

func wantAligned(t *testing.T, h *tlsf.Heap, multiple, n, want int) {
	t.Helper()
	if at, err := h.Aligned(multiple, n); at != want || err != api.OK {
		t.Errorf("Aligned(%d, %d) is %d, %v, want %d", multiple, n, at, err, want)
	}
}

func wantRealloc(t *testing.T, h *tlsf.Heap, offset, n, want int) {
	t.Helper()
	if at, err := h.Realloc(offset, n); at != want || err != api.OK {
		t.Errorf("Realloc(%d, %d) is %d, %v, want %d", offset, n, at, err, want)
	}
}

func wantFree(t *testing.T, h *tlsf.Heap, offsets ...int) {
	t.Helper()
	for _, at := range offsets {
		if err := h.Free(at); err != api.OK {
			t.Errorf("Free(%d) is %v", at, err)
		}
	}
}

func wantSize(t *testing.T, h *tlsf.Heap, offset, want int) {
	t.Helper()
	if n, err := h.Size(offset); n != want || err != api.OK {
		t.Errorf("Size(%d) is %d, %v, want %d", offset, n, err, want)
	}
}

// wantRefused asks for that error, for no offset beside it, and that nothing is changed.
func wantRefused(t *testing.T, h *tlsf.Heap, what string, call func() (int, api.Errno), want api.Errno) {
	t.Helper()
	was, blocks := h.Arena().Copy(), slices.Collect(h.All())
	if at, err := call(); at != 0 || err != want {
		t.Errorf("%s is %d, %v, want %v", what, at, err, want)
	}
	if !arena.Same(was, h.Arena()) || !slices.Equal(blocks, slices.Collect(h.All())) || !h.Check() {
		t.Errorf("%s is refused, and changes the heap", what)
	}
}

func wantNoAlloc(t *testing.T, h *tlsf.Heap, n int, want api.Errno) {
	t.Helper()
	wantRefused(t, h, "Alloc", func() (int, api.Errno) { return h.Alloc(n) }, want)
}

func wantNoAligned(t *testing.T, h *tlsf.Heap, multiple, n int, want api.Errno) {
	t.Helper()
	wantRefused(t, h, "Aligned", func() (int, api.Errno) { return h.Aligned(multiple, n) }, want)
}

func wantNoRealloc(t *testing.T, h *tlsf.Heap, offset, n int, want api.Errno) {
	t.Helper()
	wantRefused(t, h, "Realloc", func() (int, api.Errno) { return h.Realloc(offset, n) }, want)
}

// wrongNumbers are no numbers of bytes.
func wrongNumbers() []int {
	return []int{0, -1, -8, api.MaxMemory + 1, api.MaxMemory + 8, 1 << 32, 1<<32 + 8, math.MinInt, math.MinInt + 1, math.MaxInt - 7, math.MaxInt}
}

// wrongMultiples are no powers of two from 8 to 4096.
func wrongMultiples() []int {
	return []int{4, 8192, 24, 12, 9, 7, 2, 1, 0, -8, -4096, 4095, 4097, 4104, 6144, 16384, 1 << 32, 1<<32 + 8, math.MinInt, math.MaxInt}
}

// wrongOffsets are such at which no piece of a heap whose only one is at 120 begins.
func wrongOffsets() []int {
	return []int{119, 121, 116, 112, 124, 128, 136, 8, 0, -1, -8, -120, 255, 256, 264, 1 << 32, 1<<32 + 120, math.MinInt, math.MinInt + 120, math.MaxInt, math.MaxInt - 7}
}

// The chapter's examples.
func TestExamples(t *testing.T) {
	h := made(t, 256)
	wantBlocks(t, h, free(112, 144))
	wantAlloc(t, h, 1, 120)
	wantAlloc(t, h, 8, 136)
	wantAlloc(t, h, 9, 152)
	wantNoAlloc(t, h, 0, api.ErrArg)

	wantFree(t, h, 136)
	wantErr(t, "Free(136)", h.Free(136), api.ErrNone)
	wantAlloc(t, h, 8, 136)
	wantBlocks(t, h, used(112, 16), used(128, 16), used(144, 24), free(168, 88))

	wantNoAlloc(t, h, 80, api.ErrFull)
	wantAlloc(t, h, 56, 176)
	if h.Left() != 16 {
		t.Errorf("Left is %d", h.Left())
	}

	wantFree(t, h, 120, 136)
	wantAlloc(t, h, 24, 120)
	wantRealloc(t, h, 152, 8, 152)
	wantSize(t, h, 152, 16)
}

// P3.1
func TestNewIsOneFreeBlock(t *testing.T) {
	for _, size := range []int{api.MinMemory, api.MinMemory + 8, 1000, api.MaxMemory - 8, api.MaxMemory} {
		h := made(t, size)
		wantBlocks(t, h, free(112, size-112))
		if h.Len() != 0 || h.Left() != size-120 {
			t.Errorf("of %d bytes there are %d pieces, and %d bytes left", size, h.Len(), h.Left())
		}
	}
}

// P3.1
func TestNewRefusesNoArena(t *testing.T) {
	for _, a := range []*arena.Arena{nil, {}} {
		h, err := tlsf.New(a)
		if h != nil || err != api.ErrNil {
			t.Errorf("New over none is %v, %v", h, err)
		}
	}
}

// P3.1: what the arena had is lost.
func TestNewOverAnArenaThatHadSomething(t *testing.T) {
	for _, x := range []byte{0xff, 0x01, 0x70, 0x80} {
		a, _ := arena.New(256)
		wantErr(t, "Write", a.Write(0, bytes.Repeat([]byte{x}, 256)), api.OK)
		h, err := tlsf.New(a)
		wantErr(t, "New", err, api.OK)
		wantBlocks(t, h, free(112, 144))
		wantAlloc(t, h, 1, 120)
		wantAlloc(t, h, 80, 136)
		wantFree(t, h, 120, 136)
		wantBlocks(t, h, free(112, 144))
	}
}

// P3.1: another heap over the same arena begins anew.
func TestNewOverAHeapsArena(t *testing.T) {
	first := made(t, 256)
	wantAlloc(t, first, 8, 120)
	second, err := tlsf.New(first.Arena())
	wantErr(t, "New", err, api.OK)
	wantBlocks(t, second, free(112, 144))
	wantErr(t, "Free", second.Free(120), api.ErrNone)
	if first.Check() {
		t.Error("Check does not see that the blocks are others now")
	}
}

// P3.1: what is needed is a multiple of 8, and 8 more.
func TestAllocGivesWhatIsNeeded(t *testing.T) {
	for n := 1; n <= 64; n++ {
		h := made(t, 256)
		wantAlloc(t, h, n, 120)
		size := max(8, (n+7)/8*8)
		wantSize(t, h, 120, size)
		wantBlocks(t, h, used(112, size+8), free(120+size, 136-size))
	}
}

// P3.1
func TestAllocRefusesWrongNumbers(t *testing.T) {
	for _, size := range []int{api.MinMemory, api.MaxMemory} {
		h := made(t, size)
		for _, n := range wrongNumbers() {
			wantNoAlloc(t, h, n, api.ErrArg)
		}
		wantNoAlloc(t, h, api.MaxMemory, api.ErrFull)
		wantNoAlloc(t, h, api.MaxMemory-1, api.ErrFull)
		wantAlloc(t, h, 1, 120)
	}
}

// P3.1: the greatest numbers for which a new heap finds its block, and one more.
func TestAllocOfTheGreatest(t *testing.T) {
	for _, g := range []struct{ size, most int }{{256, 120}, {512, 376}, {4096, 3064}, {65536, 49144}} {
		h := made(t, g.size)
		wantNoAlloc(t, h, g.most+1, api.ErrFull)
		wantAlloc(t, h, g.most, 120)
		wantSize(t, h, 120, g.most)
		wantFree(t, h, 120)
		wantBlocks(t, h, free(112, g.size-112))
	}
}

// P3.1: just 16 bytes are a block, and just less stay with the piece.
func TestCutLeavesSixteenBytes(t *testing.T) {
	h := made(t, 256)
	wantAlloc(t, h, 120, 120)
	wantBlocks(t, h, used(112, 128), free(240, 16))
	wantAlloc(t, h, 8, 248)
	wantBlocks(t, h, used(112, 128), used(240, 16))
	wantNoAlloc(t, h, 1, api.ErrFull)

	h = made(t, 256)
	wantAlloc(t, h, 16, 120)
	wantAlloc(t, h, 8, 144)
	wantAlloc(t, h, 88, 160)
	wantFree(t, h, 120)
	wantAlloc(t, h, 8, 120)
	wantSize(t, h, 120, 16)
	wantBlocks(t, h, used(112, 24), used(136, 16), used(152, 104))
}

// P3.1: a free block of the size itself, but of a class that may have lesser ones.
func TestABlockThatWouldDoIsNotFound(t *testing.T) {
	h := made(t, 512)
	wantAlloc(t, h, 32, 120)
	wantAlloc(t, h, 8, 160)
	wantFree(t, h, 120)
	wantAlloc(t, h, 32, 176)
	wantBlocks(t, h, free(112, 40), used(152, 16), used(168, 40), free(208, 304))
	wantAlloc(t, h, 24, 120)

	h = made(t, 256)
	wantAlloc(t, h, 48, 120)
	wantNoAlloc(t, h, 73, api.ErrFull)
	wantNoAlloc(t, h, 57, api.ErrFull)
	wantAlloc(t, h, 56, 176)
}

// P3.1: the block that was put in last is in front.
func TestTheLastOneIsFoundFirst(t *testing.T) {
	h := made(t, 512)
	for i := range 6 {
		wantAlloc(t, h, 8, 120+16*i)
	}
	wantFree(t, h, 120, 184, 152)
	wantAlloc(t, h, 8, 152)
	wantAlloc(t, h, 8, 184)
	wantAlloc(t, h, 8, 120)
	wantAlloc(t, h, 8, 216)
	if !h.Check() || h.Len() != 7 {
		t.Errorf("there are %d pieces", h.Len())
	}
}

// P3.1: the least class that does is taken, though a greater one's block was put in last.
func TestTheLeastClassIsFoundFirst(t *testing.T) {
	h := made(t, 1024)
	wantAlloc(t, h, 24, 120)
	wantAlloc(t, h, 8, 152)
	wantAlloc(t, h, 56, 168)
	wantAlloc(t, h, 8, 232)
	wantFree(t, h, 120, 168)
	wantAlloc(t, h, 16, 120)
	wantFree(t, h, 120)
	wantAlloc(t, h, 40, 168)
	wantAlloc(t, h, 24, 120)
	wantAlloc(t, h, 24, 248)
}

// P3.1
func TestFreeJoinsNeighbours(t *testing.T) {
	laid := func() *tlsf.Heap {
		h := made(t, 256)
		for i := range 4 {
			wantAlloc(t, h, 8, 120+16*i)
		}
		return h
	}
	h := laid()
	wantFree(t, h, 136)
	wantBlocks(t, h, used(112, 16), free(128, 16), used(144, 16), used(160, 16), free(176, 80))
	wantFree(t, h, 120)
	wantBlocks(t, h, free(112, 32), used(144, 16), used(160, 16), free(176, 80))
	wantFree(t, h, 168)
	wantBlocks(t, h, free(112, 32), used(144, 16), free(160, 96))
	wantFree(t, h, 152)
	wantBlocks(t, h, free(112, 144))

	h = laid()
	wantFree(t, h, 120, 136)
	wantBlocks(t, h, free(112, 32), used(144, 16), used(160, 16), free(176, 80))
	wantFree(t, h, 152, 168)
	wantBlocks(t, h, free(112, 144))
}

// P3.1, P3.3, P3.4
func TestOffsetsWithoutAPieceAreRefused(t *testing.T) {
	h := made(t, 256)
	wantAlloc(t, h, 20, 120)
	for _, at := range wrongOffsets() {
		wantRefused(t, h, "Free", func() (int, api.Errno) { return 0, h.Free(at) }, api.ErrNone)
		wantRefused(t, h, "Size", func() (int, api.Errno) { return h.Size(at) }, api.ErrNone)
		wantNoRealloc(t, h, at, 8, api.ErrNone)
		wantNoRealloc(t, h, at, 0, api.ErrArg)
	}
	wantFree(t, h, 120)
	wantErr(t, "Free again", h.Free(120), api.ErrNone)
	wantNoRealloc(t, h, 120, 8, api.ErrNone)
	wantRefused(t, h, "Size", func() (int, api.Errno) { return h.Size(120) }, api.ErrNone)
}

// P3.1: a piece that is no more inside a greater one is none.
func TestAFreedOffsetInsideAPiece(t *testing.T) {
	h := made(t, 256)
	wantAlloc(t, h, 8, 120)
	wantAlloc(t, h, 8, 136)
	wantFree(t, h, 120, 136)
	wantAlloc(t, h, 40, 120)
	wantErr(t, "Free", h.Free(136), api.ErrNone)
	wantBlocks(t, h, used(112, 48), free(160, 96))
}

// P3.2
func TestAlignedTakesTheBeginning(t *testing.T) {
	h := made(t, 256)
	wantAligned(t, h, 8, 8, 120)
	wantBlocks(t, h, used(112, 16), free(128, 128))
	wantAligned(t, h, 8, 17, 136)
	wantBlocks(t, h, used(112, 16), used(128, 32), free(160, 96))

	h = made(t, 512)
	wantAlloc(t, h, 1, 120)
	wantAlloc(t, h, 32, 136)
	wantAligned(t, h, 16, 1, 176)
	wantBlocks(t, h, used(112, 16), used(128, 40), used(168, 16), free(184, 328))
}

// P3.2: 16 behind the block's beginning there is no room for a block ahead.
func TestAlignedLeavesABlockAhead(t *testing.T) {
	for _, a := range []struct{ multiple, first, offset int }{
		{16, 0, 144}, {32, 0, 160}, {64, 0, 192}, {128, 0, 256}, {256, 0, 256}, {512, 0, 512}, {1024, 0, 1024}, {2048, 0, 2048}, {4096, 0, 4096},
		{16, 16, 144}, {32, 16, 160}, {16, 8, 160}, {32, 8, 160}, {64, 48, 192}, {64, 40, 192}, {64, 56, 256}, {64, 64, 192}, {256, 112, 256}, {256, 120, 512}, {256, 128, 256},
	} {
		h := made(t, 16384)
		begin := 112
		var want []api.Block
		if a.first > 0 {
			wantAlloc(t, h, a.first, 120)
			want = append(want, used(112, a.first+8))
			begin += a.first + 8
		}
		wantAligned(t, h, a.multiple, 30, a.offset)
		if at := a.offset - 8; at > begin {
			want = append(want, free(begin, at-begin))
		}
		wantBlocks(t, h, append(want, used(a.offset-8, 40), free(a.offset+32, 16384-a.offset-32))...)
		wantFree(t, h, a.offset)
		if a.first > 0 {
			wantFree(t, h, 120)
		}
		wantBlocks(t, h, free(112, 16384-112))
	}
}

// P3.2: what is ahead is put into its list first, what is left behind in front of it, if both are of one class.
func TestAlignedPutsWhatIsLeftInFront(t *testing.T) {
	h := made(t, 264)
	wantAligned(t, h, 64, 8, 192)
	wantBlocks(t, h, free(112, 72), used(184, 16), free(200, 64))
	wantAlloc(t, h, 56, 208)
	wantAlloc(t, h, 56, 120)
}

// P3.2: the block is found for the multiple and 16 bytes more, though less would do.
func TestAlignedFindsForMore(t *testing.T) {
	h := made(t, 256)
	wantNoAligned(t, h, 8, 97, api.ErrFull)
	wantAligned(t, h, 8, 96, 120)
	wantBlocks(t, h, used(112, 104), free(216, 40))

	h = made(t, 256)
	wantNoAligned(t, h, 64, 41, api.ErrFull)
	wantAligned(t, h, 64, 40, 192)
	wantBlocks(t, h, free(112, 72), used(184, 48), free(232, 24))
}

// P3.2: just 16 bytes are left, and just less.
func TestAlignedCutsLikeAlloc(t *testing.T) {
	h := made(t, 312)
	wantAligned(t, h, 64, 104, 192)
	wantBlocks(t, h, free(112, 72), used(184, 112), free(296, 16))

	h = made(t, 304)
	wantAligned(t, h, 64, 104, 192)
	wantSize(t, h, 192, 112)
	wantBlocks(t, h, free(112, 72), used(184, 120))
}

// P3.2
func TestAlignedAtTheEnds(t *testing.T) {
	h := made(t, api.MaxMemory)
	wantAligned(t, h, 4096, 1, 4096)
	wantAligned(t, h, 4096, 1, 8192)
	wantAligned(t, h, 8, 1, 4112)
	wantNoAligned(t, h, 8, api.MaxMemory, api.ErrFull)
	wantNoAligned(t, h, 4096, api.MaxMemory, api.ErrFull)
	h = made(t, api.MinMemory)
	wantNoAligned(t, h, 4096, 1, api.ErrFull)
	wantNoAligned(t, h, 256, 1, api.ErrFull)
}

// P3.2
func TestAlignedRefusesWrongInputs(t *testing.T) {
	for _, size := range []int{api.MinMemory, api.MaxMemory} {
		h := made(t, size)
		for _, multiple := range wrongMultiples() {
			wantNoAligned(t, h, multiple, 8, api.ErrArg)
			wantNoAligned(t, h, multiple, api.MaxMemory, api.ErrArg)
			wantNoAligned(t, h, multiple, 0, api.ErrArg)
		}
		for _, n := range wrongNumbers() {
			wantNoAligned(t, h, 8, n, api.ErrArg)
			wantNoAligned(t, h, 4096, n, api.ErrArg)
		}
	}
}

// P3.3
func TestReallocStays(t *testing.T) {
	h := made(t, 256)
	wantAlloc(t, h, 40, 120)
	wantAlloc(t, h, 8, 168)
	for _, n := range []int{40, 39, 33, 32, 25} {
		wantRealloc(t, h, 120, n, 120)
		wantBlocks(t, h, used(112, 48), used(160, 16), free(176, 80))
	}
}

// P3.3: just 16 bytes less are a block, and just less stay with the piece.
func TestReallocGivesBack(t *testing.T) {
	h := made(t, 256)
	wantAlloc(t, h, 40, 120)
	wantAlloc(t, h, 8, 168)
	wantRealloc(t, h, 120, 25, 120)
	wantSize(t, h, 120, 40)
	wantRealloc(t, h, 120, 24, 120)
	wantSize(t, h, 120, 24)
	wantBlocks(t, h, used(112, 32), free(144, 16), used(160, 16), free(176, 80))
	wantAlloc(t, h, 8, 152)
}

// P3.3: what is given back is freed: it is one with a free block behind it.
func TestReallocJoinsWhatItGivesBack(t *testing.T) {
	h := made(t, 256)
	wantAlloc(t, h, 40, 120)
	wantRealloc(t, h, 120, 32, 120)
	wantBlocks(t, h, used(112, 48), free(160, 96))
	wantRealloc(t, h, 120, 1, 120)
	wantBlocks(t, h, used(112, 16), free(128, 128))
}

// P3.3
func TestReallocGrowsIntoTheBlockBehind(t *testing.T) {
	h := made(t, 256)
	wantAlloc(t, h, 8, 120)
	wantRealloc(t, h, 120, 100, 120)
	wantBlocks(t, h, used(112, 112), free(224, 32))
	wantRealloc(t, h, 120, 136, 120)
	wantBlocks(t, h, used(112, 144))
	wantNoRealloc(t, h, 120, 137, api.ErrFull)
	wantRealloc(t, h, 120, 8, 120)
	wantNoRealloc(t, h, 120, 137, api.ErrFull)
	wantRealloc(t, h, 120, 120, 120)
	wantBlocks(t, h, used(112, 128), free(240, 16))
	wantRealloc(t, h, 120, 121, 120)
	wantSize(t, h, 120, 136)
}

// P3.3: between two pieces, with just enough, 8 more, 16 more, and 8 less.
func TestReallocGrowsBetweenPieces(t *testing.T) {
	laid := func() *tlsf.Heap {
		h := made(t, 512)
		wantAlloc(t, h, 8, 120)
		wantAlloc(t, h, 40, 136)
		wantAlloc(t, h, 8, 184)
		wantFree(t, h, 136)
		wantBlocks(t, h, used(112, 16), free(128, 48), used(176, 16), free(192, 320))
		return h
	}
	for _, g := range []struct{ n, size, rest int }{{56, 56, 0}, {48, 56, 0}, {41, 56, 0}, {40, 40, 16}, {9, 16, 40}} {
		h := laid()
		wantRealloc(t, h, 120, g.n, 120)
		wantSize(t, h, 120, g.size)
		want := []api.Block{used(112, g.size+8)}
		if g.rest > 0 {
			want = append(want, free(120+g.size, g.rest))
		}
		wantBlocks(t, h, append(want, used(176, 16), free(192, 320))...)
	}
	h := laid()
	wantRealloc(t, h, 120, 57, 200)
	wantBlocks(t, h, free(112, 64), used(176, 16), used(192, 72), free(264, 248))
}

// P3.3: the block ahead is of no use, and one behind that is a piece's, too.
func TestReallocMoves(t *testing.T) {
	h := made(t, 512)
	wantAlloc(t, h, 64, 120)
	wantAlloc(t, h, 16, 192)
	wantAlloc(t, h, 8, 216)
	wantFree(t, h, 120)
	for i := range 4 {
		wantErr(t, "Set", h.Set(192+4*i, uint32(70+i)), api.OK)
	}
	wantRealloc(t, h, 192, 17, 120)
	for i := range 4 {
		if w, err := h.Get(120 + 4*i); w != uint32(70+i) || err != api.OK {
			t.Errorf("the word at %d is %d, %v", 4*i, w, err)
		}
	}
	wantErr(t, "Free", h.Free(192), api.ErrNone)
	wantBlocks(t, h, used(112, 32), free(144, 64), used(208, 16), free(224, 288))
}

// P3.3: the elder piece is still there when a block is found: its own one is not.
func TestReallocFindsBesideTheElderPiece(t *testing.T) {
	h := made(t, 256)
	wantAlloc(t, h, 32, 120)
	wantAlloc(t, h, 32, 160)
	wantAlloc(t, h, 32, 200)
	wantFree(t, h, 120)
	wantBlocks(t, h, free(112, 40), used(152, 40), used(192, 40), free(232, 24))
	wantNoRealloc(t, h, 160, 40, api.ErrFull)
	wantNoRealloc(t, h, 160, api.MaxMemory, api.ErrFull)
	wantNoRealloc(t, h, 200, 57, api.ErrFull)
	wantRealloc(t, h, 200, 56, 200)
}

// P3.3
func TestReallocRefusesWrongInputs(t *testing.T) {
	h := made(t, 256)
	wantAlloc(t, h, 8, 120)
	for _, n := range wrongNumbers() {
		wantNoRealloc(t, h, 120, n, api.ErrArg)
		wantNoRealloc(t, h, 136, n, api.ErrArg)
	}
	wantNoRealloc(t, h, 136, api.MaxMemory, api.ErrNone)
	wantNoRealloc(t, h, 120, api.MaxMemory, api.ErrFull)
}

// P3.4
func TestWordsOfPieces(t *testing.T) {
	h := made(t, 256)
	wantAlloc(t, h, 8, 120)
	wantAlloc(t, h, 20, 136)
	wantAlloc(t, h, 8, 168)
	wantFree(t, h, 120)
	for at := -16; at <= 280; at++ {
		want := api.ErrArg
		if at%4 == 0 && (at >= 136 && at < 160 || at >= 168 && at < 176) {
			want = api.OK
		}
		wantErr(t, "Set", h.Set(at, uint32(at)), want)
		w, err := h.Get(at)
		wantErr(t, "Get", err, want)
		if err == api.OK && w != uint32(at) || err != api.OK && w != 0 {
			t.Errorf("the word at %d is %d, %v", at, w, err)
		}
	}
	wantBlocks(t, h, free(112, 16), used(128, 32), used(160, 16), free(176, 80))
}

// P3.4
func TestWordsAtTheEnds(t *testing.T) {
	h := made(t, api.MaxMemory)
	wantAlloc(t, h, 49144, 120)
	wantRealloc(t, h, 120, 65416, 120)
	for _, at := range []int{120, 65532} {
		wantErr(t, "Set", h.Set(at, 0xfedcba98), api.OK)
		if w, err := h.Get(at); w != 0xfedcba98 || err != api.OK {
			t.Errorf("the word at %d is %x, %v", at, w, err)
		}
	}
	for _, at := range []int{116, 112, 65536, 65534, 118, 122, 0, -4, math.MinInt, math.MinInt + 120, math.MaxInt, math.MaxInt - 3, 1<<32 + 120} {
		wantErr(t, "Set", h.Set(at, 1), api.ErrArg)
		w, err := h.Get(at)
		if w != 0 || err != api.ErrArg {
			t.Errorf("the word at %d is %x, %v", at, w, err)
		}
	}
}

// P3.4
func TestLeftAndLen(t *testing.T) {
	h := made(t, 256)
	want := func(left, n int) {
		t.Helper()
		if h.Left() != left || h.Len() != n {
			t.Errorf("Left is %d, Len is %d, want %d, %d", h.Left(), h.Len(), left, n)
		}
	}
	want(136, 0)
	wantAlloc(t, h, 8, 120)
	wantAlloc(t, h, 8, 136)
	want(104, 2)
	wantFree(t, h, 120)
	want(112, 1)
	wantAlloc(t, h, 88, 152)
	want(16, 2)
	wantAlloc(t, h, 8, 248)
	want(8, 3)
	wantAlloc(t, h, 8, 120)
	want(0, 4)
	wantFree(t, h, 120, 136, 152, 248)
	want(136, 0)
}

// P3.4
func TestAllIsLeftAndGoneThroughAgain(t *testing.T) {
	h := made(t, 256)
	wantAlloc(t, h, 8, 120)
	wantAlloc(t, h, 8, 136)
	wantFree(t, h, 120)
	want := []api.Block{free(112, 16), used(128, 16), free(144, 112)}
	all := h.All()
	for many := range len(want) + 1 {
		var got []api.Block
		for b := range all {
			if len(got) == many {
				break
			}
			got = append(got, b)
		}
		if !slices.Equal(got, want[:many]) {
			t.Errorf("left behind %d: %v", many, got)
		}
	}
	for b := range all {
		inner := slices.Collect(all)
		if !slices.Equal(inner, want) {
			t.Errorf("within %v: %v", b, inner)
		}
	}
	wantFree(t, h, 136)
	if got := slices.Collect(all); !slices.Equal(got, []api.Block{free(112, 144)}) {
		t.Errorf("a going through that begins later has %v", got)
	}
}

// P3.4: blocks are told as they are when it begins.
func TestAllIsAsItWasWhenItBegan(t *testing.T) {
	h := made(t, 256)
	for i := range 4 {
		wantAlloc(t, h, 8, 120+16*i)
	}
	var got []api.Block
	for b := range h.All() {
		got = append(got, b)
		if !b.Free {
			wantFree(t, h, b.At+8)
		}
	}
	if !slices.Equal(got, []api.Block{used(112, 16), used(128, 16), used(144, 16), used(160, 16), free(176, 80)}) {
		t.Errorf("All has %v", got)
	}
	wantBlocks(t, h, free(112, 144))
}

// P3.4
func TestCopyGoesOnApart(t *testing.T) {
	h := made(t, 256)
	wantAlloc(t, h, 8, 120)
	wantAlloc(t, h, 8, 136)
	wantErr(t, "Set", h.Set(136, 5), api.OK)
	wantFree(t, h, 120)
	c := h.Copy()
	if c == h || c.Arena() == h.Arena() || !arena.Same(c.Arena(), h.Arena()) {
		t.Error("the copy is not over an arena of its own")
	}
	was := []api.Block{free(112, 16), used(128, 16), free(144, 112)}
	wantBlocks(t, c, was...)

	wantErr(t, "Set", h.Set(136, 6), api.OK)
	wantFree(t, h, 136)
	wantAlloc(t, h, 100, 120)
	wantBlocks(t, c, was...)
	if w, err := c.Get(136); w != 5 || err != api.OK {
		t.Errorf("the copy's word is %d, %v", w, err)
	}

	wantAlloc(t, c, 8, 120)
	wantAlloc(t, c, 8, 152)
	wantErr(t, "Set", c.Set(120, 9), api.OK)
	wantBlocks(t, h, used(112, 112), free(224, 32))
	if w, _ := h.Get(120); w == 9 {
		t.Error("the copy's word is the other's")
	}
	wantFree(t, c, 120, 136, 152)
	wantBlocks(t, c, free(112, 144))
	wantBlocks(t, h, used(112, 112), free(224, 32))
}

// P3.1 to P3.4: ErrNil is ahead of all.
func TestNoHeap(t *testing.T) {
	for _, h := range noHeaps() {
		for _, x := range append(append(wrongNumbers(), wrongOffsets()...), 1, 8, 120, 4096, api.MaxMemory) {
			alloc, err1 := h.Alloc(x)
			aligned, err2 := h.Aligned(x, x)
			realloc, err3 := h.Realloc(x, x)
			size, err4 := h.Size(x)
			word, err5 := h.Get(x)
			for _, err := range []api.Errno{err1, err2, err3, err4, err5, h.Free(x), h.Set(x, 1)} {
				wantErr(t, "of no heap", err, api.ErrNil)
			}
			if alloc != 0 || aligned != 0 || realloc != 0 || size != 0 || word != 0 {
				t.Errorf("no heap has something for %d", x)
			}
		}
		if h.Left() != 0 || h.Len() != 0 || h.Check() || h.Arena() != nil || h.Copy() != nil {
			t.Error("no heap has something")
		}
		for b := range h.All() {
			t.Errorf("no heap has the block %v", b)
		}
	}
}
