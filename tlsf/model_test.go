package tlsf_test

import (
	"math/rand"
	"slices"
	"testing"

	"metronome/api"
	"metronome/tlsf"
)

// model is a heap by the chapter's words alone: a list of blocks, and a list of free ones for each class.
type model struct {
	blocks []api.Block
	lists  map[int][]int
	words  map[int][]uint32
}

func newModel(size int) *model {
	m := &model{lists: map[int][]int{}, words: map[int][]uint32{}}
	m.blocks = []api.Block{{At: 112, Size: size - 112, Free: true}}
	m.put(0)
	return m
}

// greatestPower is the greatest power of two that is at most z.
func greatestPower(z int) (f, power int) {
	for power = 1; 2*power <= z; power *= 2 {
		f++
	}
	return f, power
}

func modelClass(z int) int {
	f, power := greatestPower(z)
	if 2*z >= 3*power {
		return 2*(f-4) + 1
	}
	return 2 * (f - 4)
}

func modelNeeded(n int) int {
	for n%8 != 0 {
		n++
	}
	return max(n+8, 16)
}

// put puts the block with that index into its list.
func (m *model) put(i int) {
	b := &m.blocks[i]
	b.Free = true
	class := modelClass(b.Size)
	m.lists[class] = append([]int{b.At}, m.lists[class]...)
}

// take takes the block with that index out of its list.
func (m *model) take(i int) {
	b := &m.blocks[i]
	b.Free = false
	class := modelClass(b.Size)
	m.lists[class] = slices.DeleteFunc(m.lists[class], func(at int) bool { return at == b.At })
}

func (m *model) index(at int) int {
	return slices.IndexFunc(m.blocks, func(b api.Block) bool { return b.At == at })
}

// piece is the index of the block whose piece begins at the offset, or -1.
func (m *model) piece(offset int) int {
	if i := m.index(offset - 8); i >= 0 && !m.blocks[i].Free {
		return i
	}
	return -1
}

func (m *model) find(z int) int {
	_, power := greatestPower(z)
	for class := modelClass(z + power/2 - 1); class < 64; class++ {
		if len(m.lists[class]) > 0 {
			i := m.index(m.lists[class][0])
			m.take(i)
			return i
		}
	}
	return -1
}

// split makes two blocks of one: the first one has that size.
func (m *model) split(i, size int) {
	b := m.blocks[i]
	m.blocks[i].Size = size
	m.blocks = slices.Insert(m.blocks, i+1, api.Block{At: b.At + size, Size: b.Size - size})
}

func (m *model) cut(i, size int) {
	if m.blocks[i].Size-size >= 16 {
		m.split(i, size)
		m.put(i + 1)
	}
}

// join makes one block of the block with that index and the one behind it.
func (m *model) join(i int) {
	m.blocks[i].Size += m.blocks[i+1].Size
	m.blocks = slices.Delete(m.blocks, i+1, i+2)
}

func (m *model) release(i int) {
	if i+1 < len(m.blocks) && m.blocks[i+1].Free {
		m.take(i + 1)
		m.join(i)
	}
	if i > 0 && m.blocks[i-1].Free {
		m.take(i - 1)
		m.join(i - 1)
		i--
	}
	m.put(i)
}

func (m *model) alloc(n int) (int, api.Errno) {
	if n < 1 || n > 65536 {
		return 0, api.ErrArg
	}
	i := m.find(modelNeeded(n))
	if i < 0 {
		return 0, api.ErrFull
	}
	m.cut(i, modelNeeded(n))
	return m.blocks[i].At + 8, api.OK
}

func (m *model) aligned(multiple, n int) (int, api.Errno) {
	if !slices.Contains([]int{8, 16, 32, 64, 128, 256, 512, 1024, 2048, 4096}, multiple) || n < 1 || n > 65536 {
		return 0, api.ErrArg
	}
	i := m.find(modelNeeded(n) + multiple + 16)
	if i < 0 {
		return 0, api.ErrFull
	}
	at := m.blocks[i].At
	offset := at + 8
	for offset%multiple != 0 || offset == at+16 {
		offset += 8
	}
	if offset > at+8 {
		m.split(i, offset-8-at)
		m.put(i)
		i++
	}
	m.cut(i, modelNeeded(n))
	return offset, api.OK
}

func (m *model) free(offset int) api.Errno {
	i := m.piece(offset)
	if i < 0 {
		return api.ErrNone
	}
	delete(m.words, offset)
	m.release(i)
	return api.OK
}

func (m *model) realloc(offset, n int) (int, api.Errno) {
	if n < 1 || n > 65536 {
		return 0, api.ErrArg
	}
	i := m.piece(offset)
	if i < 0 {
		return 0, api.ErrNone
	}
	need := modelNeeded(n)
	if m.blocks[i].Size < need && i+1 < len(m.blocks) && m.blocks[i+1].Free && m.blocks[i].Size+m.blocks[i+1].Size >= need {
		m.take(i + 1)
		m.join(i)
	}
	if m.blocks[i].Size >= need {
		if m.blocks[i].Size-need >= 16 {
			m.split(i, need)
			m.release(i + 1)
		}
		m.words[offset] = m.words[offset][:min(len(m.words[offset]), m.size(offset)/4)]
		return offset, api.OK
	}
	to, err := m.alloc(n)
	if err != api.OK {
		return 0, err
	}
	m.words[to] = m.words[offset]
	m.free(offset)
	return to, api.OK
}

// size is how many bytes the piece has.
func (m *model) size(offset int) int {
	return m.blocks[m.piece(offset)].Size - 8
}

// offsets are where pieces begin.
func (m *model) offsets() []int {
	var all []int
	for _, b := range m.blocks {
		if !b.Free {
			all = append(all, b.At+8)
		}
	}
	return all
}

func (m *model) left() int {
	left := 0
	for _, b := range m.blocks {
		if b.Free {
			left += b.Size - 8
		}
	}
	return left
}

// pair is a heap, and the model that should be as it is.
type pair struct {
	h     *tlsf.Heap
	m     *model
	rand  *rand.Rand
	count uint32
}

func newPair(t *testing.T, size int, seed int64) *pair {
	t.Helper()
	return &pair{h: made(t, size), m: newModel(size), rand: rand.New(rand.NewSource(seed))}
}

// fill gives all words of a piece that has none yet values that no other word has.
func (p *pair) fill(t *testing.T, offset int) {
	t.Helper()
	for i := len(p.m.words[offset]); i < p.m.size(offset)/4; i++ {
		p.count++
		wantErr(t, "Set", p.h.Set(offset+4*i, p.count), api.OK)
		p.m.words[offset] = append(p.m.words[offset], p.count)
	}
}

// offset is mostly a piece's, at times any.
func (p *pair) offset() int {
	all := p.m.offsets()
	if len(all) == 0 || p.rand.Intn(20) == 0 {
		return p.rand.Intn(p.h.Arena().Size()+64) - 32
	}
	return all[p.rand.Intn(len(all))]
}

// bytes are mostly few, at times up to what the arena has.
func (p *pair) bytes() int {
	if p.rand.Intn(8) == 0 {
		return p.rand.Intn(p.h.Arena().Size()+2) - 1
	}
	return p.rand.Intn(64) + 1
}

// play does one call with both.
func (p *pair) play(t *testing.T) {
	t.Helper()
	switch p.rand.Intn(9) {
	case 0, 1, 2:
		n := p.bytes()
		at, err := p.h.Alloc(n)
		p.came(t, "Alloc", at, err, func() (int, api.Errno) { return p.m.alloc(n) })
	case 3:
		multiple, n := 4<<p.rand.Intn(12), p.bytes()
		at, err := p.h.Aligned(multiple, n)
		p.came(t, "Aligned", at, err, func() (int, api.Errno) { return p.m.aligned(multiple, n) })
	case 4, 5:
		offset, n := p.offset(), p.bytes()
		at, err := p.h.Realloc(offset, n)
		p.came(t, "Realloc", at, err, func() (int, api.Errno) { return p.m.realloc(offset, n) })
	default:
		offset := p.offset()
		wantErr(t, "Free", p.h.Free(offset), p.m.free(offset))
	}
}

// came holds what a call answered against what the model says, and fills the piece.
func (p *pair) came(t *testing.T, what string, at int, err api.Errno, told func() (int, api.Errno)) {
	t.Helper()
	wantAt, wantErrno := told()
	if at != wantAt || err != wantErrno {
		t.Fatalf("%s is %d, %v, want %d, %v", what, at, err, wantAt, wantErrno)
	}
	if err == api.OK {
		p.wantWords(t, at)
		p.fill(t, at)
	}
}

func (p *pair) wantWords(t *testing.T, offset int) {
	t.Helper()
	for i, want := range p.m.words[offset] {
		if got, err := p.h.Get(offset + 4*i); got != want || err != api.OK {
			t.Fatalf("the word at %d of the piece at %d is %d, %v, want %d", 4*i, offset, got, err, want)
		}
	}
}

// wantSame holds all that can be seen of the heap against the model.
func (p *pair) wantSame(t *testing.T) {
	t.Helper()
	wantBlocks(t, p.h, p.m.blocks...)
	if !p.h.Check() || p.h.Left() != p.m.left() || p.h.Len() != len(p.m.offsets()) {
		t.Fatalf("Check %v, Left %d, Len %d, want %d, %d", p.h.Check(), p.h.Left(), p.h.Len(), p.m.left(), len(p.m.offsets()))
	}
	for _, at := range p.m.offsets() {
		wantSize(t, p.h, at, p.m.size(at))
		p.wantWords(t, at)
	}
}

// P3.1 to P3.5
func TestAgainstTheModel(t *testing.T) {
	for seed, size := range []int{256, 256, 264, 512, 1000, 2048, 4096, 8192, 65536} {
		p := newPair(t, size, int64(seed))
		for i := range 4000 {
			p.play(t)
			if size <= 4096 || i%100 == 0 {
				p.wantSame(t)
			}
			if t.Failed() {
				t.Fatalf("of %d bytes, behind %d calls", size, i)
			}
		}
		for _, at := range p.m.offsets() {
			wantErr(t, "Free", p.h.Free(at), api.OK)
		}
		wantBlocks(t, p.h, api.Block{At: 112, Size: size - 112, Free: true})
	}
}
