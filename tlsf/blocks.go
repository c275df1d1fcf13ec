package tlsf

import "math/bits"

// The arena's words. The heap's own bytes have the word of bits, then each class's first block, then noughts.
// A block's own bytes have its size (with freeMark, if it is free), then where the block ahead of it begins; a free
// one has the next and the prior one of its list behind that. 0 stands for no block: none begins there.
const (
	wordBytes = 4
	bitsAt    = 0
	firstsAt  = bitsAt + wordBytes
	firstsEnd = firstsAt + classes*wordBytes
	start     = 112

	sizeWord  = 0
	aheadWord = sizeWord + wordBytes
	own       = aheadWord + wordBytes
	nextWord  = own
	priorWord = nextWord + wordBytes
	least     = priorWord + wordBytes

	step = 8
	// freeMark is below each step, and so never part of a size.
	freeMark = 1

	// leastPower is the power of two that the least block has.
	leastPower = 4
	classes    = 24
)

// block is one of the blocks that stand in the arena.
type block struct{ at, size int }

func (b block) end() int { return b.at + b.size }

func (b block) piece() int { return b.at + own }

// needed is the size of a block whose piece has n bytes.
func needed(n int) int {
	return max(roundUp(n, step)+own, least)
}

// roundUp is for powers of two.
func roundUp(n, multiple int) int {
	return (n + multiple - 1) &^ (multiple - 1)
}

// alignedFrom is where in a block at that offset one begins whose piece stands at a multiple: at its beginning, or so
// far behind it that there is room for a block ahead.
func alignedFrom(at, multiple int) int {
	if (at+own)%multiple == 0 {
		return at
	}
	return roundUp(at+least+own, multiple) - own
}

// power is the f of 2^f, the greatest power of two that is at most size.
func power(size int) int {
	return bits.Len(uint(size)) - 1
}

// classOf is the class of a size, which is at least that of the least block.
func classOf(size int) int {
	f := power(size)
	half := size >> (f - 1) & 1
	return 2*(f-leastPower) + half
}

// classFor is the least class all of whose blocks have that size.
func classFor(size int) int {
	return classOf(size + 1<<(power(size)-1) - 1)
}

func firstAt(class int) int {
	return firstsAt + class*wordBytes
}

// word is 0 where the arena has none: words that were changed from outside may lead anywhere.
func (h *Heap) word(at int) int {
	w, _ := h.arena.Get(at)
	return int(w)
}

func (h *Heap) setWord(at, word int) {
	h.arena.Set(at, uint32(word))
}

// freeAt is the free block that begins there, if one does. What can be none by its place or size, or is a piece's, since
// words were changed from outside, is none.
func (h *Heap) freeAt(at int) (block, bool) {
	word := h.word(at + sizeWord)
	b := block{at, word - freeMark}
	_, given := h.pieces[b.piece()]
	if given || word%step != freeMark || !h.mayBe(b) {
		return block{}, false
	}
	return b, true
}

func (h *Heap) mayBe(b block) bool {
	return b.at >= start && b.at%step == 0 && b.size >= least && b.size <= h.arena.Size()-b.at
}

// mark writes the block's size, and to the block behind it where it begins. Its own word of the block ahead is written
// when that one is marked.
func (h *Heap) mark(b block, flag int) {
	h.setWord(b.at+sizeWord, b.size|flag)
	if b.end() < h.arena.Size() {
		h.setWord(b.end()+aheadWord, b.at)
	}
}

// find takes the first block that is sure to have that size out of its list.
func (h *Heap) find(size int) (block, bool) {
	from := classFor(size)
	set := uint32(h.word(bitsAt)) >> from << from
	class := bits.TrailingZeros32(set)
	if class >= classes {
		return block{}, false
	}
	b, ok := h.freeAt(h.word(firstAt(class)))
	if !ok || classOf(b.size) != class {
		return block{}, false
	}
	h.takeOut(b)
	return b, true
}

// give makes a piece of a block that is in no list, cut to that size: the piece's offset.
func (h *Heap) give(b block, size int) int {
	rest := block{b.at + size, b.size - size}
	if rest.size >= least {
		b.size = size
	}
	h.mark(b, 0)
	h.pieces[b.piece()] = b.size
	if rest.size >= least {
		h.free(rest)
	}
	return b.piece()
}

// free makes one free block of a block that is in no list and its free neighbours.
func (h *Heap) free(b block) {
	if behind, ok := h.freeAt(b.end()); ok {
		h.takeOut(behind)
		b.size += behind.size
	}
	if ahead, ok := h.freeAt(h.word(b.at + aheadWord)); ok && ahead.end() == b.at {
		h.takeOut(ahead)
		b = block{ahead.at, ahead.size + b.size}
	}
	h.putIn(b)
}

// putIn puts a free block into its list: in front.
func (h *Heap) putIn(b block) {
	h.mark(b, freeMark)
	h.change(classOf(b.size), func(first int) int {
		h.setWord(b.at+nextWord, first)
		h.setWord(b.at+priorWord, 0)
		if first != 0 {
			h.setWord(first+priorWord, b.at)
		}
		return b.at
	})
}

// takeOut takes a free block out of its list.
func (h *Heap) takeOut(b block) {
	h.change(classOf(b.size), func(first int) int {
		next, prior := h.word(b.at+nextWord), h.word(b.at+priorWord)
		if next != 0 {
			h.setWord(next+priorWord, prior)
		}
		if prior == 0 {
			return next
		}
		h.setWord(prior+nextWord, next)
		return first
	})
}

// change makes a list's first block what is told of the one that it was, and the class's bit as it should be then.
func (h *Heap) change(class int, told func(first int) int) {
	first := told(h.word(firstAt(class)))
	h.setWord(firstAt(class), first)
	set := h.word(bitsAt) &^ (1 << class)
	if first != 0 {
		set |= 1 << class
	}
	h.setWord(bitsAt, set)
}
