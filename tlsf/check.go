package tlsf

// Check is whether the arena's words say of blocks, lists and bits just what they should.
func (h *Heap) Check() bool {
	if h.isZero() {
		return false
	}
	free := map[int]int{}
	ahead := 0
	for b := range h.All() {
		flag := 0
		if b.Free {
			flag = freeMark
			free[b.At] = classOf(b.Size)
		}
		if h.word(b.At+sizeWord) != b.Size|flag || h.word(b.At+aheadWord) != ahead {
			return false
		}
		ahead = b.At
	}
	return h.checkLists(free) && h.checkRest()
}

// checkLists is whether each of the free blocks stands once in the list of its class, and nothing else does.
func (h *Heap) checkLists(free map[int]int) bool {
	set := 0
	for class := range classes {
		if h.word(firstAt(class)) != 0 {
			set |= 1 << class
		}
		if !h.checkList(class, free) {
			return false
		}
	}
	return len(free) == 0 && h.word(bitsAt) == set
}

// checkList takes the list's blocks out of the free ones. It ends with them: one that comes again is no longer there.
func (h *Heap) checkList(class int, free map[int]int) bool {
	prior, at := 0, h.word(firstAt(class))
list:
	for at != 0 {
		of, ok := free[at]
		if !ok || of != class || h.word(at+priorWord) != prior {
			break list
		}
		delete(free, at)
		prior, at = at, h.word(at+nextWord)
	}
	return at == 0
}

// checkRest is whether those of the heap's own words that it has no use for are as it left them.
func (h *Heap) checkRest() bool {
	for at := firstsEnd; at < start; at += wordBytes {
		if h.word(at) != 0 {
			return false
		}
	}
	return true
}
