package wire_test

import (
	"bytes"
	"cmp"
	"math"
	"slices"
	"testing"

	"metronome/api"
	"metronome/wire"
)

// back holds that each of l is read as it was written, alone, with bytes behind it, and as a list (P1.5, P0.11).
func back[T any](t *testing.T, l []T, form func(T) []byte, read func(*wire.Reader) (T, api.Errno), same func(T, T) bool) {
	t.Helper()
	for _, x := range l {
		for _, behind := range []string{"", "\x00", "\x80", "\xff\x01"} {
			r := wire.Open(wire.Join(form(x), []byte(behind)))
			got, err := read(r)
			if !same(got, x) || err != api.OK || r.Left() != len(behind) {
				t.Errorf("%v is read as %v, %v, left %d", x, got, err, r.Left())
			}
		}
	}
	b, err := wire.Put(l, form)
	wantErr(t, "Put", err, api.OK)
	r := wire.Open(b)
	got, err := wire.Take(r, len(l), read)
	if !slices.EqualFunc(got, l, same) || err != api.OK || r.End() != api.OK {
		t.Errorf("the list %v is read as %v, %v", l, got, err)
	}
	_, err = wire.Take(wire.Open(b), len(l)-1, read)
	wantErr(t, "one more than most", err, api.ErrLong)
	forms := make([][]byte, len(l))
	for i, x := range l {
		forms[i] = form(x)
	}
	noBeginnings(t, forms)
}

// noBeginnings holds that no form is the beginning of another one (P1.5).
func noBeginnings(t *testing.T, forms [][]byte) {
	t.Helper()
	for i, f := range forms {
		for j, g := range forms {
			if i != j && bytes.HasPrefix(g, f) {
				t.Errorf("% x is the beginning of % x", f, g)
			}
		}
	}
}

func equal[T comparable](a, b T) bool { return a == b }

func anyBytes(r *wire.Reader) ([]byte, api.Errno) { return r.Bytes(math.MaxInt) }

func distinct[T cmp.Ordered](l []T) []T {
	slices.Sort(l)
	return slices.Compact(l)
}

// P1.5, P0.11
func TestNumbersBack(t *testing.T) {
	l := distinct(append(numbers(), many()...))
	back(t, l, wire.Number, (*wire.Reader).Number, equal)
}

// P1.5, P0.11
func TestSignedsBack(t *testing.T) {
	l := signeds()
	for _, n := range many() {
		l = append(l, int64(n))
	}
	back(t, distinct(l), wire.Signed, (*wire.Reader).Signed, equal)
}

// P1.5, P0.11
func TestFlagsBack(t *testing.T) {
	back(t, []bool{true, false}, wire.Flag, (*wire.Reader).Flag, equal)
}

// P1.5, P0.11
func TestTextsBack(t *testing.T) {
	back(t, texts(), wire.Bytes, anyBytes, bytes.Equal)
}

// P1.5, P0.11: lists are things of a kind, too.
func TestListsBack(t *testing.T) {
	lists := [][]uint64{nil, {0}, {0, 0}, {1}, {128}, {0, 128}, {128, 0}, numbers()}
	form := func(l []uint64) []byte {
		b, _ := wire.Put(l, wire.Number)
		return b
	}
	read := func(r *wire.Reader) ([]uint64, api.Errno) { return wire.Take(r, math.MaxInt, (*wire.Reader).Number) }
	back(t, lists, form, read, slices.Equal)
}

// many are numbers of all lengths, made by a fixed rule.
func many() []uint64 {
	var l []uint64
	n := uint64(1)
	for i := range 256 {
		n = n*6364136223846793005 + 1442695040888963407
		l = append(l, n>>(i%64))
	}
	return l
}

// again holds that what is read of b, if anything, is written as the bytes that were read (P1.5), and else the reader stays (P1.3).
func again[T any](t *testing.T, b []byte, read func(*wire.Reader) (T, api.Errno), form func(T) []byte) {
	t.Helper()
	r := wire.Open(b)
	got, err := read(r)
	switch {
	case err == api.OK:
		if used := b[:len(b)-r.Left()]; !bytes.Equal(form(got), used) {
			t.Errorf("% x is read as %v, which is written as % x", used, got, form(got))
		}
	case r.Left() != len(b):
		t.Errorf("% x is read with %v, left %d", b, err, r.Left())
	}
}

func againAll(t *testing.T, b []byte) {
	t.Helper()
	again(t, b, (*wire.Reader).Number, wire.Number)
	again(t, b, (*wire.Reader).Signed, wire.Signed)
	again(t, b, (*wire.Reader).Flag, wire.Flag)
	again(t, b, anyBytes, wire.Bytes)
	signeds := func(r *wire.Reader) ([]int64, api.Errno) { return wire.Take(r, math.MaxInt, (*wire.Reader).Signed) }
	again(t, b, signeds, func(l []int64) []byte {
		form, _ := wire.Put(l, wire.Signed)
		return form
	})
}

// P1.5: all of at most two bytes, and what stands at the edges of longer ones.
func TestBytesBack(t *testing.T) {
	againAll(t, nil)
	for a := range 256 {
		againAll(t, []byte{byte(a)})
		for b := range 256 {
			againAll(t, []byte{byte(a), byte(b)})
		}
	}
	for length := 3; length <= 12; length++ {
		for _, first := range []byte{0x80, 0x81, 0xff} {
			for last := range 256 {
				b := bytes.Repeat([]byte{first}, length)
				b[length-1] = byte(last)
				againAll(t, b)
			}
		}
	}
}
