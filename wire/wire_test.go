package wire_test

import (
	"bytes"
	"math"
	"strings"
	"testing"

	"metronome/api"
	"metronome/wire"
)

// numbers are those at which a form grows by a byte, with their neighbours, and the ends.
func numbers() []uint64 {
	l := []uint64{0, 1, 2, 63, 64, 300, math.MaxInt64, 1 << 63, math.MaxUint64 - 1, math.MaxUint64}
	for k := 7; k < 64; k += 7 {
		l = append(l, 1<<k-1, 1<<k, 1<<k+1)
	}
	return l
}

// signeds are the least, the greatest, and those at which a form grows.
func signeds() []int64 {
	l := []int64{0, 1, -1, 2, -2, math.MaxInt64, math.MaxInt64 - 1, math.MinInt64, math.MinInt64 + 1}
	for k := 6; k < 63; k += 7 {
		n := int64(1) << k
		l = append(l, n-1, n, n+1, -n-1, -n, -n+1)
	}
	return l
}

// texts are of the lengths at which the form of how many grows.
func texts() [][]byte {
	l := [][]byte{nil, {0}, {0xff}, []byte("ab"), {0x80, 0x00}}
	for _, n := range []int{126, 127, 128, 129, 16383, 16384} {
		l = append(l, bytes.Repeat([]byte{0x81}, n))
	}
	return l
}

func wantForm(t *testing.T, what string, got []byte, want string) {
	t.Helper()
	if string(got) != want {
		t.Errorf("%s is % x, want % x", what, got, want)
	}
}

// P1.1
func TestNumberIsTheForm(t *testing.T) {
	wantForm(t, "0", wire.Number(0), "\x00")
	wantForm(t, "1", wire.Number(1), "\x01")
	wantForm(t, "127", wire.Number(127), "\x7f")
	wantForm(t, "128", wire.Number(128), "\x80\x01")
	wantForm(t, "255", wire.Number(255), "\xff\x01")
	wantForm(t, "256", wire.Number(256), "\x80\x02")
	wantForm(t, "300", wire.Number(300), "\xac\x02")
	wantForm(t, "16383", wire.Number(16383), "\xff\x7f")
	wantForm(t, "16384", wire.Number(16384), "\x80\x80\x01")
	wantForm(t, "2^63", wire.Number(1<<63), strings.Repeat("\x80", 9)+"\x01")
	wantForm(t, "2^64 - 1", wire.Number(math.MaxUint64), strings.Repeat("\xff", 9)+"\x01")
}

// P1.1: what the chapter's section 'Words' says of a form's bytes.
func TestNumberHasTheDigits(t *testing.T) {
	for _, n := range numbers() {
		form := wire.Number(n)
		if len(form) == 0 || len(form) > 10 {
			t.Errorf("the form of %d has %d bytes", n, len(form))
			continue
		}
		last := len(form) - 1
		rest := n
		for i, b := range form {
			if (b >= 128) != (i < last) || uint64(b%128) != rest%128 {
				t.Errorf("byte %d of the form of %d is %x", i, n, b)
			}
			rest /= 128
		}
		if rest != 0 || form[last] == 0 && n != 0 {
			t.Errorf("the form of %d is % x", n, form)
		}
	}
}

// P1.1
func TestSignedIsTheForm(t *testing.T) {
	wantForm(t, "0", wire.Signed(0), "\x00")
	wantForm(t, "-1", wire.Signed(-1), "\x01")
	wantForm(t, "1", wire.Signed(1), "\x02")
	wantForm(t, "63", wire.Signed(63), "\x7e")
	wantForm(t, "-64", wire.Signed(-64), "\x7f")
	wantForm(t, "64", wire.Signed(64), "\x80\x01")
	wantForm(t, "-65", wire.Signed(-65), "\x81\x01")
	wantForm(t, "the greatest", wire.Signed(math.MaxInt64), "\xfe"+strings.Repeat("\xff", 8)+"\x01")
	wantForm(t, "the least", wire.Signed(math.MinInt64), strings.Repeat("\xff", 9)+"\x01")
}

// P1.1
func TestFlagIsTheForm(t *testing.T) {
	wantForm(t, "false", wire.Flag(false), "\x00")
	wantForm(t, "true", wire.Flag(true), "\x01")
}

// P1.1
func TestBytesIsTheForm(t *testing.T) {
	wantForm(t, "nil", wire.Bytes(nil), "\x00")
	wantForm(t, "none", wire.Bytes([]byte{}), "\x00")
	wantForm(t, "a byte 0", wire.Bytes([]byte{0}), "\x01\x00")
	wantForm(t, "ab", wire.Bytes([]byte("ab")), "\x02ab")
	wantForm(t, "127 bytes", wire.Bytes(bytes.Repeat([]byte("x"), 127)), "\x7f"+strings.Repeat("x", 127))
	wantForm(t, "128 bytes", wire.Bytes(bytes.Repeat([]byte("x"), 128)), "\x80\x01"+strings.Repeat("x", 128))
}

// P1.1
func TestJoinIsAllBytes(t *testing.T) {
	wantForm(t, "none", wire.Join(), "")
	wantForm(t, "nil", wire.Join(nil, nil), "")
	wantForm(t, "one", wire.Join([]byte("ab")), "ab")
	wantForm(t, "several", wire.Join([]byte("b"), nil, []byte("ac"), []byte{}, []byte("b")), "bacb")
	wantForm(t, "a list", wire.Join([][]byte{{2}, {1}, {0}}...), "\x02\x01\x00")
}

// P1.1
func TestPutIsTheForm(t *testing.T) {
	b, err := wire.Put([]uint64{5, 128, 0}, wire.Number)
	wantForm(t, "numbers", b, "\x03\x05\x80\x01\x00")
	wantErr(t, "numbers", err, api.OK)
	b, err = wire.Put([]int64{1, -1}, wire.Signed)
	wantForm(t, "signed", b, "\x02\x02\x01")
	wantErr(t, "signed", err, api.OK)
	b, err = wire.Put([]bool{true, false, true}, wire.Flag)
	wantForm(t, "flags", b, "\x03\x01\x00\x01")
	wantErr(t, "flags", err, api.OK)
	b, err = wire.Put([][]byte{nil, []byte("ab")}, wire.Bytes)
	wantForm(t, "texts", b, "\x02\x00\x02ab")
	wantErr(t, "texts", err, api.OK)
	b, err = wire.Put(nil, wire.Flag)
	wantForm(t, "nil", b, "\x00")
	wantErr(t, "nil", err, api.OK)
	b, err = wire.Put([]bool{}, wire.Flag)
	wantForm(t, "none", b, "\x00")
	wantErr(t, "none", err, api.OK)
	b, err = wire.Put(make([]bool, 128), wire.Flag)
	wantForm(t, "128 flags", b, "\x80\x01"+strings.Repeat("\x00", 128))
	wantErr(t, "128 flags", err, api.OK)
}

// P1.1: what form answers is put as it is, whatever it is.
func TestPutTakesWhatFormAnswers(t *testing.T) {
	b, err := wire.Put([]int{1, 2}, func(int) []byte { return nil })
	wantForm(t, "nothing of each", b, "\x02")
	wantErr(t, "nothing of each", err, api.OK)

	same := make([]byte, 1)
	b, err = wire.Put([]byte{7, 8, 9}, func(x byte) []byte {
		same[0] = x
		return same
	})
	wantForm(t, "one piece of memory, used again", b, "\x03\x07\x08\x09")
	wantErr(t, "one piece of memory, used again", err, api.OK)

	type pair struct {
		a uint64
		b bool
	}
	b, err = wire.Put([]pair{{300, true}, {1, false}}, func(p pair) []byte { return wire.Join(wire.Number(p.a), wire.Flag(p.b)) })
	wantForm(t, "pairs", b, "\x02\xac\x02\x01\x01\x00")
	wantErr(t, "pairs", err, api.OK)
}

// P1.1
func TestPutWithoutFunction(t *testing.T) {
	for _, l := range [][]int64{nil, {}, {1, 2}} {
		b, err := wire.Put(l, nil)
		wantErr(t, "Put without a function", err, api.ErrNil)
		if len(b) != 0 {
			t.Errorf("beside the error there is % x", b)
		}
	}
}

// DOC.md, 'Rules for all layers': what is answered is new memory; what is handed in is not changed.
func TestFormsAreNewMemory(t *testing.T) {
	in := append(make([]byte, 0, 64), "abcd"...)
	whole := in[:64]
	whole[4] = 'z'
	joined := wire.Join(in[:2], in[2:4])
	alone := wire.Join(in)
	form := wire.Bytes(in)
	if string(whole[:5]) != "abcdz" {
		t.Errorf("what was handed in is %q now", whole[:5])
	}
	in[0] = 'X'
	wantForm(t, "Join of two", joined, "abcd")
	wantForm(t, "Join of one", alone, "abcd")
	wantForm(t, "Bytes", form, "\x04abcd")

	for name, make := range map[string]func() []byte{
		"Number": func() []byte { return wire.Number(300) },
		"Signed": func() []byte { return wire.Signed(-300) },
		"Flag":   func() []byte { return wire.Flag(true) },
	} {
		first := make()
		want := string(first)
		first[0] ^= 0xff
		wantForm(t, name+" for the second time", make(), want)
	}
}

func wantErr(t *testing.T, what string, got, want api.Errno) {
	t.Helper()
	if got != want {
		t.Errorf("%s: %v, want %v", what, got, want)
	}
}
