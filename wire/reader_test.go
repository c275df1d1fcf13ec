package wire_test

import (
	"bytes"
	"math"
	"slices"
	"strings"
	"testing"

	"metronome/api"
	"metronome/wire"
)

const nines = "\xff\xff\xff\xff\xff\xff\xff\xff\xff"

// noNumbers are bytes at whose beginning no form of a number stands.
func noNumbers() []string {
	return []string{
		"", "\x80", "\xff\xff", nines, strings.Repeat("\x80", 9), // cut short
		"\x80\x00", "\xff\x00", "\x80\x80\x00", "\x81\x80\x00\x05", nines + "\x00", // a last digit 0
		nines + "\x02", nines + "\x7f", // above 2^64 - 1
		nines + "\xff", nines + "\x80", nines + "\x81", // cut short, with too many
		nines + "\x81\x01", nines + "\x80\x01", nines + "\xff\x01", nines + "\x80\x00", // more than ten
		strings.Repeat("\x80", 10) + "\x01", strings.Repeat("\x80", 20) + "\x01",
	}
}

func wantLeft(t *testing.T, what string, r *wire.Reader, want int) {
	t.Helper()
	if got := r.Left(); got != want {
		t.Errorf("%s: %d bytes are left, want %d", what, got, want)
	}
}

// P1.2
func TestOpenKeepsTheBytesAsTheyWere(t *testing.T) {
	b := []byte{1, 2, 3}
	r := wire.Open(b)
	b[0], b[1], b[2] = 9, 9, 9
	for want := uint64(1); want <= 3; want++ {
		wantLeft(t, "ahead of a number", r, 4-int(want))
		if n, err := r.Number(); n != want || err != api.OK {
			t.Errorf("number %d, %v, want %d", n, err, want)
		}
	}
	wantErr(t, "End", r.End(), api.OK)
	if !bytes.Equal(b, []byte{9, 9, 9}) {
		t.Errorf("what was handed in is % x now", b)
	}
}

// P1.2
func TestOpenTwice(t *testing.T) {
	b := []byte{5, 6}
	first, second := wire.Open(b), wire.Open(b)
	if n, err := first.Number(); n != 5 || err != api.OK {
		t.Errorf("number %d, %v, want 5", n, err)
	}
	wantLeft(t, "the first reader", first, 1)
	wantLeft(t, "the second reader", second, 2)
}

// P1.2
func TestLeftAndEnd(t *testing.T) {
	for _, s := range []string{"", "\x00", "\x80", "\xff\xff\xff"} {
		r := wire.Open([]byte(s))
		wantLeft(t, "Open", r, len(s))
		want := api.ErrBytes
		if s == "" {
			want = api.OK
		}
		wantErr(t, "End", r.End(), want)
		wantLeft(t, "End", r, len(s))
	}
	r := wire.Open(nil)
	if r == nil {
		t.Fatal("a reader of nothing is nil")
	}
	wantLeft(t, "of nil bytes", r, 0)
	wantErr(t, "End of nil bytes", r.End(), api.OK)
}

// P1.2, P1.3, P1.4: a nil reader and a zero one.
func TestNoReader(t *testing.T) {
	for _, r := range []*wire.Reader{nil, {}, new(wire.Reader)} {
		wantLeft(t, "no reader", r, 0)
		wantErr(t, "End", r.End(), api.ErrNil)
		_, err := r.Number()
		wantErr(t, "Number", err, api.ErrNil)
		_, err = r.Signed()
		wantErr(t, "Signed", err, api.ErrNil)
		_, err = r.Flag()
		wantErr(t, "Flag", err, api.ErrNil)
		for _, most := range []int{-1, 0, 9} {
			b, err := r.Bytes(most)
			wantErr(t, "Bytes", err, api.ErrNil)
			l, err2 := wire.Take(r, most, (*wire.Reader).Number)
			wantErr(t, "Take", err2, api.ErrNil)
			if len(b) != 0 || len(l) != 0 {
				t.Errorf("beside the error there are %v, %v", b, l)
			}
		}
		wantErr(t, "End, behind all", r.End(), api.ErrNil)
	}
}

// P1.3
func TestNumberReads(t *testing.T) {
	for s, want := range map[string]uint64{
		"\x00": 0, "\x01": 1, "\x7f": 127, "\x80\x01": 128, "\xac\x02": 300, "\xff\x7f": 16383,
		nines + "\x01": math.MaxUint64, strings.Repeat("\x80", 9) + "\x01": 1 << 63, strings.Repeat("\xff", 8) + "\x7f": 1<<63 - 1,
	} {
		r := wire.Open([]byte(s + "\x00\xff"))
		if n, err := r.Number(); n != want || err != api.OK {
			t.Errorf("Number of % x is %d, %v, want %d", s, n, err, want)
		}
		wantLeft(t, "behind a number", r, 2)
	}
}

// P1.3
func TestSignedReads(t *testing.T) {
	for s, want := range map[string]int64{
		"\x00": 0, "\x01": -1, "\x02": 1, "\x7e": 63, "\x7f": -64, "\x80\x01": 64,
		"\xfe" + nines[1:] + "\x01": math.MaxInt64, nines + "\x01": math.MinInt64,
	} {
		r := wire.Open([]byte(s + "\x00\xff"))
		if n, err := r.Signed(); n != want || err != api.OK {
			t.Errorf("Signed of % x is %d, %v, want %d", s, n, err, want)
		}
		wantLeft(t, "behind a signed number", r, 2)
	}
}

// P1.3: a form that is cut short, has a last digit 0, has more than ten bytes, or is above 2^64 - 1; the reader stays.
func TestNoNumber(t *testing.T) {
	for _, s := range noNumbers() {
		r := wire.Open([]byte("\x07" + s))
		if n, err := r.Number(); n != 7 || err != api.OK {
			t.Fatalf("the first number is %d, %v", n, err)
		}
		n, err := r.Number()
		wantErr(t, "Number", err, api.ErrBytes)
		wantLeft(t, "Number", r, len(s))
		m, err := r.Signed()
		wantErr(t, "Signed", err, api.ErrBytes)
		wantLeft(t, "Signed", r, len(s))
		b, err := r.Bytes(math.MaxInt)
		wantErr(t, "Bytes", err, api.ErrBytes)
		wantLeft(t, "Bytes", r, len(s))
		l, err := wire.Take(r, 0, (*wire.Reader).Flag)
		wantErr(t, "Take", err, api.ErrBytes)
		wantLeft(t, "Take", r, len(s))
		if n != 0 || m != 0 || len(b) != 0 || len(l) != 0 {
			t.Errorf("beside errors there are %d, %d, %v, %v", n, m, b, l)
		}
	}
}

// P1.3
func TestFlagReads(t *testing.T) {
	for b := range 256 {
		r := wire.Open([]byte{byte(b), 1})
		is, err := r.Flag()
		if b > 1 {
			wantErr(t, "Flag of what is none", err, api.ErrBytes)
			wantLeft(t, "Flag of what is none", r, 2)
		} else {
			wantErr(t, "Flag", err, api.OK)
			wantLeft(t, "Flag", r, 1)
		}
		if is != (b == 1) {
			t.Errorf("Flag of %d is %v", b, is)
		}
	}
	r := wire.Open(nil)
	is, err := r.Flag()
	wantErr(t, "Flag of nothing", err, api.ErrBytes)
	if is {
		t.Error("Flag of nothing is true")
	}
}

// P1.3: errors in their order, as many as most, and one more; the reader stays beside each.
func TestBytesReads(t *testing.T) {
	for i, x := range []struct {
		in   string
		most int
		want string
		err  api.Errno
		left int
	}{
		{"\x00", 0, "", api.OK, 0},
		{"\x00ab", 0, "", api.OK, 2},
		{"\x02ab", 2, "ab", api.OK, 0},
		{"\x02abc", 3, "ab", api.OK, 1},
		{"\x02abc", math.MaxInt, "ab", api.OK, 1},
		{"\x02ab", 1, "", api.ErrLong, 3},
		{"\x01a", 0, "", api.ErrLong, 2},
		{"\x03a", 2, "", api.ErrLong, 2}, // ErrLong is ahead of too few
		{"\x02a", 2, "", api.ErrBytes, 2},
		{"\x02", 2, "", api.ErrBytes, 1},
		{"", 0, "", api.ErrBytes, 0},
		{"\x80\x00", 0, "", api.ErrBytes, 2}, // the number's error is ahead of ErrLong
		{"\x02ab", -1, "", api.ErrArg, 3},
		{"\x00", math.MinInt, "", api.ErrArg, 1},
		{"", -1, "", api.ErrArg, 0}, // ErrArg is ahead of the number's error
		{nines + "\x01a", math.MaxInt, "", api.ErrLong, 11},
		{nines[:8] + "\x7fa", math.MaxInt, "", api.ErrBytes, 10},
	} {
		r := wire.Open([]byte(x.in))
		b, err := r.Bytes(x.most)
		if string(b) != x.want || err != x.err || r.Left() != x.left {
			t.Errorf("%d: Bytes(%d) of % x is %q, %v, left %d", i, x.most, x.in, b, err, r.Left())
		}
	}
}

// P1.3: how many may be more than one byte's worth.
func TestBytesReadsMany(t *testing.T) {
	form := "\x80\x01" + strings.Repeat("x", 128)
	r := wire.Open([]byte(form))
	_, err := r.Bytes(127)
	wantErr(t, "most 127", err, api.ErrLong)
	wantLeft(t, "most 127", r, 130)
	b, err := r.Bytes(128)
	wantErr(t, "most 128", err, api.OK)
	if string(b) != form[2:] {
		t.Errorf("Bytes is %q", b)
	}
	wantErr(t, "End", r.End(), api.OK)
}

// DOC.md, 'Rules for all layers': what is answered is the caller's, in new memory.
func TestBytesAreNewMemory(t *testing.T) {
	r := wire.Open([]byte("\x02ab\x02cd"))
	again := *r
	first, _ := r.Bytes(2)
	first[0] = 'X'
	_ = append(first, "YYYY"...)
	if second, err := r.Bytes(2); string(second) != "cd" || err != api.OK {
		t.Errorf("the second is %q, %v", second, err)
	}
	if b, err := again.Bytes(2); string(b) != "ab" || err != api.OK {
		t.Errorf("read again it is %q, %v", b, err)
	}
}

// P1.4
func TestTakeReads(t *testing.T) {
	for i, x := range []struct {
		in   string
		most int
		want []uint64
		err  api.Errno
		left int
	}{
		{"\x02\x05\x80\x01", 9, []uint64{5, 128}, api.OK, 0},
		{"\x02\x05\x80\x01\x07", 2, []uint64{5, 128}, api.OK, 1},
		{"\x00\x05", 0, nil, api.OK, 1},
		{"\x02\x05\x80\x01", 1, nil, api.ErrLong, 4},
		{"\x01\x05", 0, nil, api.ErrLong, 2},
		{"\x03\x80", 2, nil, api.ErrLong, 2}, // ErrLong is ahead of what one answers
		{"\x03\x05\x06", 3, nil, api.ErrBytes, 3},
		{"\x02\x05\x80\x00", 2, nil, api.ErrBytes, 4},
		{"", 2, nil, api.ErrBytes, 0},
		{"\x80\x00", 0, nil, api.ErrBytes, 2},
		{"\x02\x05\x80\x01", -1, nil, api.ErrArg, 4},
		{"", math.MinInt, nil, api.ErrArg, 0},
		{nines + "\x01\x05", math.MaxInt, nil, api.ErrLong, 11},
		{nines[:8] + "\x7f\x05", math.MaxInt, nil, api.ErrBytes, 10}, // far more are announced than are there
	} {
		r := wire.Open([]byte(x.in))
		l, err := wire.Take(r, x.most, (*wire.Reader).Number)
		if !slices.Equal(l, x.want) || err != x.err || r.Left() != x.left {
			t.Errorf("%d: Take(%d) of % x is %v, %v, left %d", i, x.most, x.in, l, err, r.Left())
		}
	}
}

// P1.4
func TestTakeWithoutFunction(t *testing.T) {
	for _, s := range []string{"", "\x00", "\x01\x05", "\x80\x00"} {
		for _, most := range []int{-1, 0, 9} {
			r := wire.Open([]byte(s))
			l, err := wire.Take[uint64](r, most, nil)
			wantErr(t, "Take", err, api.ErrNil)
			wantLeft(t, "Take", r, len(s))
			if len(l) != 0 {
				t.Errorf("beside the error there are %v", l)
			}
		}
	}
}

// P1.4: one is called so many times, with this reader.
func TestTakeCallsOne(t *testing.T) {
	r := wire.Open([]byte("\x80\x01rest"))
	times := 0
	l, err := wire.Take(r, 128, func(got *wire.Reader) (int, api.Errno) {
		if got != r {
			t.Error("one is called with another reader")
		}
		wantLeft(t, "within Take", got, 4)
		times++
		return times, api.OK
	})
	wantErr(t, "Take", err, api.OK)
	wantLeft(t, "Take", r, 4)
	if times != 128 || len(l) != 128 || l[0] != 1 || l[127] != 128 {
		t.Errorf("one was called %d times; Take is %v", times, l)
	}
}

// P1.4: the first error ends it, whichever it is; the reader stays, however far one went.
func TestTakeEndsWithTheFirstError(t *testing.T) {
	for _, want := range []api.Errno{api.ErrNil, api.ErrArg, api.ErrLong, api.ErrBytes, api.ErrFull, api.ErrNone, api.ErrState, 77, -1} {
		r := wire.Open([]byte("\x09\x04\x01\x02\x03\x04"))
		if n, err := r.Number(); n != 9 || err != api.OK {
			t.Fatalf("the first number is %d, %v", n, err)
		}
		times := 0
		l, err := wire.Take(r, 4, func(r *wire.Reader) (uint64, api.Errno) {
			times++
			n, _ := r.Number()
			if times == 3 {
				return n, want
			}
			return n, api.OK
		})
		wantErr(t, "Take", err, want)
		wantLeft(t, "Take", r, 5)
		if times != 3 || len(l) != 0 {
			t.Errorf("one was called %d times; Take is %v", times, l)
		}
	}
}

// P1.4: also when one has put another reader's state into this one.
func TestTakePutsTheReaderBack(t *testing.T) {
	r := wire.Open([]byte("\x02\x05\x06"))
	_, err := wire.Take(r, 2, func(r *wire.Reader) (uint64, api.Errno) {
		*r = wire.Reader{}
		return r.Number()
	})
	wantErr(t, "Take", err, api.ErrNil)
	wantLeft(t, "Take", r, 3)
	l, err := wire.Take(r, 2, (*wire.Reader).Number)
	if !slices.Equal(l, []uint64{5, 6}) || err != api.OK {
		t.Errorf("Take is %v, %v", l, err)
	}
}

// P1.4: lists within lists, and the inner one's error.
func TestTakeWithinTake(t *testing.T) {
	row := func(r *wire.Reader) ([]bool, api.Errno) { return wire.Take(r, 2, (*wire.Reader).Flag) }
	r := wire.Open([]byte("\x03\x02\x01\x00\x00\x01\x01"))
	l, err := wire.Take(r, 3, row)
	wantErr(t, "rows", err, api.OK)
	wantErr(t, "End", r.End(), api.OK)
	if len(l) != 3 || !slices.Equal(l[0], []bool{true, false}) || len(l[1]) != 0 || !slices.Equal(l[2], []bool{true}) {
		t.Errorf("rows are %v", l)
	}
	for s, want := range map[string]api.Errno{"\x02\x01\x01\x03\x00\x00\x00": api.ErrLong, "\x02\x01\x01\x01\x02": api.ErrBytes} {
		r := wire.Open([]byte(s))
		_, err := wire.Take(r, 3, row)
		wantErr(t, "rows that are wrong", err, want)
		wantLeft(t, "rows that are wrong", r, len(s))
	}
}
