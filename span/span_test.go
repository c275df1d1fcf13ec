package span_test

import (
	"math"
	"strings"
	"testing"

	"metronome/api"
	"metronome/span"
)

const (
	maxSec  = 2147483647
	maxNsec = 999999999
	maxTime = 1099511627776
)

func of(sec, nsec int64) api.Span {
	return api.Span{Sec: sec, Nsec: nsec}
}

// spans are those of the edges, rising.
func spans() []api.Span {
	return []api.Span{
		of(0, 0), of(0, 1), of(0, 999999), of(0, 1000000), of(0, 1000001), of(0, 499999999), of(0, 500000000), of(0, maxNsec-1), of(0, maxNsec),
		of(1, 0), of(1, 1), of(1, 1000100), of(1, 500000000), of(1, maxNsec), of(2, 0), of(60, 7), of(999999999, maxNsec), of(1000000000, 0),
		of(maxSec/2, maxNsec), of(maxSec/2+1, 0), of(1099511627, 775999999), of(1099511627, 776000000), of(1099511627, 776000001),
		of(1099511628, 0), of(maxSec-1, 0), of(maxSec-1, maxNsec), of(maxSec, 0), of(maxSec, 1), of(maxSec, maxNsec-1), of(maxSec, maxNsec),
	}
}

// noSpans are those that may not be.
func noSpans() []api.Span {
	all := []api.Span{of(-1, -1), of(maxSec+1, maxNsec+1), of(math.MinInt64, math.MinInt64), of(math.MaxInt64, math.MaxInt64), of(-1, 1000000000), of(1, -1000000000)}
	for _, n := range []int64{-1, -2, -maxSec, -1 << 31, -1 << 32, -1<<32 + 1, math.MinInt64, math.MinInt64 + 1} {
		all = append(all, of(n, 0), of(n, maxNsec), of(0, n), of(maxSec, n))
	}
	for _, n := range []int64{1 << 32, 1<<32 + 1, 1 << 40, 1<<63 - 1000000000, math.MaxInt64 - 1, math.MaxInt64} {
		all = append(all, of(n, 0), of(n, maxNsec), of(0, n), of(maxSec, n))
	}
	for _, nsec := range []int64{0, 1, maxNsec} {
		all = append(all, of(maxSec+1, nsec), of(maxSec+2, nsec))
	}
	for _, sec := range []int64{0, 1, maxSec} {
		all = append(all, of(sec, maxNsec+1), of(sec, maxNsec+2), of(sec, maxSec))
	}
	return all
}

func wantErr(t *testing.T, what string, got, want api.Errno) {
	t.Helper()
	if got != want {
		t.Errorf("%s: %v, want %v", what, got, want)
	}
}

// wantSpan asks for that span and that error.
func wantSpan(t *testing.T, what string, want api.Span, wantE api.Errno) func(api.Span, api.Errno) {
	t.Helper()
	return func(got api.Span, e api.Errno) {
		t.Helper()
		if got != want || e != wantE {
			t.Errorf("%.60q: %v, %v, want %v, %v", what, got, e, want, wantE)
		}
	}
}

func wantTicks(t *testing.T, s api.Span, want int64, wantE api.Errno) {
	t.Helper()
	if got, e := span.Ticks(s); got != want || e != wantE {
		t.Errorf("Ticks(%v): %d, %v, want %d, %v", s, got, e, want, wantE)
	}
}

func wantText(t *testing.T, s api.Span, want string, wantE api.Errno) {
	t.Helper()
	if got, e := span.Text(s); got != want || e != wantE {
		t.Errorf("Text(%v): %q, %v, want %q, %v", s, got, e, want, wantE)
	}
}

func wantCompare(t *testing.T, a, b api.Span, want int) {
	t.Helper()
	if got := span.Compare(a, b); got != want {
		t.Errorf("Compare(%v, %v) is %d, want %d", a, b, got, want)
	}
	if got := span.Compare(b, a); got != -want {
		t.Errorf("Compare(%v, %v) is %d, want %d", b, a, got, -want)
	}
}

// P6.1
func TestMay(t *testing.T) {
	for _, s := range spans() {
		if !span.May(s) {
			t.Errorf("%v may not be", s)
		}
	}
	for _, s := range noSpans() {
		if span.May(s) {
			t.Errorf("%v may be", s)
		}
	}
}

// P6.1
func TestAdd(t *testing.T) {
	for _, c := range []struct {
		a, b, want api.Span
	}{
		{of(0, 0), of(0, 0), of(0, 0)},
		{of(3, 4), of(5, 6), of(8, 10)},
		{of(0, 1), of(0, maxNsec-1), of(0, maxNsec)},
		{of(0, 1), of(0, maxNsec), of(1, 0)},
		{of(0, 2), of(0, maxNsec), of(1, 1)},
		{of(0, maxNsec), of(0, maxNsec), of(1, maxNsec-1)},
		{of(7, 500000000), of(8, 500000000), of(16, 0)},
		{of(maxSec-1, maxNsec), of(0, 1), of(maxSec, 0)},
		{of(maxSec, 0), of(0, 1), of(maxSec, 1)},
		{of(maxSec, 0), of(0, maxNsec), of(maxSec, maxNsec)},
		{of(maxSec, maxNsec), of(0, 0), of(maxSec, maxNsec)},
		{of(maxSec, maxNsec-1), of(0, 1), of(maxSec, maxNsec)},
		{of(maxSec/2, maxNsec), of(maxSec/2, maxNsec), of(maxSec, maxNsec-1)},
		{of(maxSec/2+1, 0), of(maxSec/2, maxNsec), of(maxSec, maxNsec)},
	} {
		wantSpan(t, "Add", c.want, api.OK)(span.Add(c.a, c.b))
		wantSpan(t, "Add", c.want, api.OK)(span.Add(c.b, c.a))
	}
}

// P6.1
func TestAddIsFullBeyondTheLongest(t *testing.T) {
	for _, c := range []struct {
		a, b api.Span
	}{
		{of(maxSec, maxNsec), of(0, 1)},
		{of(maxSec, 1), of(0, maxNsec)},
		{of(maxSec, 0), of(1, 0)},
		{of(maxSec-1, maxNsec), of(1, 1)},
		{of(maxSec/2+1, 0), of(maxSec/2+1, 0)},
		{of(maxSec, maxNsec), of(maxSec, maxNsec)},
	} {
		wantSpan(t, "Add", api.Span{}, api.ErrFull)(span.Add(c.a, c.b))
		wantSpan(t, "Add", api.Span{}, api.ErrFull)(span.Add(c.b, c.a))
	}
}

// P6.1
func TestSub(t *testing.T) {
	for _, c := range []struct {
		a, b, want api.Span
	}{
		{of(8, 10), of(5, 6), of(3, 4)},
		{of(8, 10), of(8, 9), of(0, 1)},
		{of(1, 0), of(0, 1), of(0, maxNsec)},
		{of(1, 0), of(0, maxNsec), of(0, 1)},
		{of(2, 5), of(1, 6), of(0, maxNsec)},
		{of(3, 0), of(1, maxNsec), of(1, 1)},
		{of(3, maxNsec-1), of(1, maxNsec), of(1, maxNsec)},
		{of(maxSec, 0), of(0, 1), of(maxSec-1, maxNsec)},
		{of(maxSec, maxNsec), of(0, 0), of(maxSec, maxNsec)},
		{of(maxSec, maxNsec), of(maxSec, 0), of(0, maxNsec)},
	} {
		wantSpan(t, "Sub", c.want, api.OK)(span.Sub(c.a, c.b))
	}
	for _, s := range spans() {
		wantSpan(t, "a span less itself", api.Span{}, api.OK)(span.Sub(s, s))
		wantSpan(t, "a span less none", s, api.OK)(span.Sub(s, api.Span{}))
	}
}

// P6.1
func TestSubOfALongerOneIsRefused(t *testing.T) {
	rising := spans()
	for i, a := range rising {
		for _, b := range rising[i+1:] {
			wantSpan(t, "Sub", api.Span{}, api.ErrArg)(span.Sub(a, b))
		}
	}
}

// P6.1, P6.2, P6.3: what may not be is refused ahead of what is too much, in the first span and in the second.
func TestWhatMayNotBeIsRefused(t *testing.T) {
	for _, no := range noSpans() {
		for _, s := range append(spans(), noSpans()...) {
			wantSpan(t, "Add, the first", api.Span{}, api.ErrArg)(span.Add(no, s))
			wantSpan(t, "Add, the second", api.Span{}, api.ErrArg)(span.Add(s, no))
			wantSpan(t, "Sub, the first", api.Span{}, api.ErrArg)(span.Sub(no, s))
			wantSpan(t, "Sub, the second", api.Span{}, api.ErrArg)(span.Sub(s, no))
		}
		for _, n := range []int64{math.MinInt64, -1, 0, 1, 2, 1 << 40, math.MaxInt64} {
			wantSpan(t, "Times", api.Span{}, api.ErrArg)(span.Times(no, n))
		}
		wantTicks(t, no, 0, api.ErrArg)
		wantText(t, no, "", api.ErrArg)
	}
}

// P6.1
func TestCompare(t *testing.T) {
	rising := spans()
	for i, a := range rising {
		wantCompare(t, a, a, 0)
		for _, b := range rising[i+1:] {
			wantCompare(t, a, b, -1)
		}
	}
}

// P6.1: of any, by Sec, then by Nsec, however many nanoseconds there are.
func TestCompareOfWhatMayNotBe(t *testing.T) {
	rising := []api.Span{
		of(math.MinInt64, math.MinInt64), of(math.MinInt64, 0), of(math.MinInt64, math.MaxInt64),
		of(-1, math.MinInt64), of(-1, -1), of(-1, 5), of(-1, math.MaxInt64),
		of(0, math.MinInt64), of(0, -1), of(0, 0), of(0, 2000000000), of(0, math.MaxInt64),
		of(1, math.MinInt64), of(1, -5000000000), of(1, 0), of(1, 1<<32),
		of(maxSec, maxNsec+1), of(maxSec+1, 0), of(1<<32, 0),
		of(math.MaxInt64, math.MinInt64), of(math.MaxInt64, math.MaxInt64-1), of(math.MaxInt64, math.MaxInt64),
	}
	for i, a := range rising {
		wantCompare(t, a, a, 0)
		for _, b := range rising[i+1:] {
			wantCompare(t, a, b, -1)
		}
	}
}

// P6.1
func TestTimes(t *testing.T) {
	for _, c := range []struct {
		s    api.Span
		n    int64
		want api.Span
	}{
		{of(2, 3), 4, of(8, 12)},
		{of(0, 333333333), 3, of(0, maxNsec)},
		{of(0, 333333334), 3, of(1, 2)},
		{of(0, 1), 1000000000, of(1, 0)},
		{of(0, 1), maxSec*1000000000 + maxNsec, of(maxSec, maxNsec)},
		{of(0, 1), maxSec * 1000000000, of(maxSec, 0)},
		{of(0, maxNsec), 1000000000, of(maxNsec, 0)},
		{of(1, 0), maxSec, of(maxSec, 0)},
		{of(maxSec/2, 500000000), 2, of(maxSec, 0)},
		{of(maxSec/2, maxNsec), 2, of(maxSec, maxNsec-1)},
		{of(0, 0), math.MaxInt64, of(0, 0)},
	} {
		wantSpan(t, "Times", c.want, api.OK)(span.Times(c.s, c.n))
	}
	for _, s := range spans() {
		wantSpan(t, "0 times", api.Span{}, api.OK)(span.Times(s, 0))
		wantSpan(t, "once", s, api.OK)(span.Times(s, 1))
	}
}

// P6.1
func TestTimesIsFullBeyondTheLongest(t *testing.T) {
	for _, c := range []struct {
		s api.Span
		n int64
	}{
		{of(0, 1), (maxSec + 1) * 1000000000},
		{of(1, 0), maxSec + 1},
		{of(maxSec/2+1, 0), 2},
		{of(maxSec, maxNsec), 2},
		{of(maxSec, 0), 2},
		// Products that come back to something small, if they wrap round.
		{of(1, 0), 1 << 32}, {of(1, 0), 1<<55 + 1}, {of(2, 0), 1 << 62}, {of(4, 0), 1 << 62}, {of(0, 4), 1 << 62}, {of(0, 512), 1 << 55}, {of(1, 0), 1 << 55},
	} {
		wantSpan(t, "Times", api.Span{}, api.ErrFull)(span.Times(c.s, c.n))
	}
	for _, s := range spans()[1:] {
		for _, n := range []int64{1 << 62, math.MaxInt64 - 1, math.MaxInt64} {
			wantSpan(t, "Times", api.Span{}, api.ErrFull)(span.Times(s, n))
		}
	}
}

// P6.1
func TestTimesLessThanNoneIsRefused(t *testing.T) {
	for _, s := range spans() {
		for _, n := range []int64{-1, -2, -1 << 32, -1 << 62, math.MinInt64 + 1, math.MinInt64} {
			wantSpan(t, "Times", api.Span{}, api.ErrArg)(span.Times(s, n))
		}
	}
}

// P6.2: a part of a tick is one.
func TestTicks(t *testing.T) {
	for _, c := range []struct {
		s    api.Span
		want int64
	}{
		{of(0, 0), 0}, {of(0, 1), 1}, {of(0, 999999), 1}, {of(0, 1000000), 1}, {of(0, 1000001), 2}, {of(0, 1999999), 2}, {of(0, 2000000), 2},
		{of(0, 998999999), 999}, {of(0, 999000000), 999}, {of(0, 999000001), 1000}, {of(0, maxNsec), 1000},
		{of(1, 0), 1000}, {of(1, 1), 1001}, {of(1, 1000000), 1001}, {of(1, maxNsec), 2000}, {of(2147483, 648000000), 1 << 31},
		{of(1099511627, 775000000), maxTime - 1}, {of(1099511627, 775000001), maxTime}, {of(1099511627, 775999999), maxTime}, {of(1099511627, 776000000), maxTime},
	} {
		wantTicks(t, c.s, c.want, api.OK)
	}
}

// P6.2
func TestTicksAreFullBeyondMaxTime(t *testing.T) {
	for _, s := range []api.Span{of(1099511627, 776000001), of(1099511627, 777000000), of(1099511627, maxNsec), of(1099511628, 0), of(1099511629, 0), of(maxSec, 0), of(maxSec, maxNsec)} {
		wantTicks(t, s, 0, api.ErrFull)
	}
}

// P6.2
func TestOf(t *testing.T) {
	for _, c := range []struct {
		ticks int64
		want  api.Span
	}{
		{0, of(0, 0)}, {1, of(0, 1000000)}, {2, of(0, 2000000)}, {999, of(0, 999000000)}, {1000, of(1, 0)}, {1001, of(1, 1000000)}, {1999, of(1, 999000000)},
		{2000, of(2, 0)}, {1 << 31, of(2147483, 648000000)}, {1 << 32, of(4294967, 296000000)}, {maxTime - 1, of(1099511627, 775000000)}, {maxTime, of(1099511627, 776000000)},
	} {
		wantSpan(t, "Of", c.want, api.OK)(span.Of(c.ticks))
	}
	for _, ticks := range []int64{-1, -2, -1000, -1 << 32, -maxTime, math.MinInt64 + 1, math.MinInt64, maxTime + 1, maxTime + 2, 1 << 41, 1 << 60, math.MaxInt64 - 1, math.MaxInt64} {
		wantSpan(t, "Of", api.Span{}, api.ErrArg)(span.Of(ticks))
	}
}

// texts are spans with their texts.
func texts() []struct {
	s    api.Span
	text string
} {
	return []struct {
		s    api.Span
		text string
	}{
		{of(0, 0), "0.000000000"}, {of(0, 1), "0.000000001"}, {of(0, 10), "0.000000010"}, {of(0, 123456789), "0.123456789"}, {of(0, 100000000), "0.100000000"},
		{of(0, maxNsec), "0.999999999"}, {of(1, 0), "1.000000000"}, {of(9, 90), "9.000000090"}, {of(10, 0), "10.000000000"}, {of(100, 1), "100.000000001"},
		{of(1234567890, 987654321), "1234567890.987654321"}, {of(2147483646, maxNsec), "2147483646.999999999"}, {of(maxSec, 0), "2147483647.000000000"},
		{of(maxSec, maxNsec), "2147483647.999999999"},
	}
}

// P6.3
func TestText(t *testing.T) {
	for _, c := range texts() {
		wantText(t, c.s, c.text, api.OK)
	}
}

// P6.3
func TestParse(t *testing.T) {
	for _, c := range texts() {
		wantSpan(t, c.text, c.s, api.OK)(span.Parse(c.text))
	}
}

// noTexts are no span's.
func noTexts() []string {
	return []string{
		"", ".", "..", "0", "1", "12", "0.", "1.", ".0", ".000000000", ".5", "000000000", "1000000000", "1500000000", "1 500000000", "1,500000000", "1:500000000",
		"1.0", "1.5", "1.00000000", "1.0000000000", "1.50000000", "1.5000000000", "1.000000000000000000", "0.0", "0.00000000", "0.0000000000",
		"00.000000000", "01.500000000", "001.500000000", "02147483647.000000000", "00000000000000000000000.000000000",
		"-1.000000000", "-0.000000000", "+1.000000000", "+0.000000000", "1.-00000001", "1.+00000001", "1.-000000001", "1.+000000001", "-.000000000", "+.000000000", "-1.-00000001",
		" 1.000000000", "1.000000000 ", "1 .000000000", "1. 000000000", "1. 00000000", "1.00000000 ", "\t1.000000000", "1.000000000\n", "1.000000000\x00", "\x001.000000000",
		"1.50000000x", "x.500000000", "1x.500000000", "x1.500000000", "1.x00000000", "1.5000x0000", "1.5e0000000", "1e0.000000000", "0x1.000000000", "1_0.000000000", "1.000_00000", "1.500000000s",
		"1..000000000", "1..00000000", "1.0.0000000", "1.00000000.", "1.000000000.", "1.000000000.000000000", ".1.000000000", ".1.00000000",
		"1/.000000000", "1:.000000000", "/.000000000", ":.000000000", "1.00000000/", "1.00000000:", "1./00000000", "1.:00000000",
		"٣.000000000", "1.٣0000000", "1.٣000000", "１.000000000", "\xff.000000000", "1.00000000\xff", "\xb1.000000000", "1.0000\xb10000",
		"2147483648.000000000", "2147483648.999999999", "2147483650.000000000", "2147483657.000000000", "3000000000.000000000", "4294967296.000000000", "4294967297.000000000", "10000000000.000000000", "21474836470.000000000",
		"9223372036854775807.000000000", "9223372036854775808.000000000", "18446744073709551615.000000000", "18446744073709551616.000000000", "18446744073709551617.000000000",
		"340282366920938463463374607431768211456.000000000", strings.Repeat("9", 1000) + ".000000000", "1" + strings.Repeat("0", 100000) + ".000000000", "1." + strings.Repeat("0", 100000),
		"1.9223372036854775808", strings.Repeat(".", 100000),
	}
}

// P6.3 (P0.9)
func TestParseOfNoSpansText(t *testing.T) {
	for _, text := range noTexts() {
		wantSpan(t, text, api.Span{}, api.ErrBytes)(span.Parse(text))
	}
}

// P6.3 (P0.9): of a text that is a span's each byte is put as each other one, taken away, and put twice.
func TestParseOfTextsThatAreNearlyASpans(t *testing.T) {
	for _, text := range []string{"0.000000000", "7.123456789", "10.500000000", "2147483647.999999999"} {
		for i := range len(text) {
			for b := range 256 {
				wantForm(t, text[:i]+string([]byte{byte(b)})+text[i+1:])
				wantForm(t, text[:i]+string([]byte{byte(b)})+text[i:])
			}
			wantForm(t, text[:i]+text[i+1:])
			wantForm(t, text[:i])
			wantForm(t, text[i:])
		}
	}
}

// P6.1 to P6.3
func TestExamples(t *testing.T) {
	wantSpan(t, "1.5 s and 0.6 s", of(2, 100000000), api.OK)(span.Add(of(1, 500000000), of(0, 600000000)))
	wantSpan(t, "1 s less 0.000000001 s", of(0, 999999999), api.OK)(span.Sub(of(1, 0), of(0, 1)))
	wantSpan(t, "1 s less 2 s", api.Span{}, api.ErrArg)(span.Sub(of(1, 0), of(2, 0)))
	wantTicks(t, of(0, 1), 1, api.OK)
	wantTicks(t, of(0, 1000000), 1, api.OK)
	wantTicks(t, of(1, 1000100), 1002, api.OK)
	wantTicks(t, of(0, 0), 0, api.OK)
	wantSpan(t, "Of(1500)", of(1, 500000000), api.OK)(span.Of(1500))
	wantText(t, of(1, 500000000), "1.500000000", api.OK)
	wantSpan(t, "1.5", api.Span{}, api.ErrBytes)(span.Parse("1.5"))
	wantSpan(t, "01.500000000", api.Span{}, api.ErrBytes)(span.Parse("01.500000000"))
	wantTicks(t, of(maxSec, 0), 0, api.ErrFull)
	wantSpan(t, "2^40 and 1", api.Span{}, api.ErrArg)(span.Of(1<<40 + 1))
	wantSpan(t, "3 times 1.5 s", of(4, 500000000), api.OK)(span.Times(of(1, 500000000), 3))
}
