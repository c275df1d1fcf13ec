package span_test

import (
	"math"
	"math/big"
	"math/rand"
	"regexp"
	"strconv"
	"testing"

	"metronome/api"
	"metronome/span"
)

// form is a span's text, but for how many seconds there are.
var form = regexp.MustCompile(`\A(0|[1-9][0-9]*)\.([0-9]{9})\z`)

// wantForm asks that the text is read for what it is by its form, or refused.
func wantForm(t *testing.T, text string) {
	t.Helper()
	want, wantE := api.Span{}, api.ErrBytes
	if parts := form.FindStringSubmatch(text); parts != nil {
		sec, err := strconv.ParseInt(parts[1], 10, 64)
		nsec, _ := strconv.ParseInt(parts[2], 10, 64)
		if err == nil && sec <= maxSec {
			want, wantE = of(sec, nsec), api.OK
		}
	}
	wantSpan(t, text, want, wantE)(span.Parse(text))
}

// nanoseconds are all of a span, as a number without an end.
func nanoseconds(s api.Span) *big.Int {
	n := new(big.Int).Mul(big.NewInt(s.Sec), big.NewInt(1000000000))
	return n.Add(n, big.NewInt(s.Nsec))
}

// spanOf is what so many nanoseconds, none or more, must be told as.
func spanOf(n *big.Int) (api.Span, api.Errno) {
	sec, nsec := new(big.Int).QuoRem(n, big.NewInt(1000000000), new(big.Int))
	if sec.Cmp(big.NewInt(maxSec)) > 0 {
		return api.Span{}, api.ErrFull
	}
	return of(sec.Int64(), nsec.Int64()), api.OK
}

// drawn is any number: near an edge, or somewhere.
func drawn(r *rand.Rand, edges ...int64) int64 {
	switch r.Intn(3) {
	case 0:
		return edges[r.Intn(len(edges))] + r.Int63n(5) - 2
	case 1:
		return r.Int63() >> r.Intn(63)
	}
	return r.Int63n(edges[len(edges)-1] + 1)
}

func drawnSpan(r *rand.Rand) api.Span {
	return of(drawn(r, 0, 1, 1099511627, maxSec/2, maxSec), drawn(r, 0, 1000000, 500000000, maxNsec))
}

// drawnThatMayBe is a span that may be.
func drawnThatMayBe(r *rand.Rand) api.Span {
	s := drawnSpan(r)
	for !span.May(s) {
		s = drawnSpan(r)
	}
	return s
}

func modelMay(s api.Span) bool {
	return 0 <= s.Sec && s.Sec <= maxSec && 0 <= s.Nsec && s.Nsec <= maxNsec
}

// P6.1: all of it, held against numbers without an end.
func TestAddSubAndTimesAreThoseOfNumbers(t *testing.T) {
	r := rand.New(rand.NewSource(6))
	for range 200000 {
		a, b, n := drawnSpan(r), drawnSpan(r), drawn(r, 0, 1, 2, 1000, 1<<32, math.MaxInt64>>1)
		if span.May(a) != modelMay(a) {
			t.Fatalf("May(%v) is %v", a, span.May(a))
		}
		sum, sumE := api.Span{}, api.ErrArg
		less, lessE := api.Span{}, api.ErrArg
		if modelMay(a) && modelMay(b) {
			sum, sumE = spanOf(new(big.Int).Add(nanoseconds(a), nanoseconds(b)))
			if d := new(big.Int).Sub(nanoseconds(a), nanoseconds(b)); d.Sign() >= 0 {
				less, lessE = spanOf(d)
			}
			wantCompare(t, a, b, nanoseconds(a).Cmp(nanoseconds(b)))
		}
		product, productE := api.Span{}, api.ErrArg
		if modelMay(a) && n >= 0 {
			product, productE = spanOf(new(big.Int).Mul(nanoseconds(a), big.NewInt(n)))
		}
		wantSpan(t, "Add", sum, sumE)(span.Add(a, b))
		wantSpan(t, "Sub", less, lessE)(span.Sub(a, b))
		wantSpan(t, "Times", product, productE)(span.Times(a, n))
		if t.Failed() {
			t.Fatal(a, b, n)
		}
	}
}

// P6.1: at the edge of each span: the greatest number of times that may be, and one more.
func TestTimesReachesTheLongestJust(t *testing.T) {
	r := rand.New(rand.NewSource(61))
	longest := nanoseconds(of(maxSec, maxNsec))
	for range 50000 {
		s := drawnThatMayBe(r)
		if s == (api.Span{}) {
			continue
		}
		n := new(big.Int).Quo(longest, nanoseconds(s)).Int64()
		want, _ := spanOf(new(big.Int).Mul(nanoseconds(s), big.NewInt(n)))
		wantSpan(t, "just", want, api.OK)(span.Times(s, n))
		wantSpan(t, "one more", api.Span{}, api.ErrFull)(span.Times(s, n+1))
	}
}

// P6.2: so many ticks that they are no shorter, and no tick too many.
func TestTicksAreThoseOfNumbers(t *testing.T) {
	r := rand.New(rand.NewSource(62))
	tick := big.NewInt(1000000)
	for range 100000 {
		s := drawnThatMayBe(r)
		want, rest := new(big.Int).QuoRem(nanoseconds(s), tick, new(big.Int))
		if rest.Sign() > 0 {
			want.Add(want, big.NewInt(1))
		}
		if want.Cmp(big.NewInt(maxTime)) > 0 {
			wantTicks(t, s, 0, api.ErrFull)
		} else {
			wantTicks(t, s, want.Int64(), api.OK)
		}
	}
}

// P6.4
func TestTicksOfOfIsTheNumber(t *testing.T) {
	r := rand.New(rand.NewSource(63))
	for range 100000 {
		n := drawn(r, 0, 1000, 1<<31, maxTime)
		s, e := span.Of(n)
		if n < 0 || n > maxTime {
			wantErr(t, "Of", e, api.ErrArg)
			continue
		}
		wantErr(t, "Of", e, api.OK)
		if !span.May(s) {
			t.Errorf("Of(%d) is %v, which may not be", n, s)
		}
		wantTicks(t, s, n, api.OK)
	}
}

// P6.4
func TestSubOfAddIsTheOtherOne(t *testing.T) {
	r := rand.New(rand.NewSource(64))
	for range 100000 {
		a, b := drawnThatMayBe(r), drawnThatMayBe(r)
		sum, e := span.Add(a, b)
		if e != api.OK {
			continue
		}
		if !span.May(sum) || span.Compare(sum, a) < 0 || span.Compare(sum, b) < 0 {
			t.Errorf("Add(%v, %v) is %v", a, b, sum)
		}
		wantSpan(t, "Sub of Add", b, api.OK)(span.Sub(sum, a))
		wantSpan(t, "Sub of Add", a, api.OK)(span.Sub(sum, b))
	}
}

// P6.4
func TestWhatIsLongerHasNoFewerTicks(t *testing.T) {
	r := rand.New(rand.NewSource(65))
	for range 100000 {
		a, b := drawnThatMayBe(r), drawnThatMayBe(r)
		if span.Compare(a, b) < 0 {
			a, b = b, a
		}
		more, moreE := span.Ticks(a)
		fewer, fewerE := span.Ticks(b)
		if fewerE == api.ErrFull {
			wantErr(t, "Ticks of the longer one", moreE, api.ErrFull)
		}
		if moreE == api.OK && (fewerE != api.OK || more < fewer) {
			t.Errorf("Ticks(%v) is %d, Ticks(%v) is %d, %v", a, more, b, fewer, fewerE)
		}
	}
}

// P6.4
func TestOfOfTicksIsNoShorterAndLessThanATickLonger(t *testing.T) {
	r := rand.New(rand.NewSource(66))
	for range 100000 {
		s := drawnThatMayBe(r)
		n, e := span.Ticks(s)
		if e != api.OK {
			continue
		}
		back, e := span.Of(n)
		wantErr(t, "Of of Ticks", e, api.OK)
		longer, e := span.Sub(back, s)
		if e != api.OK || span.Compare(longer, of(0, 1000000)) >= 0 {
			t.Errorf("%v: Of of Ticks is %v", s, back)
		}
	}
}

// P6.4 (P0.11)
func TestParseOfTextIsTheSpan(t *testing.T) {
	r := rand.New(rand.NewSource(67))
	all := spans()
	for range 100000 {
		all = append(all, drawnThatMayBe(r))
	}
	for _, s := range all {
		text, e := span.Text(s)
		wantErr(t, "Text", e, api.OK)
		if !form.MatchString(text) {
			t.Errorf("Text(%v) is %q", s, text)
		}
		wantSpan(t, text, s, api.OK)(span.Parse(text))
	}
}

// P6.3, P6.4 (P0.9): whatever the text is, it is some span's, which has just that text, or refused.
func TestTextOfParseIsTheText(t *testing.T) {
	r := rand.New(rand.NewSource(68))
	letters := "0000112349..5-+ x\x00\xff"
	for range 300000 {
		text := make([]byte, r.Intn(14))
		for i := range text {
			text[i] = letters[r.Intn(len(letters))]
		}
		// Most that are drawn so are no span's: the '.' is put where it may stand.
		if len(text) > 10 && r.Intn(4) > 0 {
			text[len(text)-10] = '.'
		}
		wantForm(t, string(text))
		if s, e := span.Parse(string(text)); e == api.OK {
			wantText(t, s, string(text), api.OK)
		}
	}
}
