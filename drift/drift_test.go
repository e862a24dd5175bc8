package drift_test

import (
	"math"
	"math/big"
	"testing"

	"noonmark/api"
	"noonmark/drift"
	"noonmark/plain"
	"noonmark/span"
)

const (
	top     = api.MaxTime
	million = 1_000_000
)

func sp(lo, hi int) api.Span { return api.Span{Lo: lo, Hi: hi} }

func wantNumber(t *testing.T, what string, n, ppm, got int, err error, want int, errno api.Errno) {
	t.Helper()
	if got != want || plain.Told(err) != errno {
		t.Errorf("%s(%d, %d): got %d, %v; want %d, %v", what, n, ppm, got, plain.Told(err), want, errno)
	}
}

func wantSpan(t *testing.T, what string, n, ppm int, got api.Span, err error, want api.Span, errno api.Errno) {
	t.Helper()
	if got != want || plain.Told(err) != errno {
		t.Errorf("%s(%d, %d): got %v, %v; want %v, %v", what, n, ppm, got, plain.Told(err), want, errno)
	}
}

// down and up are n times a by b, rounded, in numbers that never wrap round.
func down(n, a, b int) int {
	q, _ := divided(n, a, b)
	return q
}

func up(n, a, b int) int {
	q, rest := divided(n, a, b)
	if rest {
		q++
	}
	return q
}

func divided(n, a, b int) (int, bool) {
	product := new(big.Int).Mul(big.NewInt(int64(n)), big.NewInt(int64(a)))
	q, r := new(big.Int).QuoRem(product, big.NewInt(int64(b)), new(big.Int))
	return int(q.Int64()), r.Sign() != 0
}

// orRange is what is to come of ends: they are a span, or it is ErrRange.
func orRange(lo, hi int) (api.Span, api.Errno) {
	if lo < -top || hi > top {
		return api.Span{}, api.ErrRange
	}
	return sp(lo, hi), api.OK
}

func goodNumbers() []int {
	return []int{
		0, 1, 2, 3, 999, 1000, 1001, 1999, 2000, 2001, million - 1, million, million + 1, 512_362,
		999_999_999, 1_000_000_000, 1_000_000_001, 57_908_042_631,
		998_999_999_999, 999_000_000_000, 999_000_000_001, 999_000_998_999, 999_000_999_000, 999_000_999_001,
		999_999_000_000, 999_999_000_001, 999_999_000_002, top - 2, top - 1, top,
	}
}

func goodPpms() []int { return []int{0, 1, 2, 3, 7, 100, 499, 500, 501, 802, 998, 999, 1000} }

func TestByHand(t *testing.T) {
	for _, c := range []struct {
		n, ppm, grow int
		local, truth api.Span
	}{
		{0, 0, 0, sp(0, 0), sp(0, 0)},
		{0, 1000, 0, sp(0, 0), sp(0, 0)},
		{1, 0, 0, sp(1, 1), sp(1, 1)},
		{1, 1, 1, sp(0, 2), sp(0, 2)},
		{million, 1, 1, sp(999_999, 1_000_001), sp(999_999, 1_000_002)},
		{million - 1, 1, 1, sp(999_998, 1_000_000), sp(999_998, 1_000_000)},
		{million + 1, 1, 2, sp(999_999, 1_000_003), sp(1_000_000, 1_000_003)},
		{1000, 1000, 1, sp(999, 1001), sp(999, 1002)},
		{999, 1000, 1, sp(998, 1000), sp(998, 1000)},
		{1001, 1000, 2, sp(999, 1003), sp(1000, 1003)},
		{512_362, 802, 411, sp(511_951, 512_773), sp(511_951, 512_774)},
	} {
		grow, err := drift.Grow(c.n, c.ppm)
		wantNumber(t, "Grow", c.n, c.ppm, grow, err, c.grow, api.OK)
		local, err := drift.Local(c.n, c.ppm)
		wantSpan(t, "Local", c.n, c.ppm, local, err, c.local, api.OK)
		truth, err := drift.True(c.n, c.ppm)
		wantSpan(t, "True", c.n, c.ppm, truth, err, c.truth, api.OK)
	}
}

// TestRounding holds what comes, and where it is no span, against numbers of any length.
func TestRounding(t *testing.T) {
	numbers := goodNumbers()
	for n := range 4000 {
		numbers = append(numbers, n, 7*n*million+n, top-n*1001)
	}
	for _, n := range numbers {
		for _, ppm := range goodPpms() {
			grow, err := drift.Grow(n, ppm)
			wantNumber(t, "Grow", n, ppm, grow, err, up(n, ppm, million), api.OK)
			want, errno := orRange(down(n, million-ppm, million), up(n, million+ppm, million))
			local, err := drift.Local(n, ppm)
			wantSpan(t, "Local", n, ppm, local, err, want, errno)
			want, errno = orRange(down(n, million, million+ppm), up(n, million, million-ppm))
			truth, err := drift.True(n, ppm)
			wantSpan(t, "True", n, ppm, truth, err, want, errno)
		}
	}
}

// TestNoSpan: the greatest numbers of which something comes, and the next ones.
func TestNoSpan(t *testing.T) {
	for _, c := range []struct {
		what   string
		call   func(n, ppm int) (api.Span, error)
		n, ppm int
		want   api.Span
		errno  api.Errno
	}{
		{"Local", drift.Local, top, 0, sp(top, top), api.OK},
		{"Local", drift.Local, top, 1, api.Span{}, api.ErrRange},
		{"Local", drift.Local, 999_000_999_000, 1000, sp(998_001_998_001, 999_999_999_999), api.OK},
		{"Local", drift.Local, 999_000_999_001, 1000, api.Span{}, api.ErrRange},
		{"Local", drift.Local, 999_999_000_000, 1, sp(999_998_000_001, 999_999_999_999), api.OK},
		{"Local", drift.Local, 999_999_000_001, 1, api.Span{}, api.ErrRange},
		{"True", drift.True, top, 0, sp(top, top), api.OK},
		{"True", drift.True, top, 1, api.Span{}, api.ErrRange},
		{"True", drift.True, 999_000_000_000, 1000, sp(998_001_998_001, top), api.OK},
		{"True", drift.True, 999_000_000_001, 1000, api.Span{}, api.ErrRange},
		{"True", drift.True, 999_999_000_000, 1, sp(999_998_000_001, top), api.OK},
		{"True", drift.True, 999_999_000_001, 1, api.Span{}, api.ErrRange},
	} {
		got, err := c.call(c.n, c.ppm)
		wantSpan(t, c.what, c.n, c.ppm, got, err, c.want, c.errno)
	}
	grow, err := drift.Grow(top, api.MaxPpm)
	wantNumber(t, "Grow", top, api.MaxPpm, grow, err, 1_000_000_000, api.OK)
}

// TestWhatItTrulyIs: whatever a clock within its bound shows, Local has that, and True of that has what truly passed.
func TestWhatItTrulyIs(t *testing.T) {
	for _, ppm := range goodPpms() {
		for _, n := range []int{0, 1, 2, 499, 999, 1000, 1001, 1_000_000, 1_234_567, 6_000_001} {
			local, err := drift.Local(n, ppm)
			if err != nil {
				t.Fatalf("Local(%d, %d): %v", n, ppm, err)
			}
			least, most := up(n, million-ppm, million), down(n, million+ppm, million)
			for shown := least; shown <= most; shown++ {
				in, _ := span.Has(local, shown)
				truth, err := drift.True(shown, ppm)
				has, _ := span.Has(truth, n)
				if !in || !has || err != nil {
					t.Fatalf("of %d at %d a clock shows %d: Local %v, True %v, %v", n, ppm, shown, local, truth, err)
				}
			}
		}
	}
}

func TestAge(t *testing.T) {
	for _, c := range []struct {
		s      api.Span
		n, ppm int
		want   api.Span
		errno  api.Errno
	}{
		{sp(-5, -5), 1, 824, sp(-6, -4), api.OK},
		{sp(-3, 8), 0, 1000, sp(-3, 8), api.OK},
		{sp(-3, 8), top, 0, sp(-3, 8), api.OK},
		{sp(4, 4), 512_362, 802, sp(-407, 415), api.OK},
		{sp(0, 0), top, 1000, sp(-1_000_000_000, 1_000_000_000), api.OK},
		{sp(-top, top), top, 0, sp(-top, top), api.OK},
		{sp(-top, top), 0, 1000, sp(-top, top), api.OK},
		{sp(-top+1, top-1), 1, 1, sp(-top, top), api.OK},
		{sp(-top, 0), 1, 1, api.Span{}, api.ErrRange},
		{sp(0, top), 1, 1, api.Span{}, api.ErrRange},
		{sp(-top+1_000_000_000, 0), top, 1000, sp(-top, 1_000_000_000), api.OK},
		{sp(-top+999_999_999, 0), top, 1000, api.Span{}, api.ErrRange},
		{sp(0, top-1_000_000_000), top, 1000, sp(-1_000_000_000, top), api.OK},
		{sp(0, top-999_999_999), top, 1000, api.Span{}, api.ErrRange},
		{sp(1, 0), 1, 1, api.Span{}, api.ErrRange},
		{sp(1, 0), 1000, 1000, api.Span{}, api.ErrRange},
		{sp(-top-1, 0), 0, 0, api.Span{}, api.ErrRange},
		{sp(0, top+1), 0, 0, api.Span{}, api.ErrRange},
		{sp(math.MinInt, math.MaxInt), 1, 1, api.Span{}, api.ErrRange},
		{sp(math.MaxInt, math.MinInt), 1, 1, api.Span{}, api.ErrRange},
	} {
		got, err := drift.Age(c.s, c.n, c.ppm)
		wantSpan(t, "Age", c.n, c.ppm, got, err, c.want, c.errno)
	}
}

// TestAgeIsWidenByGrow holds Age to what it is made of.
func TestAgeIsWidenByGrow(t *testing.T) {
	for _, s := range []api.Span{sp(0, 0), sp(-7, 12), sp(-top, -top), sp(top, top), sp(-top/2, top/2), sp(3, 2)} {
		for _, n := range goodNumbers() {
			for _, ppm := range goodPpms() {
				want, errno := api.Span{}, api.ErrRange
				if s.Lo <= s.Hi {
					more := up(n, ppm, million)
					want, errno = orRange(s.Lo-more, s.Hi+more)
				}
				got, err := drift.Age(s, n, ppm)
				wantSpan(t, "Age", n, ppm, got, err, want, errno)
			}
		}
	}
}

// TestBadNumbers: each call says ErrRange where either number is none that may be, and answers nothing with it.
func TestBadNumbers(t *testing.T) {
	badTimes := []int{math.MinInt, math.MinInt + 1, -top, -1, top + 1, 2 * top, math.MaxInt - 1, math.MaxInt}
	badPpms := []int{math.MinInt, -million, -1000, -1, 1001, 2000, million - 1, million, million + 1, math.MaxInt}
	for _, n := range append(badTimes, goodNumbers()...) {
		for _, ppm := range append(badPpms, goodPpms()...) {
			if 0 <= n && n <= top && 0 <= ppm && ppm <= 1000 {
				continue
			}
			wantRefused(t, n, ppm)
		}
	}
}

func wantRefused(t *testing.T, n, ppm int) {
	t.Helper()
	grow, err := drift.Grow(n, ppm)
	wantNumber(t, "Grow", n, ppm, grow, err, 0, api.ErrRange)
	local, err := drift.Local(n, ppm)
	wantSpan(t, "Local", n, ppm, local, err, api.Span{}, api.ErrRange)
	truth, err := drift.True(n, ppm)
	wantSpan(t, "True", n, ppm, truth, err, api.Span{}, api.ErrRange)
	for _, s := range []api.Span{sp(0, 0), sp(-3, 8), sp(1, 0), sp(math.MinInt, math.MaxInt)} {
		aged, err := drift.Age(s, n, ppm)
		wantSpan(t, "Age", n, ppm, aged, err, api.Span{}, api.ErrRange)
	}
}

// TestGrowTimes: as Grow by the product, and held to the same numbers.
func TestGrowTimes(t *testing.T) {
	for _, n := range goodNumbers() {
		for _, ppm := range goodPpms() {
			for _, times := range []int{0, 1, 2, 3, 7, 999, 1000} {
				grow, err := drift.GrowTimes(n, times, ppm)
				wantNumber(t, "GrowTimes", n, times*ppm, grow, err, up(n, times*ppm, million), api.OK)
			}
		}
	}
	for _, bad := range []int{math.MinInt, -1, 1001, math.MaxInt} {
		grow, err := drift.GrowTimes(1, bad, 1)
		wantNumber(t, "GrowTimes", 1, bad, grow, err, 0, api.ErrRange)
		grow, err = drift.GrowTimes(1, 3, bad)
		wantNumber(t, "GrowTimes", 1, bad, grow, err, 0, api.ErrRange)
	}
	for _, bad := range []int{math.MinInt, -1, top + 1, math.MaxInt} {
		grow, err := drift.GrowTimes(bad, 3, 1)
		wantNumber(t, "GrowTimes", bad, 1, grow, err, 0, api.ErrRange)
	}
}
