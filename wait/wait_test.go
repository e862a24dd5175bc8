package wait_test

import (
	"math"
	"math/big"
	"math/rand"
	"testing"

	"noonmark/api"
	"noonmark/drift"
	"noonmark/plain"
	"noonmark/wait"
)

const (
	top     = api.MaxTime
	million = 1_000_000
)

func sp(lo, hi int) api.Span { return api.Span{Lo: lo, Hi: hi} }

func goodPpms() []int { return []int{0, 1, 2, 48, 499, 500, 501, 802, 999, 1000} }

func wantPast(t *testing.T, now api.Span, at int, want bool, errno api.Errno) {
	t.Helper()
	if got, err := wait.Past(now, at); got != want || plain.Told(err) != errno {
		t.Errorf("Past(%v, %d): got %v, %v; want %v, %v", now, at, got, plain.Told(err), want, errno)
	}
}

func wantFuture(t *testing.T, now api.Span, at int, want bool, errno api.Errno) {
	t.Helper()
	if got, err := wait.Future(now, at); got != want || plain.Told(err) != errno {
		t.Errorf("Future(%v, %d): got %v, %v; want %v, %v", now, at, got, plain.Told(err), want, errno)
	}
}

func wantStamp(t *testing.T, now api.Span, want int, errno api.Errno) {
	t.Helper()
	if got, err := wait.Stamp(now); got != want || plain.Told(err) != errno {
		t.Errorf("Stamp(%v): got %d, %v; want %d, %v", now, got, plain.Told(err), want, errno)
	}
}

func wantWait(t *testing.T, now api.Span, at, ppm, want int, errno api.Errno) {
	t.Helper()
	if got, err := wait.Wait(now, at, ppm); got != want || plain.Told(err) != errno {
		t.Errorf("Wait(%v, %d, %d): got %d, %v; want %d, %v", now, at, ppm, got, plain.Told(err), want, errno)
	}
}

// leastTrue is True's Lo of n, in numbers that never wrap round, and also where True is no Span.
func leastTrue(n, ppm int) int {
	product := new(big.Int).Mul(big.NewInt(int64(n)), big.NewInt(million))
	return int(new(big.Int).Quo(product, big.NewInt(int64(million+ppm))).Int64())
}

// TestPastFuture: t just below Lo, at Lo, at Hi, and just above it, of wide Spans and of one number.
func TestPastFuture(t *testing.T) {
	for _, now := range []api.Span{
		sp(-3, 8), sp(0, 0), sp(5, 5), sp(-5, -5), sp(4, 5), sp(-1, 0), sp(0, 1), sp(-20, -7), sp(100, 2000),
		sp(-top+1, top-1), sp(-top+1, -top+1), sp(top-1, top-1), sp(57_908_042_631, 999_999_999_999),
	} {
		for _, c := range []struct {
			at           int
			past, future bool
		}{
			{-top, true, false}, {now.Lo - 1, true, false},
			{now.Lo, false, false}, {now.Lo + (now.Hi-now.Lo)/2, false, false}, {now.Hi, false, false},
			{now.Hi + 1, false, true}, {top, false, true},
		} {
			wantPast(t, now, c.at, c.past, api.OK)
			wantFuture(t, now, c.at, c.future, api.OK)
		}
	}
}

// TestEnds: Spans that end at MaxTime, either way, have no time beyond them.
func TestEnds(t *testing.T) {
	for _, c := range []struct {
		now          api.Span
		at           int
		past, future bool
	}{
		{sp(-top, top), -top, false, false}, {sp(-top, top), 0, false, false}, {sp(-top, top), top, false, false},
		{sp(-top, -top), -top, false, false}, {sp(-top, -top), -top + 1, false, true}, {sp(-top, -top), top, false, true},
		{sp(top, top), top, false, false}, {sp(top, top), top - 1, true, false}, {sp(top, top), -top, true, false},
	} {
		wantPast(t, c.now, c.at, c.past, api.OK)
		wantFuture(t, c.now, c.at, c.future, api.OK)
	}
}

// TestOneOfThree: of each t near a Span just one is so: it is Past, it is Future, or the Span has it.
func TestOneOfThree(t *testing.T) {
	for lo := -6; lo <= 6; lo++ {
		for hi := lo; hi <= 6; hi++ {
			now := sp(lo, hi)
			in := map[int]bool{}
			for at := lo; at <= hi; at++ {
				in[at] = true
			}
			for at := -9; at <= 9; at++ {
				past, _ := wait.Past(now, at)
				future, _ := wait.Future(now, at)
				if past && future || (past || future) == in[at] {
					t.Errorf("%v, %d: Past %v, Future %v, in it %v", now, at, past, future, in[at])
				}
			}
		}
	}
}

func TestStamp(t *testing.T) {
	for _, now := range []api.Span{
		sp(-3, 8), sp(0, 0), sp(7, 7), sp(-9, -2), sp(-2, 0), sp(-top, top), sp(top, top), sp(0, top), sp(-top, -top), sp(-top, top-1),
	} {
		wantStamp(t, now, now.Hi, api.OK)
		// What is stamped is neither over nor to come.
		wantPast(t, now, now.Hi, false, api.OK)
		wantFuture(t, now, now.Hi, false, api.OK)
	}
}

func TestWaitByHand(t *testing.T) {
	for _, c := range []struct {
		now           api.Span
		at, ppm, want int
	}{
		// Past: just so, and by far.
		{sp(5, 9), 4, 0, 0}, {sp(5, 9), 4, 1000, 0}, {sp(5, 9), -top, 1000, 0}, {sp(top, top), top - 1, 1, 0},
		// Just not Past: a true clock shows that much, any other one must show a number more.
		{sp(5, 9), 5, 0, 1}, {sp(5, 9), 5, 1, 2}, {sp(5, 9), 5, 1000, 2}, {sp(5, 5), 5, 1000, 2}, {sp(-5, 9), -5, 1000, 2},
		{sp(top, top), top, 0, 1}, {sp(top, top), top, 1000, 2}, {sp(-top, -top), -top, 0, 1}, {sp(-top, top), -top, 1000, 2},
		// Within the Span, and behind it: Hi has no part in it.
		{sp(-3, 8), 8, 0, 12}, {sp(-3, 8), 8, 1000, 13}, {sp(-3, 100), 8, 1000, 13}, {sp(-3, 8), 20, 338, 25},
		// Up to where one more is enough no longer.
		{sp(0, 0), 998, 1000, 1000}, {sp(0, 0), 999, 1000, 1001}, {sp(0, 0), 1000, 1000, 1003}, {sp(0, 0), 1999, 1000, 2002}, {sp(0, 0), 2000, 1000, 2004},
		{sp(1, 1), million, 1, million + 1}, {sp(1, 1), million + 1, 1, million + 3}, {sp(1, 1), million, 0, million}, {sp(1, 1), million, 1000, 1_001_000},
		{sp(-512_361, 0), 0, 802, 512_773},
		// Far.
		{sp(0, 0), 499_999_999_999, 1000, 500_500_000_000}, {sp(0, 0), 500_000_000_000, 1000, 500_500_000_002},
		{sp(-400_000_000_000, 1), 399_999_999_999, 500, 800_400_000_000},
	} {
		wantWait(t, c.now, c.at, c.ppm, c.want, api.OK)
	}
}

// TestWaitGreatest: n just at MaxTime, and just beyond. True of such an n is mostly no Span, for its Hi; its least is asked all the same.
func TestWaitGreatest(t *testing.T) {
	for _, c := range []struct{ passed, ppm, n int }{
		{top, 0, top}, {top - 1, 0, top - 1}, {999_001_997_004, 999, top}, {999_001_997_005, 999, top + 1},
		{999_999_000_000, 1, 999_999_999_999}, {999_999_000_001, 1, top + 1},
		{999_000_999_000, 1000, top - 1}, {999_000_998_999, 1000, top - 2}, {999_000_999_001, 1000, top + 1},
		{999_500_249_875, 500, top}, {999_500_249_876, 500, top + 1},
		// The greatest n of which True is a Span, and the next one.
		{998_001_998_001, 1000, 999_000_000_000}, {998_001_998_002, 1000, 999_000_000_001},
		{999_998_000_001, 1, 999_999_000_000}, {999_998_000_002, 1, 999_999_000_001},
		{top + 1, 0, top + 1}, {top, 1, top + million}, {2*top + 1, 0, 2*top + 1}, {2*top + 1, 1000, 2_002_000_000_002},
	} {
		want, errno := c.n, api.OK
		if c.n > top {
			want, errno = 0, api.ErrRange
		}
		for _, lo := range []int{-top, -top + 1, -top / 2, -1, 0, 1, 999_001, top - c.passed + 1} {
			at := lo + c.passed - 1
			if lo >= -top && at <= top {
				wantWait(t, sp(lo, max(lo, 0)), at, c.ppm, want, errno)
				wantWait(t, sp(lo, top), at, c.ppm, want, errno)
			}
		}
	}
	for _, ppm := range goodPpms() {
		wantWait(t, sp(-top, top), top, ppm, 0, api.ErrRange)
		wantWait(t, sp(-top, -top), 0, ppm, 0, api.ErrRange)
	}
}

// TestLeastByTrue: going up from 0, the first n of which True's Lo, and Lo, are above t.
func TestLeastByTrue(t *testing.T) {
	for _, ppm := range goodPpms() {
		n := 0
		for passed := 1; passed <= 5000; passed++ {
			for {
				truth, err := drift.True(n, ppm)
				if err != nil {
					t.Fatalf("True(%d, %d): %v", n, ppm, err)
				}
				if truth.Lo >= passed {
					break
				}
				n++
			}
			for _, lo := range []int{-2500, -1, 0, 7, top - passed, -top} {
				wantWait(t, sp(lo, min(lo+3, top)), lo+passed-1, ppm, n, api.OK)
			}
		}
	}
}

// anyPlace is a number near one that is an edge, or any one.
func anyPlace(r *rand.Rand) int {
	near := []int{0, top, -top, top / 2, -top / 2, 999_000_999_000 - top, million}[r.Intn(7)]
	if r.Intn(4) == 0 {
		return r.Intn(2*top+1) - top
	}
	return min(top, max(-top, near+r.Intn(5001)-2500))
}

// TestEnoughAndNoMore: the n that is told is enough, one less is not; and where none is told MaxTime is not enough.
func TestEnoughAndNoMore(t *testing.T) {
	r := rand.New(rand.NewSource(1))
	seen := map[string]int{}
	for range 200_000 {
		lo, at, ppm := anyPlace(r), anyPlace(r), r.Intn(1001)
		if r.Intn(8) == 0 {
			ppm = []int{0, 1000}[r.Intn(2)]
		}
		hi := lo + r.Intn(min(top-lo, 1000)+1)
		n, err := wait.Wait(sp(lo, hi), at, ppm)
		switch {
		case err == nil && at < lo:
			seen["Past"]++
			if n != 0 {
				t.Fatalf("Wait(%d..%d, %d, %d): got %d of what is over", lo, hi, at, ppm, n)
			}
		case err == nil:
			seen["n"]++
			if n < 1 || n > top || lo+leastTrue(n, ppm) <= at || lo+leastTrue(n-1, ppm) > at {
				t.Fatalf("Wait(%d..%d, %d, %d): got %d, of which True's Lo is %d, of one less %d", lo, hi, at, ppm, n, leastTrue(n, ppm), leastTrue(n-1, ppm))
			}
		default:
			seen["ErrRange"]++
			if n != 0 || plain.Told(err) != api.ErrRange || lo+leastTrue(top, ppm) > at {
				t.Fatalf("Wait(%d..%d, %d, %d): got %d, %v; at MaxTime True's Lo is %d", lo, hi, at, ppm, n, plain.Told(err), leastTrue(top, ppm))
			}
		}
	}
	for _, what := range []string{"Past", "n", "ErrRange"} {
		if seen[what] < 1000 {
			t.Errorf("%s was seen %d times alone", what, seen[what])
		}
	}
}

// TestSurelyOver: whatever rate a clock went by, within its bound, when it has gone by n, t is over, wherever in the Span it was.
func TestSurelyOver(t *testing.T) {
	r := rand.New(rand.NewSource(2))
	for range 50_000 {
		lo, ppm := r.Intn(2001)-1000, r.Intn(1001)
		now := sp(lo, lo+r.Intn(50))
		at := lo + r.Intn(100_000)
		n, err := wait.Wait(now, at, ppm)
		if err != nil {
			t.Fatalf("Wait(%v, %d, %d): %v", now, at, ppm, err)
		}
		rate := []int{-ppm, ppm, r.Intn(2*ppm+1) - ppm}[r.Intn(3)]
		// The least whole number of true time by which such a clock goes by n.
		passed := (n*million + million + rate - 1) / (million + rate)
		later := now.Lo + r.Intn(now.Hi-now.Lo+1) + passed
		if later <= at {
			t.Fatalf("Wait(%v, %d, %d): got %d, and by %d it is %d then", now, at, ppm, n, rate, later)
		}
	}
}

func wrongSpans() []api.Span {
	return []api.Span{
		sp(1, 0), sp(5, -5), sp(top, -top), sp(-top-1, 0), sp(-top-1, -top-1), sp(0, top+1), sp(top+1, top+1), sp(-top-1, top+1),
		sp(math.MinInt, math.MaxInt), sp(math.MaxInt, math.MinInt), sp(math.MinInt, 0), sp(0, math.MaxInt), sp(math.MinInt, math.MinInt), sp(math.MaxInt, math.MaxInt),
	}
}

func wrongTimes() []int { return []int{-top - 1, top + 1, math.MinInt, math.MaxInt, -2 * top, 2 * top} }

func wrongPpms() []int { return []int{-1, 1001, math.MinInt, math.MaxInt, million, -million} }

// TestWrongSpan: whatever else is handed in, right or wrong.
func TestWrongSpan(t *testing.T) {
	for _, now := range wrongSpans() {
		wantStamp(t, now, 0, api.ErrRange)
		for _, at := range append(wrongTimes(), -top, -1, 0, 1, top) {
			wantPast(t, now, at, false, api.ErrRange)
			wantFuture(t, now, at, false, api.ErrRange)
			for _, ppm := range append(wrongPpms(), 0, 1000) {
				wantWait(t, now, at, ppm, 0, api.ErrRange)
			}
		}
	}
}

// TestWrongTime: just beyond MaxTime either way, though it would surely be over, or to come.
func TestWrongTime(t *testing.T) {
	for _, now := range []api.Span{sp(0, 0), sp(-3, 8), sp(-top, top), sp(top, top), sp(-top, -top)} {
		for _, at := range wrongTimes() {
			wantPast(t, now, at, false, api.ErrRange)
			wantFuture(t, now, at, false, api.ErrRange)
			for _, ppm := range append(wrongPpms(), 0, 1000) {
				wantWait(t, now, at, ppm, 0, api.ErrRange)
			}
		}
	}
}

// TestWrongPpm: of a time that is over too, and of one of which no n would be told.
func TestWrongPpm(t *testing.T) {
	for _, ppm := range wrongPpms() {
		wantWait(t, sp(5, 9), 4, ppm, 0, api.ErrRange)
		wantWait(t, sp(5, 9), -top, ppm, 0, api.ErrRange)
		wantWait(t, sp(5, 9), 5, ppm, 0, api.ErrRange)
		wantWait(t, sp(5, 9), 10, ppm, 0, api.ErrRange)
		wantWait(t, sp(5, 9), top, ppm, 0, api.ErrRange)
		wantWait(t, sp(-top, top), top, ppm, 0, api.ErrRange)
	}
	for _, c := range []struct{ ppm, want int }{{0, 6}, {1, 7}, {999, 7}, {1000, 7}} {
		wantWait(t, sp(5, 9), 10, c.ppm, c.want, api.OK)
		wantWait(t, sp(5, 9), 4, c.ppm, 0, api.OK)
	}
}
