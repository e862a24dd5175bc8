package probe_test

import (
	"math"
	"math/big"
	"math/rand"
	"slices"
	"testing"

	"noonmark/api"
	"noonmark/plain"
	"noonmark/probe"
	"noonmark/span"
)

const (
	top     = api.MaxTime
	million = 1_000_000
)

func sp(lo, hi int) api.Span { return api.Span{Lo: lo, Hi: hi} }

func trip(t1, t2, t3, t4 int) api.Probe { return api.Probe{T1: t1, T2: t2, T3: t3, T4: t4} }

func wantCheck(t *testing.T, p api.Probe, errno api.Errno) {
	t.Helper()
	if err := probe.Check(p); plain.Told(err) != errno {
		t.Errorf("Check(%v): got %v; want %v", p, plain.Told(err), errno)
	}
}

func wantOffset(t *testing.T, p api.Probe, ppm int, want api.Span, errno api.Errno) {
	t.Helper()
	got, err := probe.Offset(p, ppm)
	if got != want || plain.Told(err) != errno {
		t.Errorf("Offset(%v, %d): got %v, %v; want %v, %v", p, ppm, got, plain.Told(err), want, errno)
	}
}

func wantRound(t *testing.T, p api.Probe, want int, errno api.Errno) {
	t.Helper()
	got, err := probe.Round(p)
	if got != want || plain.Told(err) != errno {
		t.Errorf("Round(%v): got %d, %v; want %d, %v", p, got, plain.Told(err), want, errno)
	}
}

func wantBest(t *testing.T, l []api.Probe, ppm, at int, want api.Span, errno api.Errno) {
	t.Helper()
	i, got, err := probe.Best(l, ppm)
	if i != at || got != want || plain.Told(err) != errno {
		t.Errorf("Best(%v, %d): got %d, %v, %v; want %d, %v, %v", l, ppm, i, got, plain.Told(err), at, want, errno)
	}
}

func TestCheck(t *testing.T) {
	for _, c := range []struct {
		p     api.Probe
		errno api.Errno
	}{
		{trip(0, 0, 0, 0), api.OK},
		{trip(-5, 90, 91, -5), api.OK},
		{trip(5, 90, 90, 6), api.OK},
		{trip(-top, -top, top, top), api.OK},
		{trip(top, top, top, top), api.OK},
		{trip(-top, -top, -top, -top), api.OK},
		{trip(5, 90, 91, 4), api.ErrShape},
		{trip(5, 90, 89, 6), api.ErrShape},
		{trip(5, 90, 89, 4), api.ErrShape},
		{trip(top, 0, 0, -top), api.ErrShape},
		{trip(0, top, -top, 0), api.ErrShape},
	} {
		wantCheck(t, c.p, c.errno)
	}
}

// TestCheckEachTime: each of the four is held to its bounds, and a number that is none goes ahead of a shape that is none.
func TestCheckEachTime(t *testing.T) {
	for _, bad := range []int{math.MinInt, math.MinInt + 1, -top - 1, top + 1, 3 * top, math.MaxInt} {
		for _, p := range []api.Probe{
			trip(bad, 0, 0, 0), trip(0, bad, 0, 0), trip(0, 0, bad, 0), trip(0, 0, 0, bad),
			trip(bad, 9, 8, 9), trip(9, bad, 0, 8), trip(9, 0, bad, 8), trip(9, 9, 8, bad),
			trip(bad, bad, bad, bad), trip(bad, 0, 0, bad), trip(0, bad, bad, 0),
		} {
			wantCheck(t, p, api.ErrRange)
			wantOffset(t, p, 1, api.Span{}, api.ErrRange)
			wantRound(t, p, 0, api.ErrRange)
			wantBest(t, []api.Probe{p}, 1, 0, api.Span{}, api.ErrRange)
		}
	}
}

func TestOffset(t *testing.T) {
	for _, c := range []struct {
		p    api.Probe
		ppm  int
		want api.Span
	}{
		{trip(0, 0, 0, 0), 0, sp(0, 2)},
		{trip(0, 0, 0, 0), 1000, sp(0, 2)},
		{trip(23, 32, 34, 36), 802, sp(-2, 12)},
		{trip(236, 299, 300, 275), 0, sp(25, 65)},
		{trip(-70, 10, 15, -50), 0, sp(65, 82)},
		// Rounded up: 1 times 3 millionths, then just 1, then just above it.
		{trip(0, 0, 0, 1), 1, sp(-1, 3)},
		{trip(0, 0, 0, 333_333), 1, sp(-333_333, 3)},
		{trip(0, 0, 0, 333_334), 1, sp(-333_334, 4)},
		{trip(0, 0, 0, million), 1, sp(-million, 5)},
		{trip(0, 0, 0, million+1), 1, sp(-million-1, 6)},
		{trip(0, 0, 0, 1000), 1000, sp(-1000, 5)},
		{trip(0, 0, 0, 1001), 1000, sp(-1001, 6)},
		// Three times rounded once, not thrice.
		{trip(0, 0, 0, 400), 1000, sp(-400, 4)},
		// It grows by how long it was here, whatever it was there.
		{trip(0, 0, 4_000, 4_000), 1000, sp(0, 14)},
		{trip(0, 0, 4_000, 1), 1000, api.Span{}},
		// As narrow as can be: a point.
		{trip(0, 10, 12, 0), 0, sp(12, 12)},
		{trip(0, 10, 15, 1), 333, api.Span{}},
		{trip(0, 10, 14, 1), 333, sp(13, 13)},
		// As far as can be, either way.
		{trip(0, -top, -top, 0), 0, sp(-top, -top+2)},
		{trip(-top, -top, -top, 0), 1000, sp(-top, 3_000_000_002)},
		{trip(0, -top, 0, top), 1000, sp(-top, -top+3_000_000_002)},
		{trip(0, top-2, top, 0), 0, sp(top, top)},
		{trip(0, top-3, top-1, 1), 1000, sp(top-2, top)},
	} {
		// None of these is 0..0: where nothing is wanted no clocks can be so.
		errno := api.OK
		if c.want == (api.Span{}) {
			errno = api.ErrClash
		}
		wantOffset(t, c.p, c.ppm, c.want, errno)
	}
}

// TestOffsetBounds: on each bound, and 1 beyond it.
func TestOffsetBounds(t *testing.T) {
	for _, c := range []struct {
		p     api.Probe
		ppm   int
		want  api.Span
		errno api.Errno
	}{
		// How long it was here.
		{trip(-1, 0, 0, top-1), 0, sp(-top+1, 3), api.OK},
		{trip(-1, 5, 9, top), 0, api.Span{}, api.ErrRange},
		{trip(-top, 0, 0, top), 0, api.Span{}, api.ErrRange},
		// Lo, below and above.
		{trip(0, 0, 0, top), 0, sp(-top, 2), api.OK},
		{trip(0, -1, -1, top), 0, api.Span{}, api.ErrRange},
		{trip(-1, top-1, top, -1), 0, api.Span{}, api.ErrRange},
		{trip(-1, 0, top, -1), 0, api.Span{}, api.ErrRange},
		{trip(0, 0, top, 0), 0, api.Span{}, api.ErrClash},
		{trip(-top, 0, top, -top), 0, api.Span{}, api.ErrRange},
		// Hi, above and below.
		{trip(-1, top-3, top-3, -1), 0, sp(top-2, top), api.OK},
		{trip(-1, top-2, top-2, -1), 0, api.Span{}, api.ErrRange},
		{trip(0, top-3, top-3, 1), 1, sp(top-4, top), api.OK},
		{trip(0, top-2, top-2, 1), 1, api.Span{}, api.ErrRange},
		{trip(2, -top, 0, 2), 0, api.Span{}, api.ErrClash},
		{trip(3, -top, 0, 3), 0, api.Span{}, api.ErrRange},
		{trip(top, -top, top, top), 1000, api.Span{}, api.ErrRange},
	} {
		wantOffset(t, c.p, c.ppm, c.want, c.errno)
	}
}

func TestClash(t *testing.T) {
	// It was there for 3 while it was away for none: 2 of that may be what clocks do not show.
	wantOffset(t, trip(7, 20, 22, 7), 1000, sp(15, 15), api.OK)
	wantOffset(t, trip(7, 20, 23, 7), 1000, api.Span{}, api.ErrClash)
	wantOffset(t, trip(7, 20, 24, 8), 0, api.Span{}, api.ErrClash)
	wantOffset(t, trip(7, 20, 24, 8), 1, sp(16, 16), api.OK)
}

// TestFirstFault: what is wrong with the probe, then numbers, then what cannot be.
func TestFirstFault(t *testing.T) {
	for _, c := range []struct {
		p     api.Probe
		ppm   int
		errno api.Errno
	}{
		{trip(top+1, 0, 0, 0), -1, api.ErrRange},
		{trip(5, 0, 0, 4), -1, api.ErrShape},
		{trip(5, 0, 0, 4), 1001, api.ErrShape},
		{trip(0, 5, 4, 0), math.MinInt, api.ErrShape},
		{trip(-top, 5, 4, top), 0, api.ErrShape},
		{trip(top, -top, top, -top), 0, api.ErrShape},
		{trip(0, 0, 9, 0), -1, api.ErrRange},
		{trip(0, 0, 9, 0), 1001, api.ErrRange},
		{trip(0, 0, 9, 0), 1000, api.ErrClash},
		{trip(-1, 0, top, -1), 0, api.ErrRange},
	} {
		wantOffset(t, c.p, c.ppm, api.Span{}, c.errno)
		wantBest(t, []api.Probe{c.p}, c.ppm, 0, api.Span{}, c.errno)
	}
}

func TestBadPpm(t *testing.T) {
	for _, ppm := range []int{math.MinInt, math.MinInt/3 - 1, -1000, -1, 1001, 3000, million, math.MaxInt / 3, math.MaxInt/3 + 1, math.MaxInt} {
		wantOffset(t, trip(0, 0, 0, 0), ppm, api.Span{}, api.ErrRange)
		wantOffset(t, trip(0, 5, 6, 9), ppm, api.Span{}, api.ErrRange)
		wantBest(t, []api.Probe{trip(0, 5, 6, 9)}, ppm, 0, api.Span{}, api.ErrRange)
	}
	wantOffset(t, trip(0, 5, 6, 9), 0, sp(-3, 7), api.OK)
	wantOffset(t, trip(0, 5, 6, 9), 1000, sp(-3, 8), api.OK)
}

func TestRound(t *testing.T) {
	wantRound(t, trip(0, 0, 0, 0), 0, api.OK)
	wantRound(t, trip(23, 32, 34, 36), 11, api.OK)
	wantRound(t, trip(-9, 100, 103, 1), 7, api.OK)
	// Nothing is said of what clocks cannot be so: it may be below 0, and twice as long as a time.
	wantRound(t, trip(7, 20, 30, 7), -10, api.OK)
	wantRound(t, trip(0, -top, top, 0), -2*top, api.OK)
	wantRound(t, trip(-top, 3, 3, top), 2*top, api.OK)
	wantRound(t, trip(-top, -top, top, top), 0, api.OK)
	wantRound(t, trip(5, 0, 0, 4), 0, api.ErrShape)
	wantRound(t, trip(0, 5, 4, 0), 0, api.ErrShape)
}

func TestBest(t *testing.T) {
	wider, narrow, alike := trip(0, 0, 0, 9), trip(0, 50, 50, 3), trip(0, 70, 71, 4)
	for _, c := range []struct {
		l    []api.Probe
		at   int
		want api.Span
	}{
		{[]api.Probe{wider}, 0, sp(-9, 2)},
		{[]api.Probe{wider, narrow}, 1, sp(47, 52)},
		{[]api.Probe{narrow, wider}, 0, sp(47, 52)},
		// Of those as wide the first, wherever they stand.
		{[]api.Probe{narrow, alike}, 0, sp(47, 52)},
		{[]api.Probe{alike, narrow}, 0, sp(67, 72)},
		{[]api.Probe{wider, alike, wider, narrow, alike}, 1, sp(67, 72)},
		{[]api.Probe{wider, wider, wider}, 0, sp(-9, 2)},
		// One as narrow as a point, and one that has 0 alone.
		{[]api.Probe{wider, narrow, trip(0, 10, 12, 0), trip(0, 20, 22, 0)}, 2, sp(12, 12)},
		{[]api.Probe{narrow, trip(0, -2, 0, 0)}, 1, sp(0, 0)},
		{[]api.Probe{trip(0, -2, 0, 0), narrow}, 0, sp(0, 0)},
	} {
		wantBest(t, c.l, 0, c.at, c.want, api.OK)
	}
}

// TestBestByPpm: which is the least wide hangs on ppm, not on the way there and back alone.
func TestBestByPpm(t *testing.T) {
	short, long := trip(0, 10, 10, 11), trip(0, 10, 4000, 4000)
	wantBest(t, []api.Probe{short, long}, 0, 1, sp(0, 12), api.OK)
	wantBest(t, []api.Probe{short, long}, 83, 1, sp(0, 13), api.OK)
	wantBest(t, []api.Probe{short, long}, 84, 0, sp(-1, 13), api.OK)
	wantBest(t, []api.Probe{long, short}, 84, 0, sp(0, 14), api.OK)
	wantBest(t, []api.Probe{short, long}, 1000, 0, sp(-1, 13), api.OK)
}

func TestBestFaults(t *testing.T) {
	good, shape, clash, far := trip(0, 5, 6, 9), trip(1, 0, 0, 0), trip(0, 0, 9, 0), trip(0, top+1, 0, 0)
	wantBest(t, nil, 0, 0, api.Span{}, api.ErrNone)
	wantBest(t, []api.Probe{}, 0, 0, api.Span{}, api.ErrNone)
	wantBest(t, nil, -1, 0, api.Span{}, api.ErrNone)
	wantBest(t, []api.Probe{good, shape, clash, far}, 0, 0, api.Span{}, api.ErrShape)
	wantBest(t, []api.Probe{good, clash, shape, far}, 0, 0, api.Span{}, api.ErrClash)
	wantBest(t, []api.Probe{good, far, clash, shape}, 0, 0, api.Span{}, api.ErrRange)
	wantBest(t, []api.Probe{good, good, good, clash}, 0, 0, api.Span{}, api.ErrClash)
	wantBest(t, []api.Probe{good, shape}, -1, 0, api.Span{}, api.ErrRange)
	wantBest(t, []api.Probe{shape, good}, -1, 0, api.Span{}, api.ErrShape)
}

func TestBestFull(t *testing.T) {
	l := slices.Repeat([]api.Probe{trip(0, 0, 0, 9)}, api.MaxSpans)
	l[39] = trip(0, 50, 50, 3)
	wantBest(t, l, 0, 39, sp(47, 52), api.OK)
	// Ahead of whatever else is wrong.
	wantBest(t, append(slices.Clone(l), trip(0, 0, 0, 9)), 0, 0, api.Span{}, api.ErrFull)
	wantBest(t, append([]api.Probe{trip(1, 0, 0, 0)}, l...), -1, 0, api.Span{}, api.ErrFull)
	wantBest(t, slices.Repeat(l, 100), 0, 0, api.Span{}, api.ErrFull)
}

// TestBestLeavesTheList: nothing is written into it, and what lies behind its length is not asked.
func TestBestLeavesTheList(t *testing.T) {
	memory := []api.Probe{trip(0, 0, 0, 9), trip(0, 50, 50, 3), trip(0, 10, 12, 0), trip(1, 0, 0, 0)}
	for n := range len(memory) {
		before := slices.Clone(memory)
		i, _, err := probe.Best(memory[:n], 0)
		if want := max(n-1, 0); i != want || (err != nil) != (n == 0) || !slices.Equal(memory, before) {
			t.Errorf("of %d: got %d, %v, %v", n, i, err, memory)
		}
	}
}

// modelled is what Offset is to answer, in numbers that never wrap round.
func modelled(p api.Probe, ppm int) (api.Span, api.Errno) {
	for _, n := range []int{p.T1, p.T2, p.T3, p.T4} {
		if n < -top || n > top {
			return api.Span{}, api.ErrRange
		}
	}
	if p.T4 < p.T1 || p.T3 < p.T2 {
		return api.Span{}, api.ErrShape
	}
	if ppm < 0 || ppm > 1000 || p.T4-p.T1 > top {
		return api.Span{}, api.ErrRange
	}
	product := new(big.Int).Mul(big.NewInt(int64(p.T4-p.T1)), big.NewInt(int64(3*ppm)))
	q, r := new(big.Int).QuoRem(product, big.NewInt(million), new(big.Int))
	lo, hi := p.T3-p.T4, p.T2-p.T1+2+int(q.Int64())+r.Sign()
	if lo < -top || lo > top || hi < -top || hi > top {
		return api.Span{}, api.ErrRange
	}
	if lo > hi {
		return api.Span{}, api.ErrClash
	}
	return sp(lo, hi), api.OK
}

// TestModel: all of four times out of those that lie on bounds, and beyond.
func TestModel(t *testing.T) {
	times := []int{math.MinInt, -top - 1, -top, -top + 3, -1_000_001, -1, 0, 2, 333_334, top - 3, top, top + 1, math.MaxInt}
	seen := map[api.Errno]int{}
	for _, t1 := range times {
		for _, t2 := range times {
			for _, t3 := range times {
				for _, t4 := range times {
					for _, ppm := range []int{-1, 0, 1, 777, 1000, 1001} {
						want, errno := modelled(trip(t1, t2, t3, t4), ppm)
						wantOffset(t, trip(t1, t2, t3, t4), ppm, want, errno)
						seen[errno]++
					}
				}
			}
		}
	}
	for _, errno := range []api.Errno{api.OK, api.ErrRange, api.ErrShape, api.ErrClash} {
		if seen[errno] < 20 {
			t.Errorf("%v was asked for %d times alone", errno, seen[errno])
		}
	}
}

// TestModelOfBest: which of some is the best, against what is asked one by one.
func TestModelOfBest(t *testing.T) {
	r := rand.New(rand.NewSource(3))
	for range 3000 {
		l := make([]api.Probe, r.Intn(42))
		for i := range l {
			t1, t2 := r.Intn(50)-25, r.Intn(50)
			stay := r.Intn(4)
			l[i] = trip(t1, t2, t2+stay, t1+stay+r.Intn(30))
			if r.Intn(60) == 0 {
				l[i].T3 += r.Intn(80) - 40
			}
		}
		ppm := r.Intn(1001)
		at, want, errno := modelledBest(l, ppm)
		wantBest(t, l, ppm, at, want, errno)
	}
}

func modelledBest(l []api.Probe, ppm int) (int, api.Span, api.Errno) {
	if len(l) > 40 {
		return 0, api.Span{}, api.ErrFull
	}
	if len(l) == 0 {
		return 0, api.Span{}, api.ErrNone
	}
	spans := make([]api.Span, len(l))
	least := math.MaxInt
	for i, p := range l {
		s, errno := modelled(p, ppm)
		if errno != api.OK {
			return 0, api.Span{}, errno
		}
		spans[i], least = s, min(least, s.Hi-s.Lo)
	}
	i := slices.IndexFunc(spans, func(s api.Span) bool { return s.Hi-s.Lo == least })
	return i, spans[i], api.OK
}

// shows is what a clock shows when so much true time passed: whole numbers alone.
func shows(start, rate, t int) int {
	product := t * rate
	more := product / million
	if product%million < 0 {
		more--
	}
	return start + t + more
}

// anyDelay is often none, so that what truly is comes near the ends.
func anyDelay(r *rand.Rand) int {
	return r.Intn([]int{1, 1, 4, 400, 2000, 1_000_000}[r.Intn(6)])
}

// TestWhatItTrulyIs: whatever rates are within ppm, and however late letters are, what it truly is is in it.
func TestWhatItTrulyIs(t *testing.T) {
	r := rand.New(rand.NewSource(17))
	touchedLo, touchedHi := 0, 0
	for range 200_000 {
		ppm := []int{0, 1, 50, 999, 1000}[r.Intn(5)]
		rates := []int{-ppm, 0, ppm, r.Intn(2*ppm+1) - ppm}
		here, there := rates[r.Intn(4)], rates[r.Intn(4)]
		startHere, startThere := r.Intn(1000), r.Intn(1000)
		at := r.Intn(10_000_000)
		heard := at + anyDelay(r)
		answered := heard + anyDelay(r)
		back := answered + anyDelay(r)
		p := trip(shows(startHere, here, at), shows(startThere, there, heard), shows(startThere, there, answered), shows(startHere, here, back))
		truth := shows(startThere, there, back) - p.T4
		s, err := probe.Offset(p, ppm)
		if has, ill := span.Has(s, truth); err != nil || ill != nil || !has {
			t.Fatalf("Offset(%v, %d): %v, %v has not %d", p, ppm, s, err, truth)
		}
		if s.Lo == truth {
			touchedLo++
		}
		if s.Hi-truth < 2 {
			touchedHi++
		}
	}
	if touchedLo == 0 || touchedHi == 0 {
		t.Errorf("the ends were come near %d and %d times", touchedLo, touchedHi)
	}
}
