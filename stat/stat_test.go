package stat_test

import (
	"math"
	"math/rand"
	"slices"
	"testing"

	"noonmark/api"
	"noonmark/plain"
	"noonmark/stat"
)

const top = api.MaxTime

// wrongNumbers are below -MaxTime or above MaxTime.
var wrongNumbers = []int{-top - 1, top + 1, -2 * top, 2 * top, math.MinInt, math.MinInt + 1, math.MaxInt - 1, math.MaxInt}

func sp(lo, hi int) api.Span { return api.Span{Lo: lo, Hi: hi} }

// spans of numbers, two by two.
func spans(ends ...int) (l []api.Span) {
	for i := 0; i+1 < len(ends); i += 2 {
		l = append(l, sp(ends[i], ends[i+1]))
	}
	return l
}

func numbers(l ...int) []int { return l }

func wantWidths(t *testing.T, l []api.Span, want []int, errno api.Errno) {
	t.Helper()
	got, err := stat.Widths(l)
	if !slices.Equal(got, want) || plain.Told(err) != errno {
		t.Errorf("Widths(%v): got %v, %v; want %v, %v", l, got, plain.Told(err), want, errno)
	}
}

func wantMedian(t *testing.T, l []int, want int, errno api.Errno) {
	t.Helper()
	if got, err := stat.Median(l); got != want || plain.Told(err) != errno {
		t.Errorf("Median(%v): got %v, %v; want %v, %v", l, got, plain.Told(err), want, errno)
	}
}

func wantMean(t *testing.T, l []int, want int, errno api.Errno) {
	t.Helper()
	if got, err := stat.Mean(l); got != want || plain.Told(err) != errno {
		t.Errorf("Mean(%v): got %v, %v; want %v, %v", l, got, plain.Told(err), want, errno)
	}
}

func wantWander(t *testing.T, l []int, n, want int, errno api.Errno) {
	t.Helper()
	if got, err := stat.Wander(l, n); got != want || plain.Told(err) != errno {
		t.Errorf("Wander(%v, %d): got %v, %v; want %v, %v", l, n, got, plain.Told(err), want, errno)
	}
}

// wantNone of numbers, whatever n is: of one fault that all three tell.
func wantNone(t *testing.T, l []int, errno api.Errno) {
	t.Helper()
	wantMedian(t, l, 0, errno)
	wantMean(t, l, 0, errno)
	for _, n := range []int{math.MinInt, -1, 0, 1, len(l) - 1, len(l), len(l) + 1, math.MaxInt} {
		wantWander(t, l, n, 0, errno)
	}
}

func TestWidths(t *testing.T) {
	wantWidths(t, spans(4, 11), numbers(7), api.OK)
	wantWidths(t, spans(-12, -10, 14, 18, 16, 17, 16, 16, -17, 20), numbers(2, 4, 1, 0, 37), api.OK)
	// In their order, and as often as they come.
	wantWidths(t, spans(0, 9, 0, 0, 5, 6, 0, 9, 0, 9), numbers(9, 0, 1, 9, 9), api.OK)
	wantWidths(t, spans(3, 3), numbers(0), api.OK)
	wantWidths(t, spans(0, 0, -1, 0, 0, 1, -1, 1), numbers(0, 1, 1, 2), api.OK)
	wantWidths(t, spans(-top, top, -top, -top, top, top, -top, 0, 1-top, top), numbers(2*top, 0, 0, top, 2*top-1), api.OK)
}

func TestWidthsFull(t *testing.T) {
	l, want := slices.Repeat(spans(0, 9), api.MaxSpans), slices.Repeat(numbers(9), api.MaxSpans)
	l[0], want[0] = sp(-3, -2), 1
	l[39], want[39] = sp(5, 20), 15
	wantWidths(t, l, want, api.OK)
	// Ahead of whatever else is wrong.
	wantWidths(t, append(slices.Clone(l), sp(0, 9)), nil, api.ErrFull)
	wantWidths(t, append(spans(9, 0), l...), nil, api.ErrFull)
	wantWidths(t, slices.Repeat(spans(0, top+1), 1000), nil, api.ErrFull)
	// As many numbers as may be are more Spans than may be.
	wantWidths(t, slices.Repeat(spans(0, 9), api.MaxPoints), nil, api.ErrFull)
}

func TestWidthsNone(t *testing.T) {
	wantWidths(t, nil, nil, api.ErrNone)
	wantWidths(t, []api.Span{}, nil, api.ErrNone)
	wantWidths(t, spans(9, 0, 0, top+1)[:0], nil, api.ErrNone)
}

// TestWidthsNoSpan: each of them is checked, as the first, in the middle and as the last.
func TestWidthsNoSpan(t *testing.T) {
	for _, bad := range spans(1, 0, -top-1, 0, 0, top+1, top, -top, math.MinInt, math.MaxInt, math.MaxInt, math.MinInt, top+1, top+1, -top-1, -top-1, math.MinInt, math.MinInt, math.MaxInt, math.MaxInt) {
		for _, n := range []int{1, 2, 3, 7, api.MaxSpans} {
			for at := range n {
				l := slices.Repeat(spans(3, 8), n)
				l[at] = bad
				wantWidths(t, l, nil, api.ErrRange)
			}
		}
	}
}

func TestMedian(t *testing.T) {
	for _, c := range []struct {
		l    []int
		want int
	}{
		{numbers(12), 12},
		{numbers(-2), -2},
		{numbers(0), 0},
		// Of an even number the lower one of both, not what is between.
		{numbers(4, 16), 4},
		{numbers(16, 4), 4},
		{numbers(-16, 4, -1, 7), -1},
		{numbers(-3, -8, -2, -7), -7},
		{numbers(10, 12, -14, -13, 18, 9, -2, 13), 9},
		{numbers(16, -8, 18), 16},
		{numbers(-13, -17, 0, -6, -8), -8},
		{numbers(17, -20, 19, -7, 1, 14, 17), 14},
		// Equal ones count one by one.
		{numbers(5, 5), 5},
		{numbers(1, 1, 9), 1},
		{numbers(9, 9, 1), 9},
		{numbers(1, 9, 9, 9), 9},
		{numbers(9, 1, 1, 9), 1},
		{numbers(0, 0, 0, 0, 0), 0},
		{numbers(-top, top), -top},
		{numbers(top, -top), -top},
		{numbers(top, -top, 0), 0},
		{numbers(top, top, -top), top},
		{numbers(top), top},
		{numbers(-top), -top},
	} {
		wantMedian(t, c.l, c.want, api.OK)
	}
}

// TestMedianOfAnyOrder: it hangs on the numbers alone.
func TestMedianOfAnyOrder(t *testing.T) {
	for _, c := range []struct {
		l    []int
		want int
	}{
		{numbers(1, 2, 3), 2},
		{numbers(1, 2, 3, 4), 2},
		{numbers(1, 2, 2, 4), 2},
		{numbers(-7, -7, 3, 3), -7},
		{numbers(-5, -1, 0, 100, 1000), 0},
		{numbers(-5, -1, -1, 0, 0, 8), -1},
	} {
		for _, l := range orders(c.l) {
			wantMedian(t, l, c.want, api.OK)
		}
	}
}

// orders of numbers: all there are.
func orders(l []int) [][]int {
	if len(l) == 0 {
		return [][]int{nil}
	}
	all := [][]int{}
	for i, first := range l {
		for _, rest := range orders(slices.Concat(l[:i], l[i+1:])) {
			all = append(all, append([]int{first}, rest...))
		}
	}
	return all
}

func TestMean(t *testing.T) {
	for _, c := range []struct {
		l    []int
		want int
	}{
		{numbers(12), 12},
		{numbers(-18), -18},
		{numbers(0), 0},
		{numbers(4, 16), 10},
		// Just a multiple, above 0, below 0 and 0, one more, and one less.
		{numbers(1, 2, 3), 2},
		{numbers(1, 2, 4), 2},
		{numbers(1, 3, 4), 2},
		{numbers(1, 1, 3), 1},
		{numbers(-1, -2, -3), -2},
		{numbers(-1, -2, -4), -3},
		{numbers(-1, -3, -4), -3},
		{numbers(-1, -1, -3), -2},
		{numbers(-5, 0, 5), 0},
		{numbers(-5, 1, 5), 0},
		{numbers(-5, 2, 5), 0},
		{numbers(-6, 0, 5), -1},
		{numbers(-7, 0, 5), -1},
		{numbers(-8, 0, 5), -1},
		{numbers(-9, 0, 5), -2},
		{numbers(0, 1), 0},
		{numbers(0, -1), -1},
		{numbers(-16, 4, -1, 7), -2},
		{numbers(7, 7, 7, 7), 7},
		{numbers(top), top},
		{numbers(-top), -top},
		{numbers(top, -top), 0},
		{numbers(top, top-1), top - 1},
		{numbers(-top, 1-top), -top},
	} {
		wantMean(t, c.l, c.want, api.OK)
	}
}

func TestWander(t *testing.T) {
	for _, c := range []struct {
		l       []int
		n, want int
	}{
		{numbers(-16, 4, -1, 7), 2, 15},
		{numbers(-16, 4, -1, 7), 1, 20},
		{numbers(-16, 4, -1, 7), 3, 23},
		// The first two, those in the middle, and the last two, up and down.
		{numbers(0, 9, 8, 7, 6), 1, 9},
		{numbers(9, 0, 1, 2, 3), 1, 9},
		{numbers(0, 1, 9, 8, 7), 1, 8},
		{numbers(9, 8, 0, 1, 2), 1, 8},
		{numbers(0, 1, 2, 3, 9), 1, 6},
		{numbers(9, 8, 7, 6, 0), 1, 6},
		{numbers(0, 1, 20, 3, 4, 5), 2, 20},
		{numbers(0, 1, 2, 30, 4, 5), 2, 29},
		{numbers(0, 1, 2, 3, 4, 50), 2, 47},
		{numbers(0, -1, -20, -3, -4, -5), 2, 20},
		{numbers(0, -1, -2, -3, -4, -50), 2, 47},
		// Just n apart, not at most, and not at least.
		{numbers(0, 50, 0, 50, 0), 2, 0},
		{numbers(0, 0, 50, 50), 1, 50},
		{numbers(0, 0, 50, 50), 3, 50},
		{numbers(0, 90, 1, 91, 2), 2, 1},
		{numbers(0, 90, 1, 91, 2), 4, 2},
		// The first and the last one alone.
		{numbers(16, -8, 18), 2, 2},
		{numbers(18, -8, 16), 2, 2},
		{numbers(4, 16), 1, 12},
		{numbers(16, 4), 1, 12},
		{numbers(5, 5), 1, 0},
		{numbers(5, 5, 5, 5), 2, 0},
		{numbers(-top, top), 1, 2 * top},
		{numbers(top, -top), 1, 2 * top},
		{numbers(top, 0, -top, 0), 1, top},
		{numbers(top, 0, -top, 0), 2, 2 * top},
		{numbers(top, 0, -top, 0), 3, top},
	} {
		wantWander(t, c.l, c.n, c.want, api.OK)
	}
}

// TestApart: which n may be, of lists of each length.
func TestApart(t *testing.T) {
	for many := 1; many <= api.MaxPoints; many++ {
		l := make([]int, many)
		for i := range l {
			l[i] = 3 * i
		}
		for n := 1; n < many; n++ {
			wantWander(t, l, n, 3*n, api.OK)
		}
		for _, n := range []int{0, -1, -2, 1 - many, -many, math.MinInt, math.MinInt + 1, many, many + 1, 2 * many, api.MaxPoints, api.MaxPoints + 1, 1 << 32, 1<<32 + 1, math.MaxInt - 1, math.MaxInt} {
			wantWander(t, l, n, 0, api.ErrRange)
		}
	}
}

func TestFull(t *testing.T) {
	l := make([]int, api.MaxPoints)
	for i := range l {
		l[i] = i * i
	}
	wantMedian(t, l, 29*29, api.OK)
	wantMean(t, l, 59*60*119/6/60, api.OK)
	wantWander(t, l, 1, 59*59-58*58, api.OK)
	wantWander(t, l, 59, 59*59, api.OK)
	for _, n := range []int{-top, top} {
		l = slices.Repeat(numbers(n), api.MaxPoints)
		wantMedian(t, l, n, api.OK)
		wantMean(t, l, n, api.OK)
		wantWander(t, l, 59, 0, api.OK)
	}
	// Ahead of whatever else is wrong.
	wantNone(t, slices.Repeat(numbers(7), api.MaxPoints+1), api.ErrFull)
	wantNone(t, append(slices.Clone(l), top+1), api.ErrFull)
	wantNone(t, append(numbers(-top-1), l...), api.ErrFull)
	wantNone(t, slices.Repeat(numbers(math.MaxInt, math.MinInt), 1000), api.ErrFull)
}

// TestNone: ahead of that n is none, as no n is one there.
func TestNone(t *testing.T) {
	wantNone(t, nil, api.ErrNone)
	wantNone(t, []int{}, api.ErrNone)
	wantNone(t, numbers(math.MaxInt, 5)[:0], api.ErrNone)
}

// TestNoNumber: each of them is asked, alone and wherever it stands beside good ones, also where it is neither in the middle nor n apart of any.
func TestNoNumber(t *testing.T) {
	for _, bad := range wrongNumbers {
		for _, many := range []int{1, 2, 3, 4, 9, api.MaxPoints} {
			for at := range many {
				l := slices.Repeat(numbers(3, -8), many)[:many]
				l[at] = bad
				wantNone(t, l, api.ErrRange)
			}
		}
		// Two that are wrong either way, so that neither their sum nor their difference is.
		wantNone(t, numbers(bad, 0, -bad), api.ErrRange)
		wantNone(t, numbers(bad, bad, bad), api.ErrRange)
	}
}

// TestLeavesTheList: nothing is written into it, and what lies behind its length is not asked.
func TestLeavesTheList(t *testing.T) {
	memory := numbers(8, -3, 20, -11, 6, math.MaxInt, math.MinInt)
	before := slices.Clone(memory)
	for many, want := range []struct{ median, mean, wander int }{{}, {8, 8, 0}, {-3, 2, 11}, {8, 8, 23}, {-3, 3, 31}, {6, 4, 31}} {
		l, errno, apart := memory[:many], api.OK, api.OK
		if many == 0 {
			errno, apart = api.ErrNone, api.ErrNone
		}
		if many == 1 {
			apart = api.ErrRange
		}
		wantMedian(t, l, want.median, errno)
		wantMean(t, l, want.mean, errno)
		wantWander(t, l, 1, want.wander, apart)
	}
	wantNone(t, memory, api.ErrRange)
	if !slices.Equal(memory, before) {
		t.Errorf("the numbers were %v, and are %v", before, memory)
	}
}

func TestLeavesTheSpans(t *testing.T) {
	memory := spans(8, 20, 0, 9, 5, 5, 9, 0)
	before := slices.Clone(memory)
	wantWidths(t, memory[:0], nil, api.ErrNone)
	wantWidths(t, memory[:1], numbers(12), api.OK)
	wantWidths(t, memory[:2], numbers(12, 9), api.OK)
	wantWidths(t, memory[:3], numbers(12, 9, 0), api.OK)
	wantWidths(t, memory, nil, api.ErrRange)
	if !slices.Equal(memory, before) {
		t.Errorf("the spans were %v, and are %v", before, memory)
	}
}

// TestKeepsNothing: what is answered hangs on what the list has when it is asked, and what came out is the caller's.
func TestKeepsNothing(t *testing.T) {
	l := spans(8, 20, 0, 9)
	first, _ := stat.Widths(l)
	clear(first[:cap(first)])
	wantWidths(t, l, numbers(12, 9), api.OK)
	second, _ := stat.Widths(l)
	l[0] = sp(1, 2)
	wantWidths(t, l, numbers(1, 9), api.OK)
	if !slices.Equal(second, numbers(12, 9)) {
		t.Errorf("what came out was 12 and 9, and is %v", second)
	}

	n := numbers(4, 1, 9)
	wantMedian(t, n, 4, api.OK)
	wantMean(t, n, 4, api.OK)
	wantWander(t, n, 1, 8, api.OK)
	n[0] = 100
	wantMedian(t, n, 9, api.OK)
	wantMean(t, n, 36, api.OK)
	wantWander(t, n, 1, 99, api.OK)
}

// isMedian by counting: fewer than half are below it, and at least half are not above it.
func isMedian(l []int, m int) bool {
	below, upTo := 0, 0
	for _, n := range l {
		if n < m {
			below++
		}
		if n <= m {
			upTo++
		}
	}
	return slices.Contains(l, m) && 2*below < len(l) && 2*upTo >= len(l)
}

// isMean: so many times it is not above the sum, and of one more it would be.
func isMean(l []int, m int) bool {
	left := 0
	for _, n := range l {
		left += n - m
	}
	return 0 <= left && left < len(l)
}

// greatest difference of two that stand n apart, of all two that there are.
func greatest(l []int, n int) int {
	most := 0
	for i, a := range l {
		for k, b := range l {
			if k-i == n || i-k == n {
				most = max(most, a-b)
			}
		}
	}
	return most
}

// TestAnyNumbers, held to what is asked of each number, of all together, and of each two.
func TestAnyNumbers(t *testing.T) {
	r := rand.New(rand.NewSource(19))
	for range 3000 {
		l := make([]int, 1+r.Intn(api.MaxPoints))
		reach := []int{1, 3, 20, 1000, top}[r.Intn(5)]
		for i := range l {
			l[i] = r.Intn(2*reach+1) - reach
		}
		if m, err := stat.Median(l); err != nil || !isMedian(l, m) {
			t.Fatalf("Median(%v): got %v, %v", l, m, plain.Told(err))
		}
		if m, err := stat.Mean(l); err != nil || !isMean(l, m) {
			t.Fatalf("Mean(%v): got %v, %v", l, m, plain.Told(err))
		}
		for n := 1; n < len(l); n++ {
			wantWander(t, l, n, greatest(l, n), api.OK)
		}
		if t.Failed() {
			t.FailNow()
		}
	}
}

// TestAnySpans: each width is that of the span at its place.
func TestAnySpans(t *testing.T) {
	r := rand.New(rand.NewSource(20))
	for range 1000 {
		l, want := []api.Span{}, []int{}
		for range 1 + r.Intn(api.MaxSpans) {
			lo := r.Intn(2*top+1) - top
			wide := r.Intn(top - lo + 1)
			l, want = append(l, sp(lo, lo+wide)), append(want, wide)
		}
		wantWidths(t, l, want, api.OK)
	}
}
