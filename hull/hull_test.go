package hull_test

import (
	"cmp"
	"math"
	"math/big"
	"math/rand"
	"slices"
	"testing"

	"noonmark/api"
	"noonmark/hull"
	"noonmark/plain"
)

const far = 1_000_000

// points makes them of numbers, two by two: X, Y.
func points(of ...int) (l []api.Point) {
	for i := 0; i+1 < len(of); i += 2 {
		l = append(l, api.Point{X: of[i], Y: of[i+1]})
	}
	return l
}

// many points that are all the same.
func many(n, x, y int) []api.Point {
	return slices.Repeat(points(x, y), n)
}

// mirrored: each point with its X and Y times these.
func mirrored(l []api.Point, x, y int) (out []api.Point) {
	for _, p := range l {
		out = append(out, api.Point{X: x * p.X, Y: y * p.Y})
	}
	return out
}

func wantHull(t *testing.T, name string, of func([]api.Point) ([]api.Point, error), l, want []api.Point, errno api.Errno) {
	t.Helper()
	got, err := of(l)
	if !slices.Equal(got, want) || plain.Told(err) != errno || (err != nil && got != nil) {
		t.Errorf("%s(%v): got %v, %v; want %v, %v", name, l, got, plain.Told(err), want, errno)
	}
}

func wantUpper(t *testing.T, l, want []api.Point) {
	t.Helper()
	wantHull(t, "Upper", hull.Upper, l, want, api.OK)
}

func wantLower(t *testing.T, l, want []api.Point) {
	t.Helper()
	wantHull(t, "Lower", hull.Lower, l, want, api.OK)
}

func wantAt(t *testing.T, name string, at func([]api.Point, int) (int, error), l []api.Point, x, want int, errno api.Errno) {
	t.Helper()
	got, err := at(l, x)
	if got != want || plain.Told(err) != errno {
		t.Errorf("%s(%v, %d): got %v, %v; want %v, %v", name, l, x, got, plain.Told(err), want, errno)
	}
}

// wantBoth: Over and Under at an x.
func wantBoth(t *testing.T, l []api.Point, x, over, under int) {
	t.Helper()
	wantAt(t, "Over", hull.Over, l, x, over, api.OK)
	wantAt(t, "Under", hull.Under, l, x, under, api.OK)
}

// wantNoneAt: that neither is told at an x.
func wantNoneAt(t *testing.T, l []api.Point, x int, errno api.Errno) {
	t.Helper()
	wantAt(t, "Over", hull.Over, l, x, 0, errno)
	wantAt(t, "Under", hull.Under, l, x, 0, errno)
}

// wantSides: both hulls of points, of these in other orders, with each of them twice, and mirrored each way.
func wantSides(t *testing.T, l, upper, lower []api.Point) {
	t.Helper()
	r := rand.New(rand.NewSource(int64(len(l))))
	for i := range 6 {
		wantUpper(t, l, upper)
		wantLower(t, l, lower)
		wantUpper(t, mirrored(l, 1, -1), mirrored(lower, 1, -1))
		wantLower(t, mirrored(l, 1, -1), mirrored(upper, 1, -1))
		left, below := mirrored(upper, -1, 1), mirrored(lower, -1, 1)
		slices.Reverse(left)
		slices.Reverse(below)
		wantUpper(t, mirrored(l, -1, 1), left)
		wantLower(t, mirrored(l, -1, 1), below)
		l = slices.Clone(l)
		if i == 0 && 2*len(l) <= api.MaxPoints {
			l = append(l, l...)
		}
		r.Shuffle(len(l), func(a, b int) { l[a], l[b] = l[b], l[a] })
	}
	if err := hull.Check(l); err != nil {
		t.Errorf("Check(%v): got %v", l, plain.Told(err))
	}
}

// wantRefused: that all tell this error, whatever x is, and no more.
func wantRefused(t *testing.T, l []api.Point, errno api.Errno) {
	t.Helper()
	if err := hull.Check(l); plain.Told(err) != errno {
		t.Errorf("Check(%v): got %v; want %v", l, plain.Told(err), errno)
	}
	wantHull(t, "Upper", hull.Upper, l, nil, errno)
	wantHull(t, "Lower", hull.Lower, l, nil, errno)
	for _, x := range []int{0, 1, -1, 5, far, -far, far + 1, -far - 1, math.MaxInt, math.MinInt} {
		wantNoneAt(t, l, x, errno)
	}
}

func TestSides(t *testing.T) {
	wantSides(t, points(0, 4, 6, 8, 4, 0, 5, 5, 5, 9), points(0, 4, 5, 9, 6, 8), points(0, 4, 4, 0, 6, 8))
	wantSides(t, points(7, 1, 2, 1, 1, 0, 4, -6), points(1, 0, 2, 1, 7, 1), points(1, 0, 4, -6, 7, 1))
	// A square, and what is within it.
	wantSides(t, points(0, 0, 9, 0, 0, 9, 9, 9, 1, 1, 5, 8, 8, 4), points(0, 9, 9, 9), points(0, 0, 9, 0))
	// Each point is a corner of one side, or of both.
	wantSides(t, points(-3, 0, -2, 5, 0, 7, 2, 5, 3, 0, 2, -5, 0, -7, -2, -5), points(-3, 0, -2, 5, 0, 7, 2, 5, 3, 0), points(-3, 0, -2, -5, 0, -7, 2, -5, 3, 0))
	// Corners fall out one behind the other, down to the first one, at the last point alone.
	wantSides(t, points(0, 0, 1, 8, 2, 15, 3, 21, 4, 26, 5, 1000), points(0, 0, 5, 1000), points(0, 0, 4, 26, 5, 1000))
	// By a hair above the line, on it, and below it.
	wantSides(t, points(-far, -far, 0, 1, far, far), points(-far, -far, 0, 1, far, far), points(-far, -far, far, far))
	wantSides(t, points(-far, -far, 0, 0, far, far), points(-far, -far, far, far), points(-far, -far, far, far))
	wantSides(t, points(-far, -far, far-1, far-1, far, far-1), points(-far, -far, far-1, far-1, far, far-1), points(-far, -far, far, far-1))
	wantSides(t, points(-far, -far, 1-far, -far, far, 1-far), points(-far, -far, far, 1-far), points(-far, -far, 1-far, -far, far, 1-far))
}

// TestFew: no point, one, two, and two that are one.
func TestFew(t *testing.T) {
	wantSides(t, nil, nil, nil)
	wantSides(t, []api.Point{}, nil, nil)
	for _, l := range [][]api.Point{points(0, 0), points(5, -1), points(-7, 3), points(far, far), points(-far, -far)} {
		wantSides(t, l, l, l)
		wantBoth(t, l, l[0].X, l[0].Y, l[0].Y)
		wantNoneAt(t, l, l[0].X-1, api.ErrRange)
		wantNoneAt(t, l, l[0].X+1, api.ErrRange)
	}
	wantSides(t, points(4, 7, 1, -10), points(1, -10, 4, 7), points(1, -10, 4, 7))
	wantSides(t, points(4, 7, 4, 7), points(4, 7), points(4, 7))
	wantSides(t, points(3, 2, 4, 2), points(3, 2, 4, 2), points(3, 2, 4, 2))
}

// TestOneX: of several points of one X the highest one alone counts above, the lowest one below, at the ends too.
func TestOneX(t *testing.T) {
	wantSides(t, points(0, 0, 5, 2, 5, 9, 5, -4, 9, 0), points(0, 0, 5, 9, 9, 0), points(0, 0, 5, -4, 9, 0))
	wantSides(t, points(0, 3, 0, 9, 0, -4, 5, 1, 9, 2, 9, 7, 9, -1), points(0, 9, 9, 7), points(0, -4, 9, -1))
	// The lower one of an X would be above the line, too; and the highest one that is not above it hides none.
	wantSides(t, points(0, 0, 5, 2, 5, 3, 9, 0), points(0, 0, 5, 3, 9, 0), points(0, 0, 9, 0))
	wantSides(t, points(0, 0, 0, 8, 4, 8, 4, 2, 8, 8, 8, 0), points(0, 8, 8, 8), points(0, 0, 8, 0))
	// Upright lines: one corner, and heights at its X alone.
	for _, x := range []int{0, 3, -3, far, -far} {
		l := points(x, 1, x, 9, x, -4, x, 0, x, 9)
		wantSides(t, l, points(x, 9), points(x, -4))
		wantBoth(t, l, x, 9, -4)
		wantNoneAt(t, l, x-1, api.ErrRange)
		wantNoneAt(t, l, x+1, api.ErrRange)
	}
}

// TestOneLine: the ends alone are corners, on each side of a hull as well.
func TestOneLine(t *testing.T) {
	for _, slope := range []int{0, 1, -1, 7, -250} {
		l := []api.Point{}
		for x := -10; x <= 20; x++ {
			l = append(l, api.Point{X: x, Y: slope*x + 3})
		}
		ends := points(-10, -10*slope+3, 20, 20*slope+3)
		wantSides(t, l, ends, ends)
		for _, p := range l {
			wantBoth(t, l, p.X, p.Y, p.Y)
		}
	}
	wantSides(t, points(0, 0, 1, 1, 2, 2, 3, 3, 4, 2, 5, 1, 6, 0), points(0, 0, 3, 3, 6, 0), points(0, 0, 6, 0))
	// Two lines, the second a little less steep.
	wantSides(t, points(0, 0, 3, 3, 6, 6, 9, 8, 12, 10), points(0, 0, 6, 6, 12, 10), points(0, 0, 12, 10))
}

func TestOverUnder(t *testing.T) {
	l := points(0, 4, 6, 8, 4, 0, 5, 5, 5, 9)
	for x, want := range [][2]int{{4, 4}, {5, 3}, {6, 2}, {7, 1}, {8, 0}, {9, 4}, {8, 8}} {
		wantBoth(t, l, x, want[0], want[1])
	}
	wantNoneAt(t, l, -1, api.ErrRange)
	wantNoneAt(t, l, 7, api.ErrRange)
	// Where lines meet no whole number, above 0, below 0, and from one to the other.
	for _, c := range []struct {
		l           []api.Point
		over, under []int
	}{
		{points(0, 0, 3, 1), []int{0, 1, 1, 1}, []int{0, 0, 0, 1}},
		{points(0, 1, 3, 0), []int{1, 1, 1, 0}, []int{1, 0, 0, 0}},
		{points(0, 0, 3, -1), []int{0, 0, 0, -1}, []int{0, -1, -1, -1}},
		{points(0, -1, 3, 0), []int{-1, 0, 0, 0}, []int{-1, -1, -1, 0}},
		{points(0, 10, 4, 17), []int{10, 12, 14, 16, 17}, []int{10, 11, 13, 15, 17}},
		{points(0, 17, 4, 10), []int{17, 16, 14, 12, 10}, []int{17, 15, 13, 11, 10}},
		{points(0, -10, 4, -17), []int{-10, -11, -13, -15, -17}, []int{-10, -12, -14, -16, -17}},
		{points(0, -17, 4, -10), []int{-17, -15, -13, -11, -10}, []int{-17, -16, -14, -12, -10}},
		{points(0, -2, 4, 3), []int{-2, 0, 1, 2, 3}, []int{-2, -1, 0, 1, 3}},
		{points(0, 2, 4, -3), []int{2, 1, 0, -1, -3}, []int{2, 0, -1, -2, -3}},
		// Whole numbers between, too.
		{points(0, -6, 4, 6), []int{-6, -3, 0, 3, 6}, []int{-6, -3, 0, 3, 6}},
		{points(0, 3, 4, -3), []int{3, 2, 0, -1, -3}, []int{3, 1, 0, -2, -3}},
	} {
		for x, over := range c.over {
			wantBoth(t, c.l, x, over, c.under[x])
			// Upside down one is the other; and on the left of 0 it is the same.
			wantBoth(t, mirrored(c.l, 1, -1), x, -c.under[x], -over)
			wantBoth(t, mirrored(c.l, -1, 1), -x, over, c.under[x])
		}
		wantNoneAt(t, c.l, -1, api.ErrRange)
		wantNoneAt(t, c.l, len(c.over), api.ErrRange)
	}
}

// TestOut: an x just at the least X and at the greatest, wherever those stand, and just beyond.
func TestOut(t *testing.T) {
	for _, l := range [][]api.Point{
		points(3, 5, -8, 2, 12, -7, 12, 4, -8, 9),
		points(12, -7, 12, 4, 3, 5, -8, 9, -8, 2),
		points(-8, 9, 12, 4, -8, 2, 12, -7),
	} {
		wantBoth(t, l, -8, 9, 2)
		wantBoth(t, l, 12, 4, -7)
		for _, x := range []int{-9, 13, -100, 100, far, -far, far + 1, -far - 1, math.MaxInt, math.MinInt, math.MaxInt - 1, math.MinInt + 1} {
			wantNoneAt(t, l, x, api.ErrRange)
		}
	}
	l := points(far, -far, -far, far)
	wantBoth(t, l, far, -far, -far)
	wantBoth(t, l, -far, far, far)
	wantBoth(t, l, 0, 0, 0)
	wantBoth(t, l, 1-far, far-1, far-1)
	wantNoneAt(t, l, far+1, api.ErrRange)
	wantNoneAt(t, l, -far-1, api.ErrRange)
}

func TestNoPoints(t *testing.T) {
	for _, x := range []int{0, 1, -1, far, -far, far + 1, math.MaxInt, math.MinInt} {
		wantNoneAt(t, nil, x, api.ErrNone)
		wantNoneAt(t, []api.Point{}, x, api.ErrNone)
		wantNoneAt(t, points(0, 0)[:0], x, api.ErrNone)
	}
}

// TestFull: MaxPoints points, that are all corners of a side, or all the same; and more, whatever they are.
func TestFull(t *testing.T) {
	arch := []api.Point{}
	for x := range api.MaxPoints {
		arch = append(arch, api.Point{X: x, Y: x * (api.MaxPoints - x)})
	}
	wantSides(t, arch, arch, []api.Point{arch[0], arch[api.MaxPoints-1]})
	wantSides(t, many(api.MaxPoints, 3, 4), points(3, 4), points(3, 4))
	wantBoth(t, arch, 29, 29*31, 29)
	wantBoth(t, many(api.MaxPoints, 3, 4), 3, 4, 4)
	wantRefused(t, append(arch, arch[0]), api.ErrFull)
	wantRefused(t, many(api.MaxPoints+1, 3, 4), api.ErrFull)
	wantRefused(t, many(1000, 0, 0), api.ErrFull)
	// That is told ahead of what is wrong with points.
	wantRefused(t, many(api.MaxPoints+1, far+1, 0), api.ErrFull)
	wantRefused(t, many(api.MaxPoints+1, 0, math.MinInt), api.ErrFull)
}

// TestFar: X and Y just at the bounds, and just beyond, at any place, ahead of what is wrong with x.
func TestFar(t *testing.T) {
	wantSides(t, points(far, far, far, -far, -far, far, -far, -far), points(-far, far, far, far), points(-far, -far, far, -far))
	wantBoth(t, points(far, far, far, -far, -far, far, -far, -far), 77, far, -far)
	wantSides(t, points(-far, far, 0, -far, far, far), points(-far, far, far, far), points(-far, far, 0, -far, far, far))
	good := points(0, 0, 5, 5, -5, 1)
	for _, n := range []int{far + 1, -far - 1, 2 * far, -2 * far, math.MaxInt, math.MinInt, math.MaxInt32, math.MinInt32, 1 << 32, -1 << 40} {
		for _, bad := range [][]api.Point{points(n, 0), points(0, n), points(n, n), points(n, -far), points(far, n)} {
			wantRefused(t, bad, api.ErrRange)
			wantRefused(t, slices.Concat(bad, good), api.ErrRange)
			wantRefused(t, slices.Concat(good, bad), api.ErrRange)
			wantRefused(t, slices.Concat(good, bad, good), api.ErrRange)
			wantRefused(t, slices.Concat(many(api.MaxPoints-1, 5, 5), bad), api.ErrRange)
			// One that hides behind a higher and a lower one of its X.
			wantRefused(t, slices.Concat(points(0, far, 0, -far), bad), api.ErrRange)
		}
	}
}

// TestFresh: what is handed in stays as it is, what lies behind it is not read, and what comes out is the caller's.
func TestFresh(t *testing.T) {
	whole := points(6, 3, 2, 3, 6, -9, 4, 9, 8, -1, 100, 100, far+1, 0)
	was := slices.Clone(whole)
	for range 3 {
		for _, of := range []func([]api.Point) ([]api.Point, error){hull.Upper, hull.Lower} {
			got, err := of(whole[:5])
			if err != nil {
				t.Fatal(err)
			}
			for i := range got {
				got[i] = api.Point{X: 77, Y: -77}
			}
			_ = append(got, api.Point{X: 78})
			one, err := of(whole[:1])
			if err != nil || len(one) != 1 {
				t.Fatal(one, err)
			}
			one[0] = api.Point{X: 79}
		}
		wantUpper(t, whole[:5], points(2, 3, 4, 9, 8, -1))
		wantLower(t, whole[:5], points(2, 3, 6, -9, 8, -1))
		wantBoth(t, whole[:5], 5, 7, -6)
		wantNoneAt(t, whole[:5], 9, api.ErrRange)
	}
	if !slices.Equal(whole, was) {
		t.Errorf("what is handed in was changed: %v", whole)
	}
}

// height of the line from a point on the left to one on the right, not rounded.
func height(left, right api.Point, x int) *big.Rat {
	h := big.NewRat(int64(right.Y-left.Y), int64(right.X-left.X))
	h.Mul(h, big.NewRat(int64(x-left.X), 1))
	return h.Add(h, big.NewRat(int64(left.Y), 1))
}

// modelUpper asks of each point what the document does: whether it is above each line over it.
func modelUpper(l []api.Point) (found []api.Point) {
	for _, p := range l {
		hidden := slices.ContainsFunc(l, func(q api.Point) bool { return q.X == p.X && q.Y > p.Y })
		under := slices.ContainsFunc(l, func(left api.Point) bool {
			return slices.ContainsFunc(l, func(right api.Point) bool {
				return left.X < p.X && p.X < right.X && height(left, right, p.X).Cmp(big.NewRat(int64(p.Y), 1)) >= 0
			})
		})
		if !hidden && !under && !slices.Contains(found, p) {
			found = append(found, p)
		}
	}
	slices.SortFunc(found, func(a, b api.Point) int { return cmp.Compare(a.X, b.X) })
	return found
}

// modelTop is the greatest height at x of all points and of all lines between two of them, corners or not.
func modelTop(l []api.Point, x int) (top *big.Rat) {
	keep := func(h *big.Rat) {
		if top == nil || h.Cmp(top) > 0 {
			top = h
		}
	}
	for _, p := range l {
		if p.X == x {
			keep(big.NewRat(int64(p.Y), 1))
		}
		for _, q := range l {
			if p.X < x && x < q.X {
				keep(height(p, q, x))
			}
		}
	}
	return top
}

// isLeastFrom tells whether n is the least whole number that is not below h.
func isLeastFrom(n int, h *big.Rat) bool {
	return big.NewRat(int64(n), 1).Cmp(h) >= 0 && big.NewRat(int64(n-1), 1).Cmp(h) < 0
}

// anyPoints takes some of all kinds: close together, far apart, and near a line or a bow.
func anyPoints(r *rand.Rand) []api.Point {
	l := []api.Point{}
	wide := []int{1, 3, 9, 1_000, far}[r.Intn(5)]
	high := []int{0, 2, 9, 1_000, far}[r.Intn(5)]
	slope, bow := r.Intn(5)-2, r.Intn(3)-1
	for range []int{1, 2, 3, 8, 8, 20}[r.Intn(6)] {
		x, y := r.Intn(2*wide+1)-wide, r.Intn(2*high+1)-high
		if wide <= 9 {
			y += slope*x + bow*x*x
		}
		l = append(l, api.Point{X: x, Y: max(-far, min(far, y))})
	}
	return l
}

func TestAgainstModel(t *testing.T) {
	r := rand.New(rand.NewSource(1))
	for range 4_000 {
		l := anyPoints(r)
		down := mirrored(l, 1, -1)
		wantUpper(t, l, modelUpper(l))
		wantLower(t, l, mirrored(modelUpper(down), 1, -1))
		p, q := l[r.Intn(len(l))], l[r.Intn(len(l))]
		for _, x := range []int{p.X, q.X, (p.X + q.X) / 2, p.X + r.Intn(3) - 1, r.Intn(2*far+1) - far} {
			top := modelTop(l, x)
			if top == nil {
				wantNoneAt(t, l, x, api.ErrRange)
				continue
			}
			over, err := hull.Over(l, x)
			if err != nil || !isLeastFrom(over, top) {
				t.Errorf("Over(%v, %d): got %d, %v; the hull is at %v", l, x, over, plain.Told(err), top)
			}
			under, err := hull.Under(l, x)
			if low := modelTop(down, x); err != nil || !isLeastFrom(-under, low) {
				t.Errorf("Under(%v, %d): got %d, %v; the hull is at -(%v)", l, x, under, plain.Told(err), low)
			}
		}
		if t.Failed() {
			t.FailNow()
		}
	}
}
