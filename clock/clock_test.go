package clock_test

import (
	"math"
	"math/big"
	"math/rand"
	"testing"

	"noonmark/api"
	"noonmark/clock"
	"noonmark/plain"
)

const (
	top     = api.MaxTime
	million = 1_000_000
)

func sp(lo, hi int) api.Span { return api.Span{Lo: lo, Hi: hi} }

// hand holds a Clock, and each call on it to what it must tell.
type hand struct {
	t *testing.T
	c *clock.Clock
}

func made(t *testing.T, ppm int) hand {
	t.Helper()
	c, err := clock.New(ppm)
	if err != nil || c == nil {
		t.Fatalf("New(%d): got %v, %v", ppm, c, plain.Told(err))
	}
	return hand{t, c}
}

// learnedAt is a Clock that shows here, and has learned a Span then.
func learnedAt(t *testing.T, ppm, here, lo, hi int) hand {
	t.Helper()
	h := made(t, ppm)
	h.step(here, api.OK)
	h.learn(lo, hi, api.OK)
	return h
}

func (h hand) step(to int, errno api.Errno) {
	h.t.Helper()
	if err := h.c.Step(to); plain.Told(err) != errno {
		h.t.Errorf("Step(%d): got %v; want %v", to, plain.Told(err), errno)
	}
}

func (h hand) learn(lo, hi int, errno api.Errno) {
	h.t.Helper()
	if err := h.c.Learn(sp(lo, hi)); plain.Told(err) != errno {
		h.t.Errorf("Learn(%d..%d): got %v; want %v", lo, hi, plain.Told(err), errno)
	}
}

func (h hand) told(want api.Span, errno api.Errno) {
	h.t.Helper()
	if got, err := h.c.Now(); got != want || plain.Told(err) != errno {
		h.t.Errorf("Now at %d: got %v, %v; want %v, %v", h.c.Here(), got, plain.Told(err), want, errno)
	}
}

func (h hand) now(lo, hi int) {
	h.t.Helper()
	h.told(sp(lo, hi), api.OK)
}

func (h hand) noNow(errno api.Errno) {
	h.t.Helper()
	h.told(api.Span{}, errno)
}

func (h hand) point(want int, errno api.Errno) {
	h.t.Helper()
	if got, err := h.c.Point(); got != want || plain.Told(err) != errno {
		h.t.Errorf("Point at %d: got %d, %v; want %d, %v", h.c.Here(), got, plain.Told(err), want, errno)
	}
}

func (h hand) here(want int) {
	h.t.Helper()
	if got := h.c.Here(); got != want {
		h.t.Errorf("Here: got %d; want %d", got, want)
	}
}

func TestNew(t *testing.T) {
	for _, ppm := range []int{0, 1, 500, 501, api.MaxPpm - 1, api.MaxPpm} {
		h := made(t, ppm)
		h.here(0)
		h.noNow(api.ErrState)
		h.point(0, api.ErrState)
	}
	for _, ppm := range []int{-1, -2, -api.MaxPpm, api.MaxPpm + 1, 2 * api.MaxPpm, million, top, math.MinInt, math.MaxInt, 1 << 32} {
		if c, err := clock.New(ppm); c != nil || plain.Told(err) != api.ErrRange {
			t.Errorf("New(%d): got %v, %v; want nil, %v", ppm, c, plain.Told(err), api.ErrRange)
		}
	}
}

// TestStep: to what it shows already, just below it, to 0, to MaxTime, and just beyond; that a number is none that may be is told ahead of its going back.
func TestStep(t *testing.T) {
	h := made(t, 100)
	for _, shown := range []int{0, 1, 2, 77, 1_000_000, top - 1, top} {
		h.step(shown, api.OK)
		h.here(shown)
		h.step(shown, api.OK)
		for _, to := range []int{-1, -2, -top, -top - 1, math.MinInt, top + 1, 2 * top, math.MaxInt} {
			h.step(to, api.ErrRange)
		}
		for _, to := range []int{shown - 1, shown / 2, 1, 0} {
			if 0 <= to && to < shown {
				h.step(to, api.ErrBack)
			}
		}
		h.here(shown)
		h.noNow(api.ErrState)
		h.point(0, api.ErrState)
	}
	far := made(t, 0)
	far.step(top, api.OK)
	far.here(top)
}

// TestStillAtNothing: a Clock that was made but shows 0 still learns as any other one does.
func TestStillAtNothing(t *testing.T) {
	h := made(t, 1000)
	h.learn(44, 73, api.OK)
	h.here(0)
	h.now(43, 74)
	h.point(58, api.OK)
	h.step(0, api.OK)
	h.now(43, 74)
	h.learn(50, 50, api.OK)
	h.now(49, 51)
	h.point(0, api.ErrBack)
}

// TestLearn: by one number in common something is learned, by none nothing. What is known is that of Now, so it reaches one further than what was learned.
func TestLearn(t *testing.T) {
	for _, c := range []struct {
		lo, hi int
		errno  api.Errno
		want   api.Span
	}{
		{10, 20, api.OK, sp(9, 21)},  // the same again
		{12, 18, api.OK, sp(11, 19)}, // inside
		{15, 15, api.OK, sp(14, 16)}, // just one number
		{10, 15, api.OK, sp(9, 16)},  // inside, from an end on
		{-7, 15, api.OK, sp(8, 16)},  // over the lower end
		{15, 99, api.OK, sp(14, 22)}, // over the upper end
		{9, 21, api.OK, sp(8, 22)},   // just Now
		{-50, 50, api.OK, sp(8, 22)}, // more than is known
		{-top, top, api.OK, sp(8, 22)},
		{21, 30, api.OK, sp(20, 22)}, // one number in common
		{21, 21, api.OK, sp(20, 22)},
		{-30, 9, api.OK, sp(8, 10)},
		{9, 9, api.OK, sp(8, 10)},
		{22, 30, api.ErrClash, sp(9, 21)}, // none
		{22, 22, api.ErrClash, sp(9, 21)},
		{top, top, api.ErrClash, sp(9, 21)},
		{-30, 8, api.ErrClash, sp(9, 21)},
		{8, 8, api.ErrClash, sp(9, 21)},
		{-top, -top, api.ErrClash, sp(9, 21)},
	} {
		for _, here := range []int{0, 1, 1000, 777_777} {
			h := learnedAt(t, 0, here, 10, 20)
			h.now(here+9, here+21)
			h.learn(c.lo, c.hi, c.errno)
			h.now(here+c.want.Lo, here+c.want.Hi)
			h.here(here)
			// What was learned ahead is forgotten but for what both have; without an error alone.
			h.step(here+5, api.OK)
			h.now(here+5+c.want.Lo, here+5+c.want.Hi)
		}
	}
}

// TestLearnWrong: what is no Span is told ahead of all else, and nothing is learned by it.
func TestLearnWrong(t *testing.T) {
	wrong := []api.Span{
		sp(1, 0), sp(15, 14), sp(0, -1), sp(-top-1, 0), sp(0, top+1), sp(-top-1, top+1), sp(top+1, top+1), sp(-top-1, -top-1),
		sp(math.MinInt, math.MaxInt), sp(math.MaxInt, math.MinInt), sp(math.MinInt, math.MinInt), sp(math.MaxInt, math.MaxInt), sp(0, math.MaxInt), sp(math.MinInt, 0),
	}
	for _, w := range wrong {
		h := made(t, 500)
		h.learn(w.Lo, w.Hi, api.ErrRange)
		h.noNow(api.ErrState)
		h.point(0, api.ErrState)
		h.step(600, api.OK)
		h.learn(w.Lo, w.Hi, api.ErrRange)
		h.noNow(api.ErrState)
		h.learn(10, 20, api.OK)
		h.learn(w.Lo, w.Hi, api.ErrRange)
		h.now(609, 621)
		h.step(1600, api.OK)
		h.learn(w.Lo, w.Hi, api.ErrRange)
		h.now(1608, 1622)
		h.here(1600)
	}
}

// TestWrongLearnIsNoLearn: with an error of Learn the time since the last one goes on from where it was.
func TestWrongLearnIsNoLearn(t *testing.T) {
	h := learnedAt(t, 1000, 100, 10, 20)
	h.step(600, api.OK)
	h.now(608, 622)
	h.learn(23, 30, api.ErrClash)
	h.learn(-30, 7, api.ErrClash)
	h.learn(3, 2, api.ErrRange)
	h.now(608, 622)
	h.step(601, api.OK)
	h.now(608, 624)
	h.learn(8, 8, api.OK)
	h.now(608, 610)
	h.step(602, api.OK)
	h.now(608, 612)
}

// TestNow: right behind a Learn, and behind short ways and long ones since, where 2 times ppm is above MaxPpm too.
func TestNow(t *testing.T) {
	for _, c := range []struct{ ppm, since, more int }{
		{0, 0, 1}, {0, 1, 1}, {0, 999_999_999, 1},
		{1, 0, 1}, {1, 1, 2}, {1, 499_999, 2}, {1, 500_000, 2}, {1, 500_001, 3}, {1, 1_000_000, 3}, {1, 1_000_001, 4},
		{500, 0, 1}, {500, 1, 2}, {500, 1000, 2}, {500, 1001, 3},
		{501, 0, 1}, {501, 1, 2}, {501, 998, 2}, {501, 999, 3}, {501, 1_000_000, 1003}, {501, 1_000_001, 1004},
		{802, 505_775, 813}, {802, 505_853, 813},
		{1000, 0, 1}, {1000, 1, 2}, {1000, 499, 2}, {1000, 500, 2}, {1000, 501, 3}, {1000, 1_000_000, 2001}, {1000, 900_000_000_000, 1_800_000_001},
	} {
		for _, here := range []int{0, 1, 3, 1_000_003} {
			h := learnedAt(t, c.ppm, here, -5, 8)
			h.now(here-5-1, here+8+1)
			to := here + c.since
			h.step(to, api.OK)
			h.now(to-5-c.more, to+8+c.more)
			// Asking changes nothing.
			h.now(to-5-c.more, to+8+c.more)
		}
	}
}

// TestManySteps: however many Steps lead there, it is what went on since the last Learn that counts, rounded up once.
func TestManySteps(t *testing.T) {
	h := learnedAt(t, 1000, 7, 100, 100)
	for to := 8; to <= 507; to++ {
		h.step(to, api.OK)
		h.now(to+98, to+102)
	}
	h.step(508, api.OK)
	h.now(508+97, 508+103)
	h.learn(99, 101, api.OK)
	h.now(508+98, 508+102)
}

// TestUpperEnd: Now's Hi just at MaxTime, and just beyond; there nothing can be learned, and it never comes back.
func TestUpperEnd(t *testing.T) {
	for _, c := range []struct{ ppm, here, hi, to int }{
		{0, 0, top - 1, 0}, {1000, 0, top - 1, 0},
		{0, 0, top - 101, 100}, {0, 100, top - 101, 100},
		{1000, 0, top - 102, 100}, {1000, 50, top - 102, 100},
		{0, top, -1, top}, {1000, top, -1, top},
		{0, 0, -1, top}, {500, 0, -1_000_000_001, top}, {1000, 0, -2_000_000_001, top},
	} {
		at := learnedAt(t, c.ppm, c.here, c.hi-4, c.hi)
		at.step(c.to, api.OK)
		more := top - c.to - c.hi
		at.now(c.to+c.hi-4-more, top)
		at.point(top-2-more, api.OK)

		beyond := learnedAt(t, c.ppm, c.here, c.hi-3, c.hi+1)
		beyond.step(c.to, api.OK)
		wantStuck(beyond, c.to)
	}
	// One Step further, and what was learned is beyond.
	h := learnedAt(t, 0, 100, 0, top-101)
	h.now(99, top)
	h.step(101, api.OK)
	wantStuck(h, 101)
	h.step(top, api.OK)
	wantStuck(h, top)
}

// wantStuck: that Now is beyond MaxTime, so Learn says that, of what would clash and of what would not, and nothing else comes of it.
func wantStuck(h hand, here int) {
	h.t.Helper()
	for range 2 {
		h.noNow(api.ErrRange)
		h.point(0, api.ErrRange)
		for _, s := range []api.Span{sp(-top, top), sp(0, 0), sp(-top, -top), sp(top, top), sp(5, 4), sp(0, top+1)} {
			h.learn(s.Lo, s.Hi, api.ErrRange)
		}
		h.here(here)
	}
}

// TestLearnedBeyond: what both have may be widened beyond MaxTime, though neither was: it is learned, and Now says so then.
func TestLearnedBeyond(t *testing.T) {
	h := learnedAt(t, 0, 0, 0, top-1)
	h.now(-1, top)
	h.learn(-5, top, api.OK)
	wantStuck(h, 0)

	h = learnedAt(t, 0, 0, -top+1, 0)
	h.now(-top, 1)
	h.learn(-top, 5, api.OK)
	wantStuck(h, 0)
	h.step(1, api.OK)
	h.now(-top, 3)

	// The first one is learned whatever Now says then.
	for _, s := range []api.Span{sp(-top, top), sp(top, top), sp(-top, -top), sp(-top, 0), sp(0, top)} {
		wantStuck(learnedAt(t, 0, 0, s.Lo, s.Hi), 0)
	}
	for _, s := range []api.Span{sp(-top, top), sp(0, 0), sp(1, top)} {
		wantStuck(learnedAt(t, 1000, top, s.Lo, s.Hi), top)
	}
}

// TestLowerEnd: Now's Lo just at -MaxTime, and just beyond: there nothing can be learned till it has gone on.
func TestLowerEnd(t *testing.T) {
	for _, c := range []struct{ ppm, lo, to, more int }{
		{0, -top + 1, 0, 1}, {1000, -top + 1, 0, 1},
		{0, -top, 1, 1}, {1, -top, 2, 2}, {500, -top, 2, 2}, {1000, -top, 2, 2},
	} {
		h := learnedAt(t, c.ppm, 0, c.lo, c.lo+10)
		for here := range c.to {
			h.step(here, api.OK)
			wantStuck(h, here)
		}
		h.step(c.to, api.OK)
		h.now(-top, c.lo+10+c.to+c.more)
		h.learn(c.lo+10+c.more+1, 0, api.ErrClash)
		h.now(-top, c.lo+10+c.to+c.more)
	}
	// At once, and a Step further, it is just there.
	h := learnedAt(t, 1000, 0, -top+1, -top+1)
	h.now(-top, -top+2)
	h.step(1, api.OK)
	h.now(-top, -top+4)
}

// TestKnownBelow: less what it shows, Now may be below -MaxTime; one learns by it as by any other.
func TestKnownBelow(t *testing.T) {
	for _, c := range []struct {
		lo, hi int
		errno  api.Errno
		want   api.Span
	}{
		{-top, -top, api.OK, sp(-top+1, -top+3)},
		{-top, -top + 3, api.OK, sp(-top+1, -top+6)},
		{-top, top, api.OK, sp(-top+1, -top+15)},
		{-top + 12, 0, api.OK, sp(-top+13, -top+15)},
		{-top + 13, 0, api.ErrClash, sp(-top, -top+14)},
	} {
		h := learnedAt(t, 1000, 0, -top, -top+10)
		h.step(2, api.OK)
		h.now(-top, -top+14)
		h.learn(c.lo, c.hi, c.errno)
		h.told(c.want, api.OK)
	}
}

// TestFarBelow: at MaxTime a Clock may be as much ahead as a Span can tell.
func TestFarBelow(t *testing.T) {
	h := learnedAt(t, 1000, top, -top, -top)
	h.now(-1, 1)
	h.point(0, api.OK)
	h.learn(-top, -top+5, api.OK)
	h.now(-1, 2)
	h.learn(-top+4, 0, api.ErrClash)
	h.learn(-top+2, 0, api.OK)
	h.now(1, 3)
	h.point(2, api.OK)
	h.here(top)
}

// TestMiddle: rounded down, above 0 and below 0, and where it is none.
func TestMiddle(t *testing.T) {
	for _, c := range []struct{ lo, hi, want int }{
		{0, 0, 0}, {0, 1, 0}, {0, 2, 1}, {0, 3, 1}, {1, 2, 1}, {2, 5, 3}, {10, 21, 15},
		{-1, 0, -1}, {-2, 0, -1}, {-3, 0, -2}, {-2, -1, -2}, {-5, -2, -4}, {-21, -10, -16}, {-7, -7, -7},
		{-1, 1, 0}, {-1, 2, 0}, {-2, 1, -1}, {-3, 4, 0}, {-4, 3, -1}, {-100, 1, -50},
		{-top + 1, top - 1, 0}, {-top + 1, top - 2, -1}, {-top + 2, top - 1, 0},
		{-top + 1, -top + 1, -top + 1}, {-top + 1, -top + 2, -top + 1}, {top - 1, top - 1, top - 1}, {top - 2, top - 1, top - 2},
	} {
		h := learnedAt(t, 300, 0, c.lo, c.hi)
		h.now(c.lo-1, c.hi+1)
		h.point(c.want, api.OK)
		h.point(c.want, api.OK)
	}
	h := learnedAt(t, 0, 1000, -2001, -2000)
	h.point(-1001, api.OK)
	h.step(1001, api.OK)
	h.point(-1000, api.OK)
	h.step(2000, api.OK)
	h.point(-1, api.OK)
	h.step(2003, api.OK)
	h.point(2, api.OK)
}

// TestPointStays: the middle goes back, and Point stays at what it told, up to where Hi is just that.
func TestPointStays(t *testing.T) {
	for _, at := range []int{0, 40, 1_000_000, -40, -1_000_000, -50, -49, -100} {
		h := learnedAt(t, 0, 0, at, at+100)
		h.point(at+50, api.OK)
		h.learn(at, at+80, api.OK)
		h.now(at-1, at+81)
		h.point(at+50, api.OK)
		h.learn(at, at+49, api.OK)
		h.now(at-1, at+50)
		h.point(at+50, api.OK)
		// It goes on as soon as the middle is beyond that.
		h.step(25, api.OK)
		h.point(at+50, api.OK)
		h.step(26, api.OK)
		h.now(at+25, at+76)
		h.point(at+50, api.OK)
		h.step(27, api.OK)
		h.point(at+51, api.OK)
	}
}

// TestPointBack: Now ends below what was told, so nothing is told; and behind that Point holds to what it told ahead.
func TestPointBack(t *testing.T) {
	for _, at := range []int{0, 1, 40, 1_000_000, -40, -1_000_000, -50, -51} {
		h := learnedAt(t, 0, 0, at, at+100)
		h.point(at+50, api.OK)
		h.learn(at, at+48, api.OK)
		h.now(at-1, at+49)
		for range 3 {
			h.point(0, api.ErrBack)
		}
		h.now(at-1, at+49)
		h.learn(at, at+10, api.OK)
		h.point(0, api.ErrBack)
		h.now(at-1, at+11)
		h.step(38, api.OK)
		h.now(at+37, at+49)
		h.point(0, api.ErrBack)
		h.step(39, api.OK)
		h.now(at+38, at+50)
		h.point(at+50, api.OK)
		h.here(39)
		h.step(45, api.OK)
		h.point(at+50, api.OK)
		h.step(46, api.OK)
		h.point(at+51, api.OK)
	}
}

// TestPointHeldBy: what Point told, not what it was asked for in vain, holds it.
func TestPointHeldBy(t *testing.T) {
	h := made(t, 0)
	h.point(0, api.ErrState)
	h.learn(-100, -90, api.OK)
	h.point(-95, api.OK)

	// Now is not told by Point, so it holds nothing.
	h = learnedAt(t, 0, 0, 100, 200)
	h.now(99, 201)
	h.learn(100, 100, api.OK)
	h.now(99, 101)
	h.point(100, api.OK)

	// Beyond -MaxTime nothing is told, and behind that what it is.
	h = learnedAt(t, 0, 0, -top, -top+7)
	h.point(0, api.ErrRange)
	h.step(1, api.OK)
	h.point(-top+4, api.OK)

	// Told once, and then beyond MaxTime.
	h = learnedAt(t, 0, 0, top-11, top-11)
	h.point(top-11, api.OK)
	h.step(10, api.OK)
	h.point(top-1, api.OK)
	h.step(11, api.OK)
	h.point(0, api.ErrRange)
}

// TestApart: no two Clocks have anything in common.
func TestApart(t *testing.T) {
	a, b := made(t, 1000), made(t, 0)
	a.step(500, api.OK)
	a.learn(10, 20, api.OK)
	a.point(515, api.OK)
	b.here(0)
	b.noNow(api.ErrState)
	b.point(0, api.ErrState)
	b.learn(-9, -4, api.OK)
	b.now(-10, -3)
	b.point(-7, api.OK)
	b.step(700, api.OK)
	a.here(500)
	a.now(509, 521)
	a.step(501, api.OK)
	a.now(509, 523)
	b.now(690, 697)
}

// room is how far from the model's base an offset may be.
const room = 400

// model knows each offset near its base by itself: whether that can be.
type model struct {
	ppm, base, here, since int
	learned, hasTold       bool
	can                    [2*room + 1]bool
	told                   int
}

func (m *model) step(to int) api.Errno {
	switch {
	case to < 0 || to > top:
		return api.ErrRange
	case to < m.here:
		return api.ErrBack
	}
	m.here = to
	return api.OK
}

// further is 1, and as much as both clocks together may have gone apart, in numbers that never wrap round.
func (m *model) further() int {
	product := new(big.Int).Mul(big.NewInt(int64(m.here-m.since)), big.NewInt(int64(2*m.ppm)))
	q, r := new(big.Int).QuoRem(product, big.NewInt(million), new(big.Int))
	return int(q.Int64()) + 1 + r.Sign()
}

// canNow is each offset that is no further from one that could be then.
func (m *model) canNow() (can [2*room + 1]bool) {
	further := m.further()
	for i, was := range m.can {
		for k := i - further; was && k <= i+further; k++ {
			can[k] = true
		}
	}
	return can
}

func (m *model) now() (api.Span, api.Errno) {
	if !m.learned {
		return api.Span{}, api.ErrState
	}
	all := []int{}
	for i, can := range m.canNow() {
		if can {
			all = append(all, m.base+i-room+m.here)
		}
	}
	s := sp(all[0], all[len(all)-1])
	if s.Lo < -top || s.Hi > top {
		return api.Span{}, api.ErrRange
	}
	return s, api.OK
}

func (m *model) learn(s api.Span) api.Errno {
	if s.Lo > s.Hi || s.Lo < -top || s.Hi > top {
		return api.ErrRange
	}
	if _, errno := m.now(); errno == api.ErrRange {
		return errno
	}
	both, any := m.canNow(), false
	for i := range both {
		at := m.base + i - room
		both[i] = (both[i] || !m.learned) && s.Lo <= at && at <= s.Hi
		any = any || both[i]
	}
	if !any {
		return api.ErrClash
	}
	m.learned, m.can, m.since = true, both, m.here
	return api.OK
}

func (m *model) point() (int, api.Errno) {
	s, errno := m.now()
	if errno != api.OK {
		return 0, errno
	}
	if m.hasTold && s.Hi < m.told {
		return 0, api.ErrBack
	}
	middle := s.Lo
	for middle+1-s.Lo <= s.Hi-(middle+1) {
		middle++
	}
	if !m.hasTold || middle > m.told {
		m.hasTold, m.told = true, middle
	}
	return m.told, api.OK
}

// anyModel stands where offsets, or what is shown, are in the middle of all times, or close to an end of them.
func anyModel(r *rand.Rand) *model {
	bases := []int{0, 0, 1000, top - 60, -top + 60, -top - 40, top + 40, -30, -10_000}
	return &model{
		ppm:  []int{0, 1, 48, 500, 501, 1000}[r.Intn(6)],
		base: bases[r.Intn(len(bases))],
		here: 0,
	}
}

// anyStep is mostly a little on, or up to a long way; and sometimes one that may not be.
func anyStep(r *rand.Rand, here int) int {
	switch r.Intn(10) {
	case 0:
		return []int{-1, top + 1, math.MinInt, math.MaxInt, 0, here - 1, here / 2}[r.Intn(7)]
	case 1:
		return here + r.Intn(20_000)
	}
	return here + r.Intn(60)
}

// anyOffset is near the base, often a part of what is known, and sometimes none that may be.
func anyOffset(r *rand.Rand, m *model) api.Span {
	if r.Intn(12) == 0 {
		return []api.Span{sp(1, 0), sp(m.base+1, m.base), sp(-top-1, m.base), sp(m.base, top+1), sp(math.MinInt, math.MaxInt)}[r.Intn(5)]
	}
	from := m.base + r.Intn(121) - 60
	s := sp(from, from+r.Intn(61))
	if known, errno := m.now(); errno == api.OK && r.Intn(3) > 0 {
		s.Lo = known.Lo - m.here + r.Intn(5) - 2
		s.Hi = max(s.Lo, known.Hi-m.here+r.Intn(5)-2)
	}
	return s
}

// TestAgainstModel: whatever is called in whatever order; behind each call, with an error or without one, Here and Now are the model's.
func TestAgainstModel(t *testing.T) {
	r := rand.New(rand.NewSource(1))
	seen := map[string]int{}
	for range 3_000 {
		m := anyModel(r)
		h := made(t, m.ppm)
		if r.Intn(4) == 0 {
			to := []int{top - 100, top, top / 2, 10_000}[r.Intn(4)]
			h.step(to, m.step(to))
		}
		for range 25 {
			play(r, h, m, seen)
		}
		if t.Failed() {
			t.Fatalf("by a model of %d at %d", m.ppm, m.base)
		}
	}
	for _, what := range []string{
		"Step OK", "Step ErrRange", "Step ErrBack", "Learn OK", "Learn ErrRange", "Learn ErrClash",
		"Point OK", "Point ErrState", "Point ErrRange", "Point ErrBack", "Now OK", "Now ErrState", "Now ErrRange",
	} {
		if seen[what] < 20 {
			t.Errorf("%s was seen %d times alone", what, seen[what])
		}
	}
}

// play makes one call on both.
func play(r *rand.Rand, h hand, m *model, seen map[string]int) {
	h.t.Helper()
	switch r.Intn(3) {
	case 0:
		to := anyStep(r, m.here)
		errno := m.step(to)
		h.step(to, errno)
		seen["Step "+errno.Error()]++
	case 1:
		s := anyOffset(r, m)
		errno := m.learn(s)
		h.learn(s.Lo, s.Hi, errno)
		seen["Learn "+errno.Error()]++
	default:
		n, errno := m.point()
		h.point(n, errno)
		seen["Point "+errno.Error()]++
	}
	s, errno := m.now()
	h.told(s, errno)
	h.here(m.here)
	seen["Now "+errno.Error()]++
}

// TestWhatItTrulyIs: whatever rates a clock goes by, within its bound, Now has what the true one shows, if what was learned was true.
func TestWhatItTrulyIs(t *testing.T) {
	r := rand.New(rand.NewSource(2))
	for _, ppm := range []int{0, 1, 7, 500, 999, 1000} {
		for range 150 {
			h := made(t, ppm)
			// In millionths: what it shows is that, rounded down.
			gone, truth := r.Intn(1000*million), r.Intn(2000)
			for range 40 {
				pass := []int{0, 1, r.Intn(4), r.Intn(3000), r.Intn(10 * million)}[r.Intn(5)]
				rate := []int{-ppm, ppm, r.Intn(2*ppm+1) - ppm}[r.Intn(3)]
				truth += pass
				gone += pass * (million + rate)
				here := gone / million
				h.step(here, api.OK)
				if r.Intn(3) == 0 {
					h.learn(truth-here-r.Intn(20), truth-here+r.Intn(20), api.OK)
				}
				s, err := h.c.Now()
				if err == nil && (truth < s.Lo || truth > s.Hi) {
					t.Fatalf("by %d it truly is %d, when it shows %d: got %v", ppm, truth, here, s)
				}
			}
		}
	}
}
