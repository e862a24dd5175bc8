package keeper_test

import (
	"math"
	"math/rand"
	"testing"

	"noonmark/api"
	"noonmark/keeper"
	"noonmark/plain"
)

const top = api.MaxTime

// wrongHere are readings that are none.
var wrongHere = []int{-1, -2, -top, -top - 1, math.MinInt, math.MinInt + 1, top + 1, top + 2, top + api.MaxAhead, 2 * top, math.MaxInt - 1, math.MaxInt}

// hand holds a Keeper, and each call on it to what it must tell.
type hand struct {
	t *testing.T
	k *keeper.Keeper
}

func made(t *testing.T, ahead int) hand {
	t.Helper()
	k, err := keeper.New(ahead)
	if err != nil || k == nil {
		t.Fatalf("New(%d): got %v, %v", ahead, k, plain.Told(err))
	}
	return hand{t, k}
}

// holds: what is Kept, and how often it was written.
func (h hand) holds(kept, writes int) {
	h.t.Helper()
	if k, w := h.k.Kept(), h.k.Writes(); k != kept || w != writes {
		h.t.Errorf("Kept, Writes: got %d, %d; want %d, %d", k, w, kept, writes)
	}
}

// reads: what is told, and what is Kept then, and how often it was written.
func (h hand) reads(here, told, kept, writes int) {
	h.t.Helper()
	if n, err := h.k.Read(here); n != told || err != nil {
		h.t.Errorf("Read(%d): got %d, %v; want %d, %v", here, n, plain.Told(err), told, api.OK)
	}
	h.holds(kept, writes)
}

// refuses: that a Read tells an error and nothing else, and leaves what is Kept and how often it was written.
func (h hand) refuses(here int, errno api.Errno) {
	h.t.Helper()
	kept, writes := h.k.Kept(), h.k.Writes()
	if n, err := h.k.Read(here); n != 0 || plain.Told(err) != errno {
		h.t.Errorf("Read(%d): got %d, %v; want 0, %v", here, n, plain.Told(err), errno)
	}
	h.holds(kept, writes)
}

// crashes, which itself changes nothing of what is Kept.
func (h hand) crashes() {
	h.t.Helper()
	kept, writes := h.k.Kept(), h.k.Writes()
	h.k.Crash()
	h.holds(kept, writes)
}

func TestNew(t *testing.T) {
	for _, ahead := range []int{1, 2, 17, 1000, api.MaxAhead - 1, api.MaxAhead} {
		made(t, ahead).holds(0, 0)
	}
	for _, ahead := range []int{0, -1, -2, -api.MaxAhead, api.MaxAhead + 1, 2 * api.MaxAhead, top, 1 << 32, 1<<32 + 1, math.MaxInt, math.MinInt, math.MinInt + 1} {
		if k, err := keeper.New(ahead); k != nil || plain.Told(err) != api.ErrRange {
			t.Errorf("New(%d): got %v, %v; want nil, %v", ahead, k, plain.Told(err), api.ErrRange)
		}
	}
}

// TestFirst reading of a new Keeper, of 0 too: nothing is Kept, so it is written.
func TestFirst(t *testing.T) {
	for _, ahead := range []int{1, 2, 10, api.MaxAhead} {
		for _, here := range []int{0, 1, 2, 777, api.MaxAhead, top - api.MaxAhead, top - 1, top} {
			h := made(t, ahead)
			h.reads(here, here, here+ahead, 1)
		}
	}
}

// TestRead of here below what was told last, just that, one more, and far above.
func TestRead(t *testing.T) {
	for _, c := range []struct{ here, told int }{
		{0, 101}, {1, 101}, {99, 101}, {100, 101}, {101, 101}, {102, 102}, {150, 150}, {999, 999}, {1098, 1098},
	} {
		h := made(t, 1000)
		h.reads(100, 100, 1100, 1)
		h.reads(c.here, c.told, 1100, 1)
		// What is told next goes by what was told, not by what was read here.
		h.reads(0, c.told+1, 1100, 1)
	}
	h := made(t, 1000)
	h.reads(100, 100, 1100, 1)
	h.reads(1_000_000, 1_000_000, 1_001_000, 2)
	h.reads(top-1000, top-1000, top, 3)
}

// TestWritten: just below what is Kept nothing is, just there and above it is.
func TestWritten(t *testing.T) {
	for _, c := range []struct{ here, kept, writes int }{
		{108, 110, 1}, {109, 110, 1}, {110, 120, 2}, {111, 121, 2}, {119, 129, 2}, {120, 130, 2}, {500, 510, 2},
	} {
		h := made(t, 10)
		h.reads(100, 100, 110, 1)
		h.reads(c.here, c.here, c.kept, c.writes)
	}
	// Also where it is what was told last that leads there.
	h := made(t, 10)
	h.reads(100, 100, 110, 1)
	h.reads(109, 109, 110, 1)
	h.reads(109, 110, 120, 2)
	h.reads(119, 119, 120, 2)
	h.reads(3, 120, 130, 3)
}

// TestOneHere over and over: each is one more than the one before, and one of each ahead is written.
func TestOneHere(t *testing.T) {
	for _, ahead := range []int{1, 2, 3, 7, 50} {
		for _, here := range []int{0, 1, 40, top - 500} {
			h := made(t, ahead)
			for i := range 300 {
				h.reads(here, here+i, here+(i/ahead+1)*ahead, i/ahead+1)
			}
		}
	}
}

// TestLeastAhead: by 1 each reading is written, and nothing is left out behind a crash.
func TestLeastAhead(t *testing.T) {
	h := made(t, 1)
	h.reads(0, 0, 1, 1)
	h.reads(0, 1, 2, 2)
	h.crashes()
	h.reads(0, 2, 3, 3)
	h.reads(9, 9, 10, 4)
	h.crashes()
	h.reads(10, 10, 11, 5)
}

func TestMostAhead(t *testing.T) {
	h := made(t, api.MaxAhead)
	h.reads(5, 5, 1_000_005, 1)
	h.reads(1_000_004, 1_000_004, 1_000_005, 1)
	h.crashes()
	h.reads(7, 1_000_005, 2_000_005, 2)
	h.reads(2_000_004, 2_000_004, 2_000_005, 2)
	h.reads(0, 2_000_005, 3_000_005, 3)
}

// TestCrashAhead of any reading: it is as a new one, however often.
func TestCrashAhead(t *testing.T) {
	for crashes := range 4 {
		for _, here := range []int{0, 1, 33, top} {
			h := made(t, 20)
			for range crashes {
				h.crashes()
			}
			h.holds(0, 0)
			h.reads(here, here, here+20, 1)
		}
	}
}

// TestCrash behind readings, once and more often in a row: here below what is Kept, just that, and above.
func TestCrash(t *testing.T) {
	for crashes := 1; crashes <= 3; crashes++ {
		for _, c := range []struct{ here, told int }{
			{0, 120}, {99, 120}, {100, 120}, {101, 120}, {102, 120}, {119, 120}, {120, 120}, {121, 121}, {140, 140}, {9999, 9999},
		} {
			h := made(t, 20)
			h.reads(100, 100, 120, 1)
			h.reads(0, 101, 120, 1)
			for range crashes {
				h.crashes()
			}
			h.holds(120, 1)
			h.reads(c.here, c.told, c.told+20, 2)
			h.reads(c.here, c.told+1, c.told+20, 2)
		}
	}
}

// TestCrashAtEachReading: each tells what was written down by the one before.
func TestCrashAtEachReading(t *testing.T) {
	h := made(t, 7)
	for i := range 100 {
		h.reads(3, 3+7*i, 3+7*(i+1), i+1)
		h.crashes()
	}
}

// TestRefused: a reading of here that is none changes nothing, wherever it comes.
func TestRefused(t *testing.T) {
	h := made(t, 5)
	wantNoHere(h)
	h.holds(0, 0)
	h.reads(0, 0, 5, 1)
	wantNoHere(h)
	h.reads(0, 1, 5, 1)
	h.reads(4, 4, 5, 1)
	wantNoHere(h)
	h.reads(0, 5, 10, 2)
	h.crashes()
	wantNoHere(h)
	h.reads(9, 10, 15, 3)
	h.crashes()
	wantNoHere(h)
	h.crashes()
	h.reads(16, 16, 21, 4)
}

// wantNoHere: that no reading of here is taken that is none.
func wantNoHere(h hand) {
	h.t.Helper()
	for _, here := range wrongHere {
		h.refuses(here, api.ErrRange)
	}
}

// TestUpTo: MaxTime is told, and nothing behind it: wrong ones are told as ErrRange also there.
func TestUpTo(t *testing.T) {
	for _, ahead := range []int{1, 2, 10, api.MaxAhead} {
		h := made(t, ahead)
		h.reads(top, top, top+ahead, 1)
		wantFull(h)
	}
	// One behind the other.
	h := made(t, 2)
	h.reads(top-3, top-3, top-1, 1)
	h.reads(0, top-2, top-1, 1)
	h.reads(top, top, top+2, 2)
	wantFull(h)

	h = made(t, 2)
	h.reads(top-1, top-1, top+1, 1)
	h.reads(0, top, top+1, 1)
	wantFull(h)

	h = made(t, 1)
	h.reads(top-1, top-1, top, 1)
	h.reads(top-1, top, top+1, 2)
	wantFull(h)
}

// TestUpToByCrash: behind a crash, of what is Kept of just MaxTime, and above.
func TestUpToByCrash(t *testing.T) {
	h := made(t, 10)
	h.reads(top-10, top-10, top, 1)
	h.crashes()
	h.reads(0, top, top+10, 2)
	wantFull(h)

	h = made(t, 10)
	h.reads(top-9, top-9, top+1, 1)
	h.reads(0, top-8, top+1, 1)
	h.crashes()
	wantFull(h)

	// What was left ahead of the crash is left no more.
	h = made(t, api.MaxAhead)
	h.reads(top-api.MaxAhead+1, top-api.MaxAhead+1, top+1, 1)
	h.crashes()
	wantFull(h)
}

// wantFull: that nothing can be told any more, also behind a crash, and that nothing comes of asking.
func wantFull(h hand) {
	h.t.Helper()
	for range 3 {
		for _, here := range []int{0, 1, 500, top - 1, top} {
			h.refuses(here, api.ErrFull)
		}
		wantNoHere(h)
		h.crashes()
	}
}

// TestApart: two Keepers have nothing in common.
func TestApart(t *testing.T) {
	a, b := made(t, 10), made(t, 3)
	a.reads(100, 100, 110, 1)
	b.holds(0, 0)
	b.reads(0, 0, 3, 1)
	a.crashes()
	b.reads(0, 1, 3, 1)
	a.reads(0, 110, 120, 2)
	b.reads(2, 2, 3, 1)
	b.crashes()
	a.reads(0, 111, 120, 2)
}

// model is a Keeper by K1's own words: what was told in all, and since the last crash.
type model struct {
	ahead  int
	since  []int
	kept   int
	writes int
}

func (m *model) read(here int) (int, api.Errno) {
	if here < 0 || here > top {
		return 0, api.ErrRange
	}
	least := m.kept
	if n := len(m.since); n > 0 {
		least = m.since[n-1] + 1
	}
	if here < least {
		here = least
	}
	if here > top {
		return 0, api.ErrFull
	}
	if !(here < m.kept) {
		m.kept = here + m.ahead
		m.writes++
	}
	m.since = append(m.since, here)
	return here, api.OK
}

// TestRows of readings and crashes, held to the model; and to what a Keeper is for: what is told rises, and all of it is below what is Kept.
func TestRows(t *testing.T) {
	r := rand.New(rand.NewSource(18))
	for range 3000 {
		ahead := []int{1, 2, 1 + r.Intn(20), 1 + r.Intn(api.MaxAhead), api.MaxAhead}[r.Intn(5)]
		from := []int{0, r.Intn(1000), r.Intn(top), top - 30 - r.Intn(100), top - ahead - 5}[r.Intn(5)]
		h, m, last := made(t, ahead), &model{ahead: ahead}, -1
		for range 60 {
			if r.Intn(6) == 0 {
				h.k.Crash()
				m.since = nil
			} else {
				here := nextHere(r, from, last, m.kept)
				told, errno := m.read(here)
				n, err := h.k.Read(here)
				if n != told || plain.Told(err) != errno {
					t.Fatalf("ahead %d: Read(%d): got %d, %v; want %d, %v", ahead, here, n, plain.Told(err), told, errno)
				}
				if err == nil && (n <= last || n < here || n >= h.k.Kept()) {
					t.Fatalf("ahead %d: Read(%d): got %d behind %d, Kept %d", ahead, here, n, last, h.k.Kept())
				}
				if err == nil {
					last = n
				}
			}
			h.holds(m.kept, m.writes)
		}
		if t.Failed() {
			t.Fatalf("ahead %d, from %d", ahead, from)
		}
	}
}

// nextHere is one beside what was told last, or what is Kept, or any other one.
func nextHere(r *rand.Rand, from, last, kept int) int {
	switch r.Intn(8) {
	case 0:
		return wrongHere[r.Intn(len(wrongHere))]
	case 1, 2:
		return last - 2 + r.Intn(5)
	case 3:
		return kept - 2 + r.Intn(5)
	case 4:
		return from
	case 5:
		return r.Intn(top+1)/1000 + from/2
	}
	return from + r.Intn(40)
}
