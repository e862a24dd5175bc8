package order_test

import (
	"math"
	"math/rand"
	"slices"
	"testing"

	"noonmark/api"
	"noonmark/order"
	"noonmark/plain"
)

const (
	top  = api.MaxTime
	full = api.MaxEvents
)

func sp(lo, hi int) api.Span { return api.Span{Lo: lo, Hi: hi} }

// events makes them of numbers, two by two: Lo, Hi. Their Ids are none of their places.
func events(of ...int) (l []api.Event) {
	for i := 0; i+1 < len(of); i += 2 {
		l = append(l, api.Event{Id: 100 - i, Span: sp(of[i], of[i+1])})
	}
	return l
}

// same makes n Events of one Span.
func same(n, lo, hi int) []api.Event {
	of := []int{}
	for range n {
		of = append(of, lo, hi)
	}
	return events(of...)
}

// behind makes n Events, each of them the given way behind the one ahead, all of them as wide.
func behind(n, wide, way int) []api.Event {
	of := []int{}
	for i := range n {
		lo := i * (wide + way)
		of = append(of, lo, lo+wide)
	}
	return events(of...)
}

func by(places ...int) []int { return places }

// along is the order in which n Events stand.
func along(n int) []int {
	places := []int{}
	for i := range n {
		places = append(places, i)
	}
	return places
}

func back(n int) []int {
	places := along(n)
	slices.Reverse(places)
	return places
}

func wantCheck(t *testing.T, l []api.Event, errno api.Errno) {
	t.Helper()
	if err := order.Check(l); plain.Told(err) != errno {
		t.Errorf("Check(%v): got %v, want %v", l, plain.Told(err), errno)
	}
}

func wantSurely(t *testing.T, l []api.Event, i, k int, want bool, errno api.Errno) {
	t.Helper()
	if got, err := order.Surely(l, i, k); got != want || plain.Told(err) != errno {
		t.Errorf("Surely(%v, %d, %d): got %v, %v; want %v, %v", l, i, k, got, plain.Told(err), want, errno)
	}
}

func wantCould(t *testing.T, l []api.Event, o []int, want bool, errno api.Errno) {
	t.Helper()
	if got, err := order.Could(l, o); got != want || plain.Told(err) != errno {
		t.Errorf("Could(%v, %v): got %v, %v; want %v, %v", l, o, got, plain.Told(err), want, errno)
	}
}

// wantTimes: that it could be so, and the times.
func wantTimes(t *testing.T, l []api.Event, o []int, want ...int) {
	t.Helper()
	wantCould(t, l, o, true, api.OK)
	if got, err := order.Times(l, o); err != nil || !slices.Equal(got, want) {
		t.Errorf("Times(%v, %v): got %v, %v; want %v", l, o, got, plain.Told(err), want)
	}
}

func wantNoTimes(t *testing.T, l []api.Event, o []int, errno api.Errno) {
	t.Helper()
	if got, err := order.Times(l, o); got != nil || plain.Told(err) != errno {
		t.Errorf("Times(%v, %v): got %v, %v; want none, %v", l, o, got, plain.Told(err), errno)
	}
}

// wantNever: that it could not be so.
func wantNever(t *testing.T, l []api.Event, o []int) {
	t.Helper()
	wantCould(t, l, o, false, api.OK)
	wantNoTimes(t, l, o, api.ErrNone)
}

func wantNoOrder(t *testing.T, l []api.Event, o []int) {
	t.Helper()
	wantCould(t, l, o, false, api.ErrShape)
	wantNoTimes(t, l, o, api.ErrShape)
}

func wantRanks(t *testing.T, l []api.Event, want ...int) {
	t.Helper()
	if got, err := order.Ranks(l); err != nil || !slices.Equal(got, want) {
		t.Errorf("Ranks(%v): got %v, %v; want %v", l, got, plain.Told(err), want)
	}
}

func wantMany(t *testing.T, l []api.Event, want int) {
	t.Helper()
	if got, err := order.Many(l); err != nil || got != want {
		t.Errorf("Many(%v): got %d, %v; want %d", l, got, plain.Told(err), want)
	}
}

// wantRefused: of places and orders of all kinds, right or wrong, that every call tells this error, and no more.
func wantRefused(t *testing.T, l []api.Event, errno api.Errno) {
	t.Helper()
	wantCheck(t, l, errno)
	for _, i := range []int{0, 1, len(l) - 1, len(l), -1, math.MinInt, math.MaxInt} {
		wantSurely(t, l, i, 0, false, errno)
		wantSurely(t, l, 0, i, false, errno)
	}
	for _, o := range [][]int{nil, along(len(l)), back(len(l)), along(len(l) + 1), by(0, 0), by(-1), by(math.MaxInt)} {
		wantCould(t, l, o, false, errno)
		wantNoTimes(t, l, o, errno)
	}
	if got, err := order.Ranks(l); got != nil || plain.Told(err) != errno {
		t.Errorf("Ranks(%v): got %v, %v; want none, %v", l, got, plain.Told(err), errno)
	}
	if got, err := order.Many(l); got != 0 || plain.Told(err) != errno {
		t.Errorf("Many(%v): got %d, %v; want 0, %v", l, got, plain.Told(err), errno)
	}
}

// TestNone: of no Events at all there is one order, that has none.
func TestNone(t *testing.T) {
	for _, l := range [][]api.Event{nil, {}} {
		wantCheck(t, l, api.OK)
		wantSurely(t, l, 0, 0, false, api.ErrRange)
		wantTimes(t, l, nil)
		wantTimes(t, l, []int{})
		wantNoOrder(t, l, by(0))
		wantNoOrder(t, l, by(-1))
		wantRanks(t, l)
		wantMany(t, l, 1)
	}
}

func TestOne(t *testing.T) {
	for _, s := range []api.Span{sp(13, 16), sp(0, 0), sp(-7, -7), sp(-9, 4), sp(-top, top), sp(-top, -top), sp(top, top), sp(-top, 0)} {
		l := events(s.Lo, s.Hi)
		wantCheck(t, l, api.OK)
		wantSurely(t, l, 0, 0, false, api.OK)
		wantTimes(t, l, by(0), s.Lo)
		wantNoOrder(t, l, nil)
		wantNoOrder(t, l, by(1))
		wantNoOrder(t, l, by(0, 0))
		wantRanks(t, l, 1)
		wantMany(t, l, 1)
	}
}

// TestIds: any numbers, if no two are the same.
func TestIds(t *testing.T) {
	l := events(0, 1, 0, 1, 0, 1, 2, 3)
	for i, id := range []int{math.MinInt, math.MaxInt, 0, -1} {
		l[i].Id = id
	}
	wantCheck(t, l, api.OK)
	wantRanks(t, l, 1, 1, 1, 2)
	wantMany(t, l, 6)
	wantTimes(t, l, by(1, 2, 0, 3), 0, 0, 0, 2)
	// Nor is it of weight which Ids they are.
	for i := range l {
		l[i].Id = i
	}
	wantRanks(t, l, 1, 1, 1, 2)
	for i := range l {
		l[i].Id = -i
	}
	wantRanks(t, l, 1, 1, 1, 2)
}

// TestFull: just MaxEvents, and one more, which is told ahead of all else.
func TestFull(t *testing.T) {
	wantCheck(t, same(full, 0, 1), api.OK)
	wantCheck(t, behind(full, 0, 1), api.OK)
	wantRefused(t, same(full+1, 0, 1), api.ErrFull)
	wantRefused(t, behind(full+1, 0, 1), api.ErrFull)
	wantRefused(t, same(full+1, 1, 0), api.ErrFull)
	wantRefused(t, make([]api.Event, full+1), api.ErrFull)
	wantRefused(t, make([]api.Event, 1000), api.ErrFull)
}

func wrongSpans() []api.Span {
	return []api.Span{
		sp(1, 0), sp(5, -5), sp(top, -top), sp(-top-1, 0), sp(-top-1, -top-1), sp(0, top+1), sp(top+1, top+1),
		sp(math.MinInt, math.MaxInt), sp(math.MaxInt, math.MinInt), sp(math.MinInt, math.MinInt), sp(math.MaxInt, math.MaxInt),
	}
}

// TestWrongSpan: at every place, of few Events and of just MaxEvents.
func TestWrongSpan(t *testing.T) {
	for _, s := range wrongSpans() {
		for _, n := range []int{1, 2, 3, full} {
			for place := range n {
				l := behind(n, 3, 1)
				l[place].Span = s
				wantRefused(t, l, api.ErrRange)
			}
		}
	}
}

// TestTwice: two of one Id, side by side and apart, whatever their Spans.
func TestTwice(t *testing.T) {
	for _, n := range []int{2, 3, full} {
		for second := 1; second < n; second++ {
			for first := range second {
				for _, l := range [][]api.Event{behind(n, 3, 1), same(n, 3, 7)} {
					l[second].Id = l[first].Id
					wantRefused(t, l, api.ErrShape)
				}
			}
		}
	}
}

// TestWhichError: it goes Event by Event, and of one Event its Span is asked first.
func TestWhichError(t *testing.T) {
	withIds := func(of ...int) (l []api.Event) {
		for i := 0; i+2 < len(of); i += 3 {
			l = append(l, api.Event{Id: of[i], Span: sp(of[i+1], of[i+2])})
		}
		return l
	}
	wantRefused(t, withIds(1, 0, 5, 1, 0, 5, 2, 5, 0), api.ErrShape)
	wantRefused(t, withIds(1, 5, 0, 2, 0, 5, 2, 0, 5), api.ErrRange)
	wantRefused(t, withIds(1, 0, 5, 1, 5, 0), api.ErrRange)
	wantRefused(t, withIds(1, 5, 0, 1, 0, 5), api.ErrRange)
	wantRefused(t, withIds(1, 0, 5, 2, 0, top+1, 1, 0, 5), api.ErrRange)
	wantRefused(t, withIds(1, 0, 5, 2, 0, 5, 1, 0, 5, 3, 0, top+1), api.ErrShape)
	// An order that is none, of Events that are some: ErrShape, also where no other order could be.
	wantNoOrder(t, events(0, 1, 5, 6), by(1, 1))
	wantNoOrder(t, events(0, 1, 5, 6), by(1, 0, 0))
}

// TestSurely: Spans that overlap, touch, are one apart, and are the same.
func TestSurely(t *testing.T) {
	for _, c := range []struct {
		a, b  api.Span
		ahead bool
	}{
		{sp(0, 3), sp(6, 11), true}, {sp(0, 3), sp(4, 11), true}, {sp(0, 3), sp(3, 11), false}, {sp(0, 3), sp(2, 11), false},
		{sp(0, 3), sp(0, 3), false}, {sp(0, 9), sp(3, 4), false}, {sp(-5, -1), sp(0, 0), true}, {sp(-5, 0), sp(0, 0), false},
		{sp(2, 2), sp(2, 2), false}, {sp(2, 2), sp(3, 3), true}, {sp(-3, -3), sp(-2, -2), true}, {sp(-top, -top), sp(top, top), true},
		{sp(-top, top-1), sp(top, top), true}, {sp(-top, top), sp(top, top), false}, {sp(-top, -top), sp(-top, top), false}, {sp(-top, -top), sp(1-top, top), true},
		{sp(-top, top), sp(-top, top), false},
	} {
		l := events(c.a.Lo, c.a.Hi, c.b.Lo, c.b.Hi)
		wantSurely(t, l, 0, 1, c.ahead, api.OK)
		wantSurely(t, l, 1, 0, false, api.OK)
		wantSurely(t, l, 0, 0, false, api.OK)
		wantSurely(t, l, 1, 1, false, api.OK)
		turned := events(c.b.Lo, c.b.Hi, c.a.Lo, c.a.Hi)
		wantSurely(t, turned, 1, 0, c.ahead, api.OK)
		wantSurely(t, turned, 0, 1, false, api.OK)
	}
	l := behind(full, 4, 1)
	for i := range l {
		for k := range l {
			wantSurely(t, l, i, k, i < k, api.OK)
		}
	}
}

// TestNoSuch: places below 0, just behind the last, and far away, either of both.
func TestNoSuch(t *testing.T) {
	for n := 1; n <= full; n++ {
		l := behind(n, 0, 1)
		for _, i := range []int{-1, -n, n, n + 1, full, full + 1, math.MinInt, math.MaxInt} {
			if i >= 0 && i < n {
				continue
			}
			for k := range n {
				wantSurely(t, l, i, k, false, api.ErrRange)
				wantSurely(t, l, k, i, false, api.ErrRange)
			}
			wantSurely(t, l, i, i, false, api.ErrRange)
		}
	}
	// Places, not Ids: the last one's is 98.
	wantSurely(t, events(0, 1, 2, 3), 100, 98, false, api.ErrRange)
}

// TestTimes: each as early as those ahead let it be, told along the order.
func TestTimes(t *testing.T) {
	l := events(10, 20, 0, 12, 5, 30)
	wantTimes(t, l, by(0, 1, 2), 10, 10, 10)
	wantTimes(t, l, by(0, 2, 1), 10, 10, 10)
	wantTimes(t, l, by(1, 0, 2), 0, 10, 10)
	wantTimes(t, l, by(1, 2, 0), 0, 5, 10)
	wantTimes(t, l, by(2, 0, 1), 5, 10, 10)
	wantTimes(t, l, by(2, 1, 0), 5, 5, 10)
	// Those that were ahead long since count too, not the last one alone.
	wantTimes(t, events(8, 9, 0, 9, 1, 9, 9, 9), by(0, 1, 2, 3), 8, 8, 8, 9)
	wantNever(t, events(8, 9, 0, 9, 1, 7, 9, 9), by(0, 1, 2, 3))
	// Below 0, and at either end of all times.
	wantTimes(t, events(-9, -3, -20, -5), by(0, 1), -9, -9)
	wantTimes(t, events(-9, -3, -20, -5), by(1, 0), -20, -9)
	wantTimes(t, events(-top, -top, -top, top, top, top), by(0, 1, 2), -top, -top, top)
	wantTimes(t, events(-top, top, top, top, -top, top), by(1, 0, 2), top, top, top)
	wantNever(t, events(-top, -top, -top, top, top, top), by(2, 1, 0))
}

// TestJust: along an order that could just be, as Spans touch at one number, and along one that could just not.
func TestJust(t *testing.T) {
	wantTimes(t, events(4, 9, 1, 4), by(0, 1), 4, 4)
	wantTimes(t, events(4, 9, 1, 4), by(1, 0), 1, 4)
	wantNever(t, events(5, 9, 1, 4), by(0, 1))
	wantTimes(t, events(5, 9, 1, 4), by(1, 0), 1, 5)
	wantTimes(t, events(3, 3, 3, 3), by(1, 0), 3, 3)
	wantNever(t, events(3, 3, 2, 2), by(0, 1))
	wantTimes(t, events(3, 3, 2, 2), by(1, 0), 2, 3)
	// The first one and the last one tell, with wide ones between.
	for n := 2; n <= full; n++ {
		l := same(n, -50, 50)
		l[0].Span, l[n-1].Span = sp(7, 9), sp(-3, 7)
		wantTimes(t, l, along(n), slices.Repeat(by(7), n)...)
		l[n-1].Span = sp(-3, 6)
		wantNever(t, l, along(n))
	}
}

// TestFullOrders: MaxEvents one behind the other have one order; those of one Span have each.
func TestFullOrders(t *testing.T) {
	l, lows := behind(full, 2, 1), []int{}
	for i := range full {
		lows = append(lows, 3*i)
	}
	wantTimes(t, l, along(full), lows...)
	wantNever(t, l, back(full))
	for i := range full - 1 {
		swapped := along(full)
		swapped[i], swapped[i+1] = i+1, i
		wantNever(t, l, swapped)
	}
	r := rand.New(rand.NewSource(1))
	for range 100 {
		wantTimes(t, same(full, 4, 4), r.Perm(full), slices.Repeat(by(4), full)...)
	}
}

// TestNoOrder: one that names an Event twice, none, or one that there is not, and one that is shorter or longer.
func TestNoOrder(t *testing.T) {
	for n := 1; n <= full; n++ {
		for _, l := range [][]api.Event{same(n, 0, 5), behind(n, 2, 1)} {
			wantNoOrder(t, l, nil)
			wantNoOrder(t, l, along(n-1))
			wantNoOrder(t, l, back(n)[:n-1])
			wantNoOrder(t, l, along(n+1))
			wantNoOrder(t, l, append(along(n), 0))
			wantNoOrder(t, l, append(along(n), n-1))
			wantNoOrder(t, l, append(along(n), along(n)...))
			for place := range n {
				for _, other := range []int{-1, n, n + 1, 100, full, math.MinInt, math.MaxInt} {
					if other >= 0 && other < n {
						continue
					}
					o := along(n)
					o[place] = other
					wantNoOrder(t, l, o)
				}
				for twice := range n {
					if twice != place {
						o := along(n)
						o[place] = twice
						wantNoOrder(t, l, o)
					}
				}
			}
		}
	}
	// Places, not Ids.
	wantNoOrder(t, events(0, 1, 0, 1), by(100, 98))
	wantNoOrder(t, same(3, 0, 1), along(1_000_000))
}

func TestRanks(t *testing.T) {
	wantRanks(t, events(0, 3, 6, 11), 1, 2)
	wantRanks(t, events(6, 11, 0, 3), 2, 1)
	wantRanks(t, events(0, 6, 6, 11), 1, 1)
	wantRanks(t, events(5, 5, 5, 5), 1, 1)
	wantRanks(t, events(5, 5, 6, 6), 1, 2)
	wantRanks(t, events(9, 9, -10, -5, 14, 25, 3, 8, 3, 9), 3, 1, 4, 2, 2)
	// A wide one is of a rank with the first; one behind it is of the rank that the others make.
	wantRanks(t, events(0, 100, 0, 1, 2, 3, 4, 5, 101, 101), 1, 1, 2, 3, 4)
	wantRanks(t, events(101, 101, 4, 5, 2, 3, 0, 1, 0, 100), 4, 3, 2, 1, 1)
	// A row may have to leave out one that is wide, though that begins between.
	wantRanks(t, events(0, 1, 2, 9, 3, 4, 5, 6, 7, 8, 10, 10), 1, 2, 2, 3, 4, 5)
	wantRanks(t, events(-top, -top, top, top, -top+1, top-1), 1, 3, 2)
	for n := 1; n <= full; n++ {
		wantRanks(t, same(n, -4, 9), slices.Repeat(by(1), n)...)
		wantRanks(t, same(n, 4, 4), slices.Repeat(by(1), n)...)
		ranks := []int{}
		for i := range n {
			ranks = append(ranks, i+1)
		}
		wantRanks(t, behind(n, 3, 1), ranks...)
		wantRanks(t, behind(n, 0, 1), ranks...)
		wantRanks(t, behind(n, top/20, 1), ranks...)
		l := behind(n, 3, 1)
		slices.Reverse(l)
		slices.Reverse(ranks)
		wantRanks(t, l, ranks...)
		// Each touches the next, and is ahead of the one behind that.
		touching := []int{}
		for i := range n {
			touching = append(touching, i/2+1)
		}
		wantRanks(t, behind(n, 3, 0), touching...)
	}
}

func TestMany(t *testing.T) {
	wantMany(t, events(0, 3, 6, 11), 1)
	wantMany(t, events(6, 11, 0, 3), 1)
	wantMany(t, events(0, 6, 6, 11), 2)
	wantMany(t, events(0, 5, 6, 11), 1)
	wantMany(t, events(14, 16, 14, 20, 9, 12, 16, 18, 10, 10, 7, 7), 12)
	product := 1
	for n := 1; n <= full; n++ {
		product *= n
		wantMany(t, same(n, 0, 5), product)
		wantMany(t, same(n, 5, 5), product)
		wantMany(t, behind(n, 4, 1), 1)
		wantMany(t, behind(n, 0, 7), 1)
		// One that is wide may stand anywhere.
		wide := behind(n, 0, 1)
		wide[n/2].Span = sp(-50, 50)
		wantMany(t, wide, n)
	}
	if product != 479_001_600 {
		t.Fatal(product)
	}
	// Each touches the next alone: as many orders as there are ways to swap pairs of neighbours.
	one, two := 1, 1
	for n := 2; n <= full; n++ {
		one, two = two, one+two
		wantMany(t, behind(n, 5, 0), two)
	}
	// Two of each Span, and six of each.
	pairs, halves := behind(full, 0, 1), behind(full, 0, 1)
	for i := range full {
		pairs[i].Span, halves[i].Span = sp(i/2, i/2), sp(i/6, i/6)
	}
	wantMany(t, pairs, 64)
	wantMany(t, halves, 720*720)
	slices.Reverse(pairs)
	wantMany(t, pairs, 64)
}

// TestFresh: what is handed in stays as it is, what lies behind it is not read, and what comes out is the caller's.
func TestFresh(t *testing.T) {
	whole := events(6, 9, 0, 2, 2, 7, 5, -5)
	whole[3].Id = whole[0].Id
	places := by(1, 2, 0, 0)
	wasWhole, wasPlaces := slices.Clone(whole), slices.Clone(places)
	l, o := whole[:3], places[:3]
	for range 3 {
		wantCheck(t, l, api.OK)
		wantSurely(t, l, 1, 0, true, api.OK)
		wantSurely(t, l, 1, 3, false, api.ErrRange)
		wantTimes(t, l, o, 0, 2, 6)
		wantRanks(t, l, 2, 1, 1)
		wantMany(t, l, 3)
		times, err := order.Times(l, o)
		ranks, bad := order.Ranks(l)
		if err != nil || bad != nil {
			t.Fatal(err, bad)
		}
		for i := range 3 {
			times[i], ranks[i] = 77, 77
		}
		_, _ = append(times, 1), append(ranks, 1)
	}
	if !slices.Equal(whole, wasWhole) || !slices.Equal(places, wasPlaces) {
		t.Errorf("what is handed in was changed: %v, %v", whole, places)
	}
}

// allOrders tells every order of n places.
func allOrders(n int, tell func(o []int)) {
	var add func(o []int)
	add = func(o []int) {
		if len(o) == n {
			tell(o)
			return
		}
		for i := range n {
			if !slices.Contains(o, i) {
				add(append(slices.Clone(o), i))
			}
		}
	}
	add(nil)
}

// leastTimes tries all times, and keeps of each that rise or stay the least at each place of the order (nil: there are none).
func leastTimes(l []api.Event, o []int) (least []int) {
	var add func(times []int)
	add = func(times []int) {
		if len(times) < len(o) {
			s := l[o[len(times)]].Span
			for at := s.Lo; at <= s.Hi; at++ {
				add(append(slices.Clone(times), at))
			}
			return
		}
		if !slices.IsSorted(times) {
			return
		}
		if least == nil {
			least = slices.Clone(times)
		}
		for i := range times {
			least[i] = min(least[i], times[i])
		}
	}
	add(nil)
	return least
}

// standsBehind: whether one that is Surely ahead of another one stands behind it.
func standsBehind(l []api.Event, o []int) bool {
	for i, place := range o {
		for _, later := range o[i+1:] {
			if l[later].Span.Hi < l[place].Span.Lo {
				return true
			}
		}
	}
	return false
}

// longestRow tries all rows that end with an Event.
func longestRow(l []api.Event, last int) int {
	longest := 1
	for i, e := range l {
		if e.Span.Hi < l[last].Span.Lo {
			longest = max(longest, longestRow(l, i)+1)
		}
	}
	return longest
}

// anyEvents takes n of them, from 0 to most, as wide as wide.
func anyEvents(r *rand.Rand, n, most, wide int) (l []api.Event) {
	ids := r.Perm(3 * full)
	for i := range n {
		lo := r.Intn(most+1) - most/2
		l = append(l, api.Event{Id: ids[i] - full, Span: sp(lo, lo+r.Intn(wide+1))})
	}
	return l
}

// TestAgainstAllTimes: of few Events, along every order, by trying all times there are.
func TestAgainstAllTimes(t *testing.T) {
	r := rand.New(rand.NewSource(2))
	could, never := 0, 0
	for range 400 {
		l := anyEvents(r, r.Intn(5), 6, 3)
		allOrders(len(l), func(o []int) {
			least := leastTimes(l, o)
			switch {
			case len(l) == 0:
				wantTimes(t, l, o)
			case least == nil:
				never++
				wantNever(t, l, o)
			default:
				could++
				wantTimes(t, l, o, least...)
			}
		})
		if t.Failed() {
			t.FailNow()
		}
	}
	if could < 500 || never < 500 {
		t.Errorf("it could be so %d times, and could not %d times", could, never)
	}
}

// TestAgainstAllOrders: it could be so just if nobody sure stands behind, and Many counts just those orders.
func TestAgainstAllOrders(t *testing.T) {
	r := rand.New(rand.NewSource(3))
	for range 60 {
		most := []int{8, 20, 40}[r.Intn(3)]
		l := anyEvents(r, r.Intn(8), most, []int{0, 4, 10}[r.Intn(3)])
		many := 0
		allOrders(len(l), func(o []int) {
			so := !standsBehind(l, o)
			if so {
				many++
			}
			wantCould(t, l, o, so, api.OK)
		})
		wantMany(t, l, many)
		if t.Failed() {
			t.FailNow()
		}
	}
}

// TestAgainstAllRows: of up to MaxEvents.
func TestAgainstAllRows(t *testing.T) {
	r := rand.New(rand.NewSource(4))
	for range 2_000 {
		most := []int{10, 30, 100, top}[r.Intn(4)]
		l := anyEvents(r, r.Intn(full+1), most, []int{0, 3, 10, most / 2}[r.Intn(4)])
		want := []int{}
		for i := range l {
			want = append(want, longestRow(l, i))
		}
		wantRanks(t, l, want...)
		if t.Failed() {
			t.FailNow()
		}
	}
}

// lastMany counts orders from the other end: whoever has nobody behind in the set may be its last.
func lastMany(l []api.Event, set int, known map[int]int) int {
	if set == 0 {
		return 1
	}
	if n, ok := known[set]; ok {
		return n
	}
	sum := 0
	for i := range l {
		last := set>>i&1 == 1
		for k := range l {
			if set>>k&1 == 1 && l[i].Span.Hi < l[k].Span.Lo {
				last = false
			}
		}
		if last {
			sum += lastMany(l, set&^(1<<i), known)
		}
	}
	known[set] = sum
	return sum
}

// TestManyFull: of up to MaxEvents, and that it is of no weight how they stand in the list.
func TestManyFull(t *testing.T) {
	r := rand.New(rand.NewSource(5))
	for range 100 {
		n := full - r.Intn(4)
		l := anyEvents(r, n, []int{10, 40, 100}[r.Intn(3)], []int{0, 6, 25, 60}[r.Intn(4)])
		want := lastMany(l, 1<<n-1, map[int]int{})
		wantMany(t, l, want)
		r.Shuffle(n, func(i, k int) { l[i], l[k] = l[k], l[i] })
		wantMany(t, l, want)
		if t.Failed() {
			t.FailNow()
		}
	}
}
