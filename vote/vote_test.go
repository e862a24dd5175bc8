package vote_test

import (
	"math"
	"math/rand"
	"slices"
	"testing"

	"noonmark/api"
	"noonmark/plain"
	"noonmark/vote"
)

const top = api.MaxTime

func sp(lo, hi int) api.Span { return api.Span{Lo: lo, Hi: hi} }

// list makes spans of numbers, two by two.
func list(ends ...int) (l []api.Span) {
	for i := 0; i+1 < len(ends); i += 2 {
		l = append(l, sp(ends[i], ends[i+1]))
	}
	return l
}

func wantMeet(t *testing.T, l []api.Span, want api.Span, errno api.Errno) {
	t.Helper()
	got, err := vote.Meet(l)
	if got != want || plain.Told(err) != errno {
		t.Errorf("Meet(%v): got %v, %v; want %v, %v", l, got, plain.Told(err), want, errno)
	}
}

func wantMost(t *testing.T, l []api.Span, want api.Span, in int, errno api.Errno) {
	t.Helper()
	got, n, err := vote.Most(l)
	if got != want || n != in || plain.Told(err) != errno {
		t.Errorf("Most(%v): got %v, %d, %v; want %v, %d, %v", l, got, n, plain.Told(err), want, in, errno)
	}
}

func wantLiars(t *testing.T, l []api.Span, want []int, errno api.Errno) {
	t.Helper()
	got, err := vote.Liars(l)
	if !slices.Equal(got, want) || plain.Told(err) != errno {
		t.Errorf("Liars(%v): got %v, %v; want %v, %v", l, got, plain.Told(err), want, errno)
	}
}

func wantSafe(t *testing.T, l []api.Span, bad int, want api.Span, errno api.Errno) {
	t.Helper()
	got, err := vote.Safe(l, bad)
	if got != want || plain.Told(err) != errno {
		t.Errorf("Safe(%v, %d): got %v, %v; want %v, %v", l, bad, got, plain.Told(err), want, errno)
	}
}

func wantCheck(t *testing.T, l []api.Span, errno api.Errno) {
	t.Helper()
	if err := vote.Check(l); plain.Told(err) != errno {
		t.Errorf("Check(%v): got %v; want %v", l, plain.Told(err), errno)
	}
}

// wantAll: of one fault that Check and all four tell.
func wantAll(t *testing.T, l []api.Span, bad int, errno api.Errno) {
	t.Helper()
	wantCheck(t, l, errno)
	wantMeet(t, l, api.Span{}, errno)
	wantMost(t, l, api.Span{}, 0, errno)
	wantLiars(t, l, nil, errno)
	wantSafe(t, l, bad, api.Span{}, errno)
}

// TestCheck: of spans that are right nothing is wrong, also where no number is in all of them.
func TestCheck(t *testing.T) {
	wantCheck(t, list(4, 11), api.OK)
	wantCheck(t, list(0, 3, 4, 9, 7, 7), api.OK)
	wantCheck(t, list(-top, top, -top, -top, top, top), api.OK)
}

func TestMeet(t *testing.T) {
	wantMeet(t, list(4, 11), sp(4, 11), api.OK)
	wantMeet(t, list(0, 9, 3, 12, -5, 7), sp(3, 7), api.OK)
	wantMeet(t, list(0, 9, 3, 4, 2, 7), sp(3, 4), api.OK)
	wantMeet(t, list(0, 3, 3, 9), sp(3, 3), api.OK)
	wantMeet(t, list(0, 3, 0, 3, 0, 3), sp(0, 3), api.OK)
	wantMeet(t, list(-top, top, -top, -top), sp(-top, -top), api.OK)
	wantMeet(t, list(-top, top, top, top), sp(top, top), api.OK)
	wantMeet(t, list(0, 3, 4, 9), api.Span{}, api.ErrClash)
	wantMeet(t, list(4, 9, 0, 3), api.Span{}, api.ErrClash)
	// Each two of them but one meet.
	wantMeet(t, list(0, 4, 3, 9, 8, 12), api.Span{}, api.ErrClash)
	wantMeet(t, list(-top, -top, top, top), api.Span{}, api.ErrClash)
}

func TestMost(t *testing.T) {
	for _, c := range []struct {
		l    []api.Span
		want api.Span
		in   int
	}{
		{list(4, 11), sp(4, 11), 1},
		{list(13, 13, -2, 6, -5, 15), sp(-2, 6), 2},
		{list(0, 9, 5, 14, 8, 20), sp(8, 9), 3},
		// One that is in the midst of another one.
		{list(0, 9, 3, 4), sp(3, 4), 2},
		// Hi is with it: two that have one number in common.
		{list(0, 3, 3, 9), sp(3, 3), 2},
		// Of numbers that are in as many those of the first span, wherever it stands in the list.
		{list(20, 30, 5, 7, 12, 14), sp(5, 7), 1},
		{list(20, 30, 25, 40, 0, 9, 9, 12), sp(9, 9), 2},
		{list(0, 20, 3, 4, 10, 15), sp(3, 4), 2},
		// The first one, not the widest one.
		{list(0, 0, 2, 1000), sp(0, 0), 1},
		// More of them is better than ahead.
		{list(0, 9, 1, 8, 50, 50, 50, 50, 50, 50), sp(50, 50), 3},
		{list(-top, top, -top, -top, top, top), sp(-top, -top), 2},
		{list(-top, top, top, top), sp(top, top), 2},
		{list(0, 0, 0, 0, 0, 0), sp(0, 0), 3},
	} {
		wantMost(t, c.l, c.want, c.in, api.OK)
	}
}

// TestMostAsWide: numbers side by side that are in as many are one span, whichever of the spans they are in.
func TestMostAsWide(t *testing.T) {
	wantMost(t, list(0, 2, 3, 5), sp(0, 5), 1, api.OK)
	wantMost(t, list(3, 5, 0, 2), sp(0, 5), 1, api.OK)
	wantMost(t, list(0, 2, 3, 5, 6, 6), sp(0, 6), 1, api.OK)
	wantMost(t, list(0, 2, 1, 4, 3, 6), sp(1, 4), 2, api.OK)
	wantMost(t, list(0, 9, 2, 3, 4, 4, 6, 7), sp(2, 4), 2, api.OK)
	// A number between that is in fewer, or in none, parts them.
	wantMost(t, list(0, 2, 4, 5), sp(0, 2), 1, api.OK)
	wantMost(t, list(0, 9, 2, 3, 5, 5), sp(2, 3), 2, api.OK)
	// What is in fewer just ahead or just behind is not of it.
	wantMost(t, list(0, 2, 3, 5, 3, 4, 5, 8), sp(3, 5), 2, api.OK)
	wantMost(t, list(-top, 0, 1, top), sp(-top, top), 1, api.OK)
}

func TestLiars(t *testing.T) {
	for _, c := range []struct {
		l    []api.Span
		want []int
	}{
		{list(4, 11), nil},
		{list(0, 9, 5, 14, 8, 20), nil},
		{list(13, 13, -2, 6, -5, 15), []int{0}},
		{list(-8, -8, -15, -12, -18, -18, 7, 7, -14, 4), []int{0, 2, 3}},
		// Rising by place, not by what they say.
		{list(90, 90, 0, 1, 80, 80, 0, 1, -70, -70), []int{0, 2, 4}},
		// Those that have one end of it, or some of its midst alone, have something of it.
		{list(0, 2, 1, 4, 3, 6), nil},
		{list(0, 2, 3, 5), nil},
		{list(0, 9, 0, 3, 3, 3, 4, 4), []int{3}},
		// Just ahead of it, and just behind it.
		{list(5, 7, 5, 7, 4, 4, 8, 8), []int{2, 3}},
		{list(5, 7, 5, 7, 0, 5, 7, 9, 5, 7), []int{3}},
		// Of as many the first is held for right, also against the others.
		{list(20, 30, 5, 7, 12, 14), []int{0, 2}},
		{list(-top, -top, top, top, -top, top), []int{1}},
	} {
		wantLiars(t, c.l, c.want, api.OK)
	}
}

func TestSafe(t *testing.T) {
	for _, c := range []struct {
		l     []api.Span
		bad   int
		want  api.Span
		errno api.Errno
	}{
		{list(4, 11), 0, sp(4, 11), api.OK},
		{list(0, 9, 3, 12, -5, 7), 0, sp(3, 7), api.OK},
		{list(0, 9, 3, 12, -5, 7), 1, sp(0, 9), api.OK},
		{list(0, 9, 3, 12, -5, 7), 2, sp(-5, 12), api.OK},
		{list(2, 10, -5, -5, -2, 32), 0, api.Span{}, api.ErrClash},
		{list(2, 10, -5, -5, -2, 32), 1, sp(2, 10), api.OK},
		{list(2, 10, -5, -5, -2, 32), 2, sp(-5, 32), api.OK},
		// From the least to the greatest, also over numbers that are in too few, or in none.
		{list(0, 1, 0, 1, 50, 60, 50, 60), 2, sp(0, 60), api.OK},
		{list(0, 1, 0, 1, 50, 60, 50, 60), 1, api.Span{}, api.ErrClash},
		{list(-15, 24, 16, 38, -7, -7), 1, sp(-7, 24), api.OK},
		// In more than all but bad is in at least as many.
		{list(0, 9, 4, 5, 4, 5, 9, 20), 2, sp(4, 9), api.OK},
		{list(0, 9, 4, 5, 4, 5, 9, 20), 3, sp(0, 20), api.OK},
		{list(-20, -12, 6, 8, 9, 30), 1, api.Span{}, api.ErrClash},
		{list(-20, -12, 6, 8, 9, 30), 2, sp(-20, 30), api.OK},
		// Hi is with it.
		{list(0, 3, 3, 9), 0, sp(3, 3), api.OK},
		{list(0, 2, 3, 9), 0, api.Span{}, api.ErrClash},
		{list(0, 2, 3, 9), 1, sp(0, 9), api.OK},
		{list(-top, -top, top, top), 1, sp(-top, top), api.OK},
		{list(0, 0, 0, 0), 1, sp(0, 0), api.OK},
	} {
		wantSafe(t, c.l, c.bad, c.want, c.errno)
	}
}

func TestBad(t *testing.T) {
	l := list(0, 9, 3, 12, -5, 7)
	for _, bad := range []int{math.MinInt, math.MinInt + 1, -41, -1, 3, 4, 40, 41, math.MaxInt} {
		wantSafe(t, l, bad, api.Span{}, api.ErrRange)
	}
	wantSafe(t, list(4, 4), 0, sp(4, 4), api.OK)
	wantSafe(t, list(4, 4), 1, api.Span{}, api.ErrRange)
	// Ahead of that no number is in enough of them.
	wantSafe(t, list(0, 1, 5, 6), -1, api.Span{}, api.ErrRange)
	wantSafe(t, list(0, 1, 5, 6), 2, api.Span{}, api.ErrRange)
	wantSafe(t, list(0, 1, 5, 6), 0, api.Span{}, api.ErrClash)
}

func TestNone(t *testing.T) {
	for _, bad := range []int{math.MinInt, -1, 0, 1, math.MaxInt} {
		wantAll(t, nil, bad, api.ErrNone)
		wantAll(t, []api.Span{}, bad, api.ErrNone)
	}
}

func TestFull(t *testing.T) {
	l := slices.Repeat(list(0, 9), api.MaxSpans)
	l[39] = sp(5, 20)
	wantCheck(t, l, api.OK)
	wantMeet(t, l, sp(5, 9), api.OK)
	wantMost(t, l, sp(5, 9), 40, api.OK)
	wantLiars(t, l, nil, api.OK)
	wantSafe(t, l, 39, sp(0, 20), api.OK)
	wantSafe(t, l, 40, api.Span{}, api.ErrRange)
	// Ahead of whatever else is wrong.
	wantAll(t, append(slices.Clone(l), sp(0, 9)), 0, api.ErrFull)
	wantAll(t, append(list(9, 0), l...), -1, api.ErrFull)
	wantAll(t, slices.Repeat(list(0, 0, 5, 5), 1000), 5000, api.ErrFull)
}

// TestNoSpan: each of them is checked, wherever it stands, and ahead of what comes of them.
func TestNoSpan(t *testing.T) {
	for _, bad := range list(1, 0, -top-1, 0, 0, top+1, math.MinInt, math.MaxInt, math.MaxInt, math.MinInt, top+1, top+1, -top-1, -top-1, math.MaxInt, math.MaxInt) {
		for n := 1; n <= 4; n++ {
			for at := range n {
				l := list(0, 3, 50, 60, 70, 80, 90, 99)[:n]
				l[at] = bad
				wantAll(t, l, 0, api.ErrRange)
			}
		}
	}
}

// TestLeavesTheList: nothing is written into it, and what lies behind its length is not asked.
func TestLeavesTheList(t *testing.T) {
	memory := list(8, 20, 0, 9, 5, 14, 9, 0)
	before := slices.Clone(memory)
	for n, want := range []api.Span{{}, sp(8, 20), sp(8, 9), sp(8, 9)} {
		errno := api.OK
		if n == 0 {
			errno = api.ErrNone
		}
		wantMeet(t, memory[:n], want, errno)
		wantMost(t, memory[:n], want, n, errno)
		wantLiars(t, memory[:n], nil, errno)
		wantSafe(t, memory[:n], 0, want, errno)
	}
	if !slices.Equal(memory, before) {
		t.Errorf("the list was %v, and is %v", before, memory)
	}
}

// TestFreshMemory: a list that came out is the caller's.
func TestFreshMemory(t *testing.T) {
	l := list(90, 90, 0, 1, 80, 80, 0, 1)
	first, _ := vote.Liars(l)
	clear(first[:cap(first)])
	wantLiars(t, l, []int{0, 2}, api.OK)
}

// model is what comes of spans from -reach to reach, by asking each number how many it is in.
type model struct {
	l  []api.Span
	in map[int]int
}

const reach = 30

func modelled(l []api.Span) model {
	m := model{l, map[int]int{}}
	for _, s := range l {
		for n := s.Lo; n <= s.Hi; n++ {
			m.in[n]++
		}
	}
	return m
}

// least and greatest number that is in at least so many; false if none is.
func (m model) ends(atLeast int) (api.Span, bool) {
	var s api.Span
	found := false
	for n := -reach; n <= reach; n++ {
		if m.in[n] >= atLeast {
			if !found {
				s.Lo = n
			}
			s.Hi, found = n, true
		}
	}
	return s, found
}

func (m model) most() (api.Span, int) {
	in := 0
	for n := -reach; n <= reach; n++ {
		in = max(in, m.in[n])
	}
	s, _ := m.ends(in)
	s.Hi = s.Lo
	for m.in[s.Hi+1] == in {
		s.Hi++
	}
	return s, in
}

func (m model) liars() (out []int) {
	it, _ := m.most()
	for i, s := range m.l {
		some := false
		for n := s.Lo; n <= s.Hi; n++ {
			some = some || it.Lo <= n && n <= it.Hi
		}
		if !some {
			out = append(out, i)
		}
	}
	return out
}

func wantModelled(t *testing.T, l []api.Span) {
	t.Helper()
	m := modelled(l)
	it, in := m.most()
	wantMost(t, l, it, in, api.OK)
	wantLiars(t, l, m.liars(), api.OK)
	for bad := range len(l) {
		errno := api.OK
		want, found := m.ends(len(l) - bad)
		if !found {
			errno = api.ErrClash
		}
		wantSafe(t, l, bad, want, errno)
		if bad == 0 {
			wantMeet(t, l, want, errno)
		}
	}
}

// TestModelOfThree: all of up to three spans of seven numbers.
func TestModelOfThree(t *testing.T) {
	var all []api.Span
	for lo := -3; lo <= 3; lo++ {
		for hi := lo; hi <= 3; hi++ {
			all = append(all, sp(lo, hi))
		}
	}
	for _, a := range all {
		wantModelled(t, []api.Span{a})
		for _, b := range all {
			wantModelled(t, []api.Span{a, b})
			for _, c := range all {
				wantModelled(t, []api.Span{a, b, c})
			}
		}
	}
}

func anySpans(r *rand.Rand, most int) []api.Span {
	l := make([]api.Span, 1+r.Intn(most))
	wide := 1 + r.Intn(reach)
	for i := range l {
		lo := r.Intn(2*reach+1) - reach
		l[i] = sp(lo, min(reach, lo+r.Intn(wide)))
	}
	return l
}

func TestModel(t *testing.T) {
	r := rand.New(rand.NewSource(4))
	for range 4000 {
		wantModelled(t, anySpans(r, 8))
		wantModelled(t, anySpans(r, api.MaxSpans))
	}
}

// TestFarModel: the same, moved out to the bounds.
func TestFarModel(t *testing.T) {
	r := rand.New(rand.NewSource(5))
	for range 2000 {
		l := anySpans(r, 12)
		it, in, _ := vote.Most(l)
		liars, _ := vote.Liars(l)
		bad := r.Intn(len(l))
		safe, err := vote.Safe(l, bad)
		for _, far := range []int{reach - top, top - reach} {
			moved := slices.Clone(l)
			for i := range moved {
				moved[i] = sp(l[i].Lo+far, l[i].Hi+far)
			}
			wantMost(t, moved, sp(it.Lo+far, it.Hi+far), in, api.OK)
			wantLiars(t, moved, liars, api.OK)
			if err != nil {
				wantSafe(t, moved, bad, api.Span{}, api.ErrClash)
			} else {
				wantSafe(t, moved, bad, sp(safe.Lo+far, safe.Hi+far), api.OK)
			}
		}
	}
}

// TestWhatIsRight: if no more than bad are wrong, what is right is in it, whatever the others say.
func TestWhatIsRight(t *testing.T) {
	r := rand.New(rand.NewSource(6))
	for range 20_000 {
		right := r.Intn(2001) - 1000
		l := make([]api.Span, 1+r.Intn(api.MaxSpans))
		bad := r.Intn(len(l))
		wrong := r.Intn(bad + 1)
		for i, at := range r.Perm(len(l)) {
			l[at] = sp(right-r.Intn(50), right+r.Intn(50))
			if i < wrong {
				lo := r.Intn(4001) - 2000
				l[at] = sp(lo, lo+r.Intn(500))
			}
		}
		s, err := vote.Safe(l, bad)
		if err != nil || right < s.Lo || right > s.Hi {
			t.Fatalf("Safe(%v, %d): %v, %v has not %d", l, bad, s, err, right)
		}
	}
}
