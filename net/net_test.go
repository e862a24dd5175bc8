package net_test

import (
	"math"
	"math/rand"
	"slices"
	"testing"

	"noonmark/api"
	"noonmark/net"
	"noonmark/plain"
)

const (
	top     = api.MaxTime
	million = 1_000_000
	last    = 1_000_000_000
)

func sp(lo, hi int) api.Span { return api.Span{Lo: lo, Hi: hi} }

func edge(a, b, lo, hi int) api.Edge { return api.Edge{A: a, B: b, Span: sp(lo, hi)} }

func asked(from, to, at int) api.Letter { return api.Letter{From: from, To: to, T: at} }

func answered(from, to, t1, at int) api.Letter {
	return api.Letter{From: from, To: to, Answer: true, T1: t1, T2: at, T: at}
}

// hand holds a Net, and each call on it to what it must tell.
type hand struct {
	t *testing.T
	n *net.Net
}

func made(t *testing.T, starts, rates []int, ppm int) hand {
	t.Helper()
	n, err := net.New(starts, rates, ppm)
	if err != nil || n == nil {
		t.Fatalf("New(%v, %v, %d): got %v, %v", starts, rates, ppm, n, plain.Told(err))
	}
	return hand{t, n}
}

// three clocks: a fast one, a slow one, and one that is neither.
func three(t *testing.T) hand {
	t.Helper()
	return made(t, []int{100, 200, 300}, []int{1000, -1000, 0}, 1000)
}

// even clocks go as true time does, and nobody doubts it; each one starts 100 behind the one ahead of it.
func even(t *testing.T, n int) hand {
	t.Helper()
	starts := []int{}
	for i := range n {
		starts = append(starts, 100*i)
	}
	return made(t, starts, make([]int, n), 0)
}

func wantNone(t *testing.T, starts, rates []int, ppm int, errno api.Errno) {
	t.Helper()
	if n, err := net.New(starts, rates, ppm); n != nil || plain.Told(err) != errno {
		t.Errorf("New(%v, %v, %d): got %v, %v; want nil, %v", starts, rates, ppm, n, plain.Told(err), errno)
	}
}

func (h hand) does(what, a, b int, errno api.Errno) {
	h.t.Helper()
	if err := h.n.Do(api.Act{What: what, A: a, B: b}); plain.Told(err) != errno {
		h.t.Errorf("Do(%d, %d, %d): got %v; want %v", what, a, b, plain.Told(err), errno)
	}
}

func (h hand) goes(by int)       { h.t.Helper(); h.does(api.Go, by, 0, api.OK) }
func (h hand) asks(a, b int)     { h.t.Helper(); h.does(api.Ask, a, b, api.OK) }
func (h hand) delivers(i int)    { h.t.Helper(); h.does(api.Deliver, i, 0, api.OK) }
func (h hand) repeats(i int)     { h.t.Helper(); h.does(api.Repeat, i, 0, api.OK) }
func (h hand) loses(i int)       { h.t.Helper(); h.does(api.Lose, i, 0, api.OK) }
func (h hand) lies(l api.Letter) { h.t.Helper(); h.answers(l, api.OK) }

// answers a Letter that never came: by what a Net has of its World, an Answer is under way that tells what is not so.
func (h hand) answers(l api.Letter, errno api.Errno) {
	h.t.Helper()
	if err := h.n.Answer(l); plain.Told(err) != errno {
		h.t.Errorf("Answer(%v): got %v; want %v", l, plain.Told(err), errno)
	}
}

// learns: a asks b, and both Letters come at once; nothing else is under way. So what is kept is as b's clock less a's, and up to 2 more.
func (h hand) learns(a, b int) {
	h.t.Helper()
	h.asks(a, b)
	h.delivers(0)
	h.delivers(0)
	h.under()
}

func (h hand) under(want ...api.Letter) {
	h.t.Helper()
	if got := h.n.Under(); !slices.Equal(got, want) {
		h.t.Errorf("Under: got %v; want %v", got, want)
	}
}

func (h hand) edges(want ...api.Edge) {
	h.t.Helper()
	if got, err := h.n.Edges(); err != nil || !slices.Equal(got, want) {
		h.t.Errorf("Edges: got %v, %v; want %v", got, plain.Told(err), want)
	}
}

func (h hand) noEdges(errno api.Errno) {
	h.t.Helper()
	if got, err := h.n.Edges(); len(got) != 0 || plain.Told(err) != errno {
		h.t.Errorf("Edges: got %v, %v; want %v", got, plain.Told(err), errno)
	}
}

// offset of two, and of these the other way round.
func (h hand) offset(a, b, lo, hi int) {
	h.t.Helper()
	if got, err := h.n.Offset(a, b); err != nil || got != sp(lo, hi) {
		h.t.Errorf("Offset(%d, %d): got %v, %v; want %v", a, b, got, plain.Told(err), sp(lo, hi))
	}
	if got, err := h.n.Offset(b, a); err != nil || got != sp(-hi, -lo) {
		h.t.Errorf("Offset(%d, %d): got %v, %v; want %v", b, a, got, plain.Told(err), sp(-hi, -lo))
	}
}

// noOffset either way round.
func (h hand) noOffset(a, b int, errno api.Errno) {
	h.t.Helper()
	for _, two := range [][2]int{{a, b}, {b, a}} {
		if got, err := h.n.Offset(two[0], two[1]); got != (api.Span{}) || plain.Told(err) != errno {
			h.t.Errorf("Offset(%d, %d): got %v, %v; want %v", two[0], two[1], got, plain.Told(err), errno)
		}
	}
}

func (h hand) wide(want int, errno api.Errno) {
	h.t.Helper()
	if got, err := h.n.Wide(); got != want || plain.Told(err) != errno {
		h.t.Errorf("Wide: got %d, %v; want %d, %v", got, plain.Told(err), want, errno)
	}
}

// shows: what the clocks show, all of them, and that there are no more; of those that there are not no Offset is told either.
func (h hand) shows(want ...int) {
	h.t.Helper()
	for i, n := range want {
		if got, err := h.n.Show(i); got != n || err != nil {
			h.t.Errorf("Show(%d): got %d, %v; want %d", i, got, plain.Told(err), n)
		}
	}
	for _, i := range []int{len(want), len(want) + 1, api.MaxNodes, -1, -2, math.MinInt, math.MaxInt, 1 << 32} {
		if got, err := h.n.Show(i); got != 0 || plain.Told(err) != api.ErrRange {
			h.t.Errorf("Show(%d) of %d clocks: got %d, %v; want 0, %v", i, len(want), got, plain.Told(err), api.ErrRange)
		}
		h.noOffset(i, i, api.ErrRange)
		for k := range want {
			h.noOffset(i, k, api.ErrRange)
		}
	}
}

// state is all that a Net tells.
type state struct {
	time    int
	under   []api.Letter
	shown   []int
	edges   []api.Edge
	offsets []api.Span
	errnos  []api.Errno
	wide    int
}

func (h hand) state() state {
	s := state{time: h.n.Time(), under: h.n.Under()}
	var err error
	s.edges, err = h.n.Edges()
	s.errnos = append(s.errnos, plain.Told(err))
	s.wide, err = h.n.Wide()
	s.errnos = append(s.errnos, plain.Told(err))
	for a := range api.MaxNodes {
		shown, err := h.n.Show(a)
		s.shown, s.errnos = append(s.shown, shown), append(s.errnos, plain.Told(err))
		for b := range api.MaxNodes {
			o, err := h.n.Offset(a, b)
			s.offsets, s.errnos = append(s.offsets, o), append(s.errnos, plain.Told(err))
		}
	}
	return s
}

func (s state) is(o state) bool {
	return s.time == o.time && s.wide == o.wide && slices.Equal(s.under, o.under) && slices.Equal(s.shown, o.shown) &&
		slices.Equal(s.edges, o.edges) && slices.Equal(s.offsets, o.offsets) && slices.Equal(s.errnos, o.errnos)
}

// refuses: that an act tells such an error, and that all is as it was.
func (h hand) refuses(what, a, b int, errno api.Errno) {
	h.t.Helper()
	ahead := h.state()
	h.does(what, a, b, errno)
	if behind := h.state(); !behind.is(ahead) {
		h.t.Errorf("Do(%d, %d, %d): was %v, is %v", what, a, b, ahead, behind)
	}
}

// TestNew: from one clock to just MaxNodes; each node knows of itself alone.
func TestNew(t *testing.T) {
	for n := 1; n <= api.MaxNodes; n++ {
		starts, rates := []int{}, []int{}
		for i := range n {
			starts, rates = append(starts, 70*i), append(rates, i-3)
		}
		h := made(t, starts, rates, 5)
		h.shows(starts...)
		h.edges()
		h.under()
		h.wide(0, api.OK)
		for a := range n {
			for b := range n {
				if a == b {
					h.offset(a, b, 0, 0)
				} else {
					h.noOffset(a, b, api.ErrNone)
				}
			}
		}
	}
	made(t, []int{0, million}, []int{-1000, 1000}, 1000).shows(0, million)
	made(t, []int{0, million}, []int{0, 0}, 0).shows(0, million)
}

// TestNewWrong: each error, at its edges, and which of several is told.
func TestNewWrong(t *testing.T) {
	two := []int{0, 0}
	for _, ppm := range []int{-1, -2, api.MaxPpm + 1, 3000, million, math.MinInt, math.MaxInt, 1 << 32} {
		wantNone(t, two, two, ppm, api.ErrRange)
		wantNone(t, two, []int{0}, ppm, api.ErrRange)
		wantNone(t, nil, nil, ppm, api.ErrRange)
	}
	many := make([]int, api.MaxNodes+1)
	for _, ppm := range []int{0, 100, api.MaxPpm} {
		wantNone(t, nil, nil, ppm, api.ErrRange)
		wantNone(t, []int{}, []int{}, ppm, api.ErrRange)
		wantNone(t, nil, []int{0}, ppm, api.ErrRange)
		wantNone(t, many, many, ppm, api.ErrRange)
		wantNone(t, many, two, ppm, api.ErrRange)
		wantNone(t, make([]int, 100), make([]int, 100), ppm, api.ErrRange)
		wantNone(t, two, []int{0}, ppm, api.ErrShape)
		wantNone(t, two, nil, ppm, api.ErrShape)
		wantNone(t, two, []int{0, 0, 0}, ppm, api.ErrShape)
		wantNone(t, []int{-1, 0}, []int{9999}, ppm, api.ErrShape)
		for _, start := range []int{-1, million + 1, math.MinInt, math.MaxInt} {
			wantNone(t, []int{start, 0}, two, ppm, api.ErrRange)
			wantNone(t, []int{0, start}, two, ppm, api.ErrRange)
		}
		for _, rate := range []int{-ppm - 1, ppm + 1, math.MinInt, math.MaxInt} {
			wantNone(t, two, []int{rate, 0}, ppm, api.ErrRange)
			wantNone(t, two, []int{0, rate}, ppm, api.ErrRange)
		}
	}
}

// TestAsked: a Letter that comes and is no Answer: its Answer is under way, behind all, by what the clock shows where it came; nobody knows anything yet.
func TestAsked(t *testing.T) {
	h := three(t)
	h.asks(0, 1)
	h.asks(2, 1)
	h.asks(1, 2)
	h.under(asked(0, 1, 100), asked(2, 1, 300), asked(1, 2, 200))
	h.goes(1000)
	h.shows(1101, 1199, 1300)
	h.delivers(0)
	h.under(asked(2, 1, 300), asked(1, 2, 200), answered(1, 0, 100, 1199))
	h.goes(1000)
	h.delivers(1)
	h.under(asked(2, 1, 300), answered(1, 0, 100, 1199), answered(2, 1, 200, 2300))
	h.edges()
	h.wide(0, api.OK)
	h.noOffset(0, 1, api.ErrNone)
	h.noOffset(1, 2, api.ErrNone)
}

// TestAnswered: by hand, there and back, while clocks go fast and slow; what is known is widened while time goes on. No Answer is answered.
func TestAnswered(t *testing.T) {
	h := three(t)
	h.asks(0, 1)
	h.goes(1000)
	h.delivers(0)
	h.goes(1000)
	h.shows(2102, 2198, 2300)
	h.delivers(0)
	h.under()
	// From 1199 - 2102 to 1199 - 100 + 2 + 7, and 2 on either side.
	h.edges(edge(0, 1, -905, 1110))
	h.offset(0, 1, -905, 1110)
	h.wide(2015, api.OK)
	h.noOffset(0, 2, api.ErrNone)
	h.noOffset(1, 2, api.ErrNone)
	h.goes(1000)
	// 1001 more by the clock of node 0: 4 more on either side.
	h.edges(edge(0, 1, -909, 1114))
	h.offset(0, 1, -909, 1114)
	h.wide(2023, api.OK)

	// What is heard then is held against what it has by then.
	h.learns(0, 1)
	h.shows(3103, 3197, 3300)
	h.edges(edge(0, 1, 92, 98))
	h.offset(0, 1, 92, 98)
	h.wide(6, api.OK)
	h.learns(1, 0)
	h.edges(edge(0, 1, 92, 98), edge(1, 0, -96, -90))
	h.offset(0, 1, 92, 96)
	h.wide(4, api.OK)
	// By node 0's clock 1001 passed, by node 1's 999.
	h.goes(1000)
	h.edges(edge(0, 1, 88, 102), edge(1, 0, -99, -87))
	h.offset(0, 1, 88, 99)
	h.wide(11, api.OK)
}

// TestOwnPpm: each node widens by ppm, not by how its clock truly goes.
func TestOwnPpm(t *testing.T) {
	for _, c := range []struct{ ppm, more int }{{0, 2}, {1, 3}, {100, 5}, {334, 13}, {1000, 32}} {
		h := made(t, []int{0, 500}, []int{0, 0}, c.ppm)
		h.learns(0, 1)
		h.edges(edge(0, 1, 498, 504))
		h.goes(10_000)
		h.edges(edge(0, 1, 500-c.more, 502+c.more))
		h.wide(2+2*c.more, api.OK)
	}
}

// TestLost: what is lost is neither heard nor answered, be it an Answer or none.
func TestLost(t *testing.T) {
	h := three(t)
	h.asks(0, 1)
	h.asks(1, 2)
	h.loses(0)
	h.under(asked(1, 2, 200))
	h.delivers(0)
	h.under(answered(2, 1, 200, 300))
	h.loses(0)
	h.under()
	h.edges()
	h.wide(0, api.OK)
	h.learns(1, 2)
	h.edges(edge(1, 2, 98, 104))
	h.asks(1, 2)
	h.delivers(0)
	h.loses(0)
	h.edges(edge(1, 2, 98, 104))
}

// TestTwice: a Letter that comes twice is answered twice; an Answer that comes twice is heard twice, and stays till it is delivered.
func TestTwice(t *testing.T) {
	h := three(t)
	h.asks(1, 2)
	h.goes(10)
	h.repeats(0)
	h.under(asked(1, 2, 200), answered(2, 1, 200, 310))
	h.goes(10)
	h.delivers(0)
	h.under(answered(2, 1, 200, 310), answered(2, 1, 200, 320))
	h.edges()
	h.shows(120, 219, 320)
	h.repeats(0)
	// From 310 - 219 to 310 - 200 + 2 + 1, and 2 on either side.
	h.edges(edge(1, 2, 89, 115))
	h.under(answered(2, 1, 200, 310), answered(2, 1, 200, 320))
	h.repeats(1)
	// From 320 - 219; up to what it had.
	h.edges(edge(1, 2, 99, 117))
	h.delivers(0)
	h.edges(edge(1, 2, 97, 115))
	h.under(answered(2, 1, 200, 320))
	h.delivers(0)
	h.edges(edge(1, 2, 99, 117))
	h.under()
}

// TestEdges: of a net in which nobody has asked, one has, more have, and all have: one node behind the other, of each of them rising, whoever asked first.
func TestEdges(t *testing.T) {
	h := even(t, 4)
	h.edges()
	h.learns(2, 1)
	h.edges(edge(2, 1, -102, -96))
	h.learns(3, 0)
	h.learns(2, 3)
	h.learns(0, 3)
	h.edges(edge(0, 3, 298, 304), edge(2, 1, -102, -96), edge(2, 3, 98, 104), edge(3, 0, -302, -296))

	r := rand.New(rand.NewSource(161))
	for n := 1; n <= api.MaxNodes; n++ {
		for range 5 {
			h := even(t, n)
			want := []api.Edge{}
			for _, k := range r.Perm(n * n) {
				if a, b := k/n, k%n; a != b {
					h.learns(a, b)
				}
			}
			for a := range n {
				for b := range n {
					if a != b {
						want = append(want, edge(a, b, 100*(b-a)-2, 100*(b-a)+4))
					}
				}
			}
			h.edges(want...)
		}
	}
}

// TestOffset: of a node with itself, of two with an edge, of two with one either way, and of two that know of each other by others only.
func TestOffset(t *testing.T) {
	h := even(t, 6)
	for a := range 6 {
		h.offset(a, a, 0, 0)
	}
	h.learns(0, 1)
	h.offset(0, 1, 98, 104)
	h.noOffset(0, 2, api.ErrNone)
	h.noOffset(1, 2, api.ErrNone)
	h.learns(1, 2)
	h.offset(0, 1, 98, 104)
	h.offset(1, 2, 98, 104)
	h.offset(0, 2, 196, 208)
	// Both know of a third one.
	h.learns(3, 2)
	h.offset(2, 3, 96, 102)
	h.offset(1, 3, 194, 206)
	h.offset(0, 3, 292, 310)
	// A third one knows of both; what stands apart stays apart.
	h.learns(4, 5)
	h.offset(4, 5, 98, 104)
	h.noOffset(3, 4, api.ErrNone)
	h.noOffset(0, 5, api.ErrNone)
	h.learns(4, 0)
	h.offset(0, 4, 396, 402)
	h.offset(0, 5, 494, 506)
	h.offset(3, 5, 184, 214)
	// Known both ways: what both leave.
	h.learns(1, 0)
	h.offset(0, 1, 98, 102)
	h.offset(0, 2, 196, 206)
	// A way around leaves less than what the two know of each other.
	h.asks(0, 3)
	h.goes(1000)
	h.delivers(0)
	h.goes(1000)
	h.delivers(0)
	h.edges(edge(0, 1, 98, 104), edge(0, 3, -702, 1304), edge(1, 0, -102, -96), edge(1, 2, 98, 104), edge(3, 2, -102, -96), edge(4, 0, -402, -396), edge(4, 5, 98, 104))
	h.offset(0, 3, 292, 308)
	for a := range 6 {
		h.offset(a, a, 0, 0)
	}
}

// TestWide: of a net in which nothing can be told, something can, and all can; each two count once, by whomever they are told.
func TestWide(t *testing.T) {
	h := even(t, 4)
	h.wide(0, api.OK)
	h.asks(0, 1)
	h.wide(0, api.OK)
	h.delivers(0)
	h.wide(0, api.OK)
	h.delivers(0)
	h.wide(6, api.OK)
	h.learns(3, 2)
	h.wide(6+6, api.OK)
	h.learns(2, 3)
	h.wide(6+4, api.OK)
	// 0 and 1 by 6, 2 and 3 by 4, 1 and 2 by 6, the others over these.
	h.learns(1, 2)
	h.wide(6+4+6+(6+6)+(6+4)+(6+6+4), api.OK)

	alone := even(t, 1)
	alone.wide(0, api.OK)
	alone.goes(million)
	alone.wide(0, api.OK)
	for n := 2; n <= api.MaxNodes; n++ {
		all := even(t, n)
		for a := range n {
			for b := range n {
				if a != b {
					all.learns(a, b)
				}
			}
		}
		all.wide(4*n*(n-1)/2, api.OK)
	}
}

// TestShow: what clocks show, as time goes on.
func TestShow(t *testing.T) {
	h := three(t)
	h.shows(100, 200, 300)
	h.goes(1)
	h.shows(101, 200, 301)
	h.goes(0)
	h.shows(101, 200, 301)
	h.goes(999_999)
	h.shows(100+million+1000, 200+million-1000, 300+million)
	even(t, 1).shows(0)
	even(t, 6).shows(0, 100, 200, 300, 400, 500)
}

// busy is a net in which something is known, and something is under way.
func busy(t *testing.T) hand {
	t.Helper()
	h := three(t)
	h.goes(500)
	h.learns(0, 2)
	h.goes(700)
	h.learns(1, 0)
	h.asks(2, 1)
	h.asks(0, 1)
	h.goes(20)
	h.delivers(0)
	return h
}

// TestDoWrong: each error of the World's Do; the net is as it was.
func TestDoWrong(t *testing.T) {
	far := []int{math.MinInt, math.MaxInt, 1 << 32, -1 << 32}
	h := busy(t)
	for _, what := range append([]int{0, -1, -5, 6, 7, 100}, far...) {
		h.refuses(what, 0, 1, api.ErrRange)
		h.refuses(what, 99, 99, api.ErrRange)
	}
	for _, by := range append([]int{-1, -2, million + 1, 2 * million}, far...) {
		h.refuses(api.Go, by, 0, api.ErrRange)
	}
	for _, none := range append([]int{-1, -2, 3, 4, api.MaxNodes}, far...) {
		h.refuses(api.Ask, none, 0, api.ErrRange)
		h.refuses(api.Ask, 0, none, api.ErrRange)
		h.refuses(api.Ask, none, none, api.ErrRange)
	}
	for i := range 3 {
		h.refuses(api.Ask, i, i, api.ErrShape)
	}
	for _, what := range []int{api.Deliver, api.Lose, api.Repeat} {
		for _, i := range append([]int{-1, -2, 2, 3, api.MaxUnder}, far...) {
			h.refuses(what, i, 0, api.ErrNone)
		}
	}
	for range api.MaxUnder - 2 {
		h.asks(1, 2)
	}
	h.refuses(api.Ask, 0, 1, api.ErrFull)
	h.refuses(api.Ask, 1, 1, api.ErrShape)
	h.refuses(api.Ask, 1, 3, api.ErrRange)
	h.refuses(api.Deliver, api.MaxUnder, 0, api.ErrNone)
}

// TestLastTime: up to it time goes on, and not beyond.
func TestLastTime(t *testing.T) {
	h := three(t)
	h.learns(2, 0)
	for range last / million {
		h.goes(million)
	}
	h.refuses(api.Go, 1, 0, api.ErrRange)
	h.goes(0)
	h.shows(last+100+million, last+200-million, last+300)
	h.edges(edge(2, 0, -200-2-3_000_000, -200+4+3_000_000))
	h.learns(0, 2)
	h.offset(0, 2, 200-million-2, 200-million+4)
}

// TestHearErrors: an error of Hear is told, be it of whichever kind; the Letter came all the same: delivered it is gone, repeated it stays. What was known stays known.
func TestHearErrors(t *testing.T) {
	for _, c := range []struct {
		lie   api.Letter
		errno api.Errno
	}{
		{asked(0, 0, 100), api.ErrShape}, // from itself
		{asked(2, 2, 300), api.ErrShape},
		{asked(0, 1, 2103), api.ErrShape}, // it came ahead of being sent
		{asked(0, 1, top), api.ErrShape},
		{asked(0, 1, top+1), api.ErrRange}, // times that are none
		{asked(0, 1, -top-1), api.ErrRange},
		{asked(0, 1, math.MinInt), api.ErrRange},
		{asked(0, 1, math.MaxInt), api.ErrRange},
		{asked(0, 1, 2102-top-1), api.ErrRange}, // it was under way for too long
		{asked(0, 1, 2102), api.ErrClash},       // it was there and back at once, and answered long ago
		{asked(2, 0, 2300), api.ErrClash},
	} {
		h := three(t)
		h.learns(0, 1)
		h.learns(2, 0)
		h.asks(1, 2)
		h.lies(c.lie)
		h.asks(2, 1)
		h.goes(2000)
		h.shows(2102, 2198, 2300)
		lie := h.n.Under()[1]
		ahead := h.state()
		h.refuses(api.Repeat, 1, 0, c.errno)
		h.refuses(api.Repeat, 1, 0, c.errno)
		h.under(asked(1, 2, 200), lie, asked(2, 1, 300))
		h.does(api.Deliver, 1, 0, c.errno)
		h.under(asked(1, 2, 200), asked(2, 1, 300))
		ahead.under = h.n.Under()
		if behind := h.state(); !behind.is(ahead) {
			t.Errorf("%v: was %v, is %v", c.lie, ahead, behind)
		}
		// All goes on then.
		h.delivers(0)
		h.delivers(0)
		h.delivers(0)
		h.delivers(0)
		h.under()
		if got, err := h.n.Edges(); err != nil || len(got) != 4 {
			t.Errorf("%v: Edges: got %v, %v", c.lie, got, plain.Told(err))
		}
	}
}

// TestAnswerErrors: what comes and stays makes no room for its Answer where MaxUnder are under way; what is delivered does. An Answer wants no room.
func TestAnswerErrors(t *testing.T) {
	h := three(t)
	h.learns(1, 2)
	h.asks(0, 1)
	h.asks(0, 2)
	h.delivers(1)
	for range api.MaxUnder - 3 {
		h.asks(1, 2)
	}
	h.goes(5)
	h.repeats(0)
	if got := h.n.Under(); len(got) != api.MaxUnder || got[api.MaxUnder-1] != answered(1, 0, 100, 204) {
		t.Errorf("Under: got %v", got)
	}
	for i, l := range h.n.Under() {
		if !l.Answer {
			h.refuses(api.Repeat, i, 0, api.ErrFull)
		}
	}
	h.edges(edge(1, 2, 97, 105))
	h.repeats(1)
	h.edges(edge(0, 2, 193, 205), edge(1, 2, 97, 105))
	h.refuses(api.Repeat, 0, 0, api.ErrFull)
	h.delivers(0)
	if got := h.n.Under(); len(got) != api.MaxUnder || got[api.MaxUnder-1] != answered(1, 0, 100, 204) || got[0] != answered(2, 0, 200-100, 300) {
		t.Errorf("Under: got %v", got)
	}
	h.refuses(api.Repeat, 2, 0, api.ErrFull)
	h.loses(5)
	h.repeats(2)
	h.refuses(api.Repeat, 2, 0, api.ErrFull)
}

// TestEdgesErrors: what one node has ends beyond MaxTime: nothing is told of any two then, but what clocks show is; just at MaxTime it is told.
func TestEdgesErrors(t *testing.T) {
	for id := range 3 {
		other := (id + 1) % 3
		for _, less := range []int{0, 1, 2, 3} {
			h := made(t, []int{50, 50, 50}, []int{0, 0, 0}, 0)
			h.learns(other, 3-id-other)
			h.lies(asked(id, other, 52-top+less))
			h.wide(6, api.OK)
			h.delivers(0)
			if less >= 2 {
				if got, err := h.n.Edges(); err != nil || len(got) != 2 {
					t.Errorf("Edges: got %v, %v", got, plain.Told(err))
				}
				continue
			}
			h.noEdges(api.ErrRange)
			h.wide(0, api.ErrRange)
			for a := range 3 {
				for b := range 3 {
					h.noOffset(a, b, api.ErrRange)
				}
			}
			h.shows(50, 50, 50)
			// Another Answer leaves less of it.
			h.learns(id, other)
			if got, err := h.n.Edges(); err != nil || len(got) != 2 {
				t.Errorf("Edges: got %v, %v", got, plain.Told(err))
			}
			h.offset(id, other, -2, 4)
		}
	}
}

// TestAllErrors: what each node has can be, but not all of it, or it ends beyond MaxTime together; nodes that there are not are told ahead of that, and both ahead of what nothing is known of.
func TestAllErrors(t *testing.T) {
	clash := even(t, 4)
	clash.learns(1, 0)
	clash.lies(asked(0, 1, 1000))
	clash.goes(1000)
	clash.delivers(0)
	clash.edges(edge(0, 1, -902, -896), edge(1, 0, -102, -96))

	beyond := even(t, 4)
	beyond.lies(asked(0, 1, 102-top+2))
	beyond.delivers(0)
	beyond.learns(1, 2)
	beyond.edges(edge(0, 1, 98, top), edge(1, 2, 98, 104))

	for errno, h := range map[api.Errno]hand{api.ErrClash: clash, api.ErrRange: beyond} {
		h.wide(0, errno)
		for a := range 4 {
			for b := range 4 {
				h.noOffset(a, b, errno)
			}
			h.noOffset(a, 4, api.ErrRange)
			h.noOffset(a, -1, api.ErrRange)
		}
	}
	clash.shows(1000, 1100, 1200, 1300)

	// Both: that no clocks fit is told first.
	beyond.learns(2, 1)
	beyond.lies(asked(1, 2, 1000))
	beyond.goes(1000)
	beyond.does(api.Deliver, 0, 0, api.ErrClash)
	beyond.lies(asked(3, 2, 2000))
	beyond.goes(1000)
	beyond.delivers(0)
	beyond.learns(2, 3)
	beyond.wide(0, api.ErrClash)
	beyond.noOffset(0, 1, api.ErrClash)
}

// TestOwn: neither the lists that New was given nor anything that was told leads into the Net.
func TestOwn(t *testing.T) {
	starts, rates := []int{100, 200, 300, -7}[:3], []int{1000, -1000, 0, 7777}[:3]
	h := made(t, starts, rates, 1000)
	if !slices.Equal(starts[:4], []int{100, 200, 300, -7}) || !slices.Equal(rates[:4], []int{1000, -1000, 0, 7777}) {
		t.Errorf("New wrote into %v, %v", starts[:4], rates[:4])
	}
	for i := range starts {
		starts[i], rates[i] = 1, 1
	}
	h.goes(1000)
	h.shows(1101, 1199, 1300)
	h.learns(0, 1)
	h.learns(2, 1)
	want := []api.Edge{edge(0, 1, 96, 102), edge(2, 1, -103, -97)}
	got, _ := h.n.Edges()
	kept, _ := h.n.Edges()
	for i := range got {
		got[i] = api.Edge{}
	}
	_ = append(got[:0], edge(9, 9, 9, 9), edge(9, 9, 9, 9), edge(9, 9, 9, 9))
	h.edges(want...)
	h.learns(1, 2)
	h.goes(1000)
	if !slices.Equal(kept, want) {
		t.Errorf("what was told was written into: %v", kept)
	}
}

// TestApart: no two Nets have anything in common.
func TestApart(t *testing.T) {
	a, b := even(t, 3), even(t, 3)
	a.goes(10)
	a.learns(0, 1)
	a.asks(1, 2)
	b.shows(0, 100, 200)
	b.under()
	b.edges()
	b.learns(2, 1)
	a.edges(edge(0, 1, 98, 104))
	b.edges(edge(2, 1, -102, -96))
}

// belief is what one node has of another one since its clock showed that.
type belief struct {
	span  api.Span
	since int
}

// model is a Net told anew: it knows of each two by every way between them.
type model struct {
	starts, rates []int
	ppm, time     int
	under         []api.Letter
	has           map[[2]int]belief
}

func (m *model) shown(i int) int {
	share := m.time * m.rates[i]
	down := share / million
	if share%million < 0 {
		down--
	}
	return m.starts[i] + m.time + down
}

// grown is n times three times ppm, by 1000000, rounded up.
func (m *model) grown(n int) int {
	more := n * 3 * m.ppm / million
	if n*3*m.ppm%million > 0 {
		more++
	}
	return more
}

func (m *model) send(l api.Letter) api.Errno {
	if len(m.under) == api.MaxUnder {
		return api.ErrFull
	}
	m.under = append(m.under, l)
	return api.OK
}

func (m *model) isNode(i int) bool { return i >= 0 && i < len(m.starts) }

func (m *model) do(a api.Act) api.Errno {
	switch a.What {
	case api.Go:
		if a.A < 0 || a.A > million || m.time+a.A > last {
			return api.ErrRange
		}
		m.time += a.A
		return api.OK
	case api.Ask:
		if !m.isNode(a.A) || !m.isNode(a.B) {
			return api.ErrRange
		}
		if a.A == a.B {
			return api.ErrShape
		}
		return m.send(asked(a.A, a.B, m.shown(a.A)))
	case api.Deliver, api.Lose, api.Repeat:
		if a.A < 0 || a.A >= len(m.under) {
			return api.ErrNone
		}
		l := m.under[a.A]
		if a.What != api.Repeat {
			m.under = slices.Concat(m.under[:a.A], m.under[a.A+1:])
		}
		if a.What == api.Lose {
			return api.OK
		}
		return m.comes(l)
	}
	return api.ErrRange
}

func (m *model) comes(l api.Letter) api.Errno {
	here := m.shown(l.To)
	switch {
	case l.From == l.To:
		return api.ErrShape
	case !l.Answer:
		return m.answer(l)
	case l.T1 < -top || l.T1 > top:
		return api.ErrRange
	case l.T1 > here:
		return api.ErrShape
	case l.T1 < here-top:
		return api.ErrRange
	}
	s := sp(l.T-here, l.T2-l.T1+2+m.grown(here-l.T1))
	if s.Lo < -top || s.Hi > top {
		return api.ErrRange
	}
	two := [2]int{l.To, l.From}
	if b, ok := m.has[two]; ok {
		w := m.widened(b, here)
		s = sp(max(s.Lo, w.Lo), min(s.Hi, w.Hi))
	}
	if s.Lo > s.Hi {
		return api.ErrClash
	}
	m.has[two] = belief{s, here}
	return api.OK
}

func (m *model) answer(l api.Letter) api.Errno {
	return m.send(answered(l.To, l.From, l.T, m.shown(l.To)))
}

func (m *model) widened(b belief, here int) api.Span {
	more := 2 + m.grown(here-b.since)
	return sp(b.span.Lo-more, b.span.Hi+more)
}

func (m *model) edges() (all []api.Edge, errno api.Errno) {
	for a := range m.starts {
		for b := range m.starts {
			known, ok := m.has[[2]int{a, b}]
			if !ok {
				continue
			}
			s := m.widened(known, m.shown(a))
			if s.Lo < -top || s.Hi > top {
				return nil, api.ErrRange
			}
			all = append(all, api.Edge{A: a, B: b, Span: s})
		}
	}
	return all, api.OK
}

// ways tells what each way from a to b leaves that goes along edges, either way, and comes to no node that was seen.
func ways(edges []api.Edge, a, b int, seen [api.MaxNodes]bool, sum api.Span, tell func(api.Span)) {
	if a == b {
		tell(sum)
		return
	}
	seen[a] = true
	for _, e := range edges {
		if e.B == a {
			e = edge(e.B, e.A, -e.Span.Hi, -e.Span.Lo)
		}
		if e.A == a && !seen[e.B] {
			ways(edges, e.B, b, seen, sp(sum.Lo+e.Span.Lo, sum.Hi+e.Span.Hi), tell)
		}
	}
}

// offsets of each two that can be told, a below b.
func (m *model) offsets() (map[[2]int]api.Span, api.Errno) {
	edges, errno := m.edges()
	if errno != api.OK {
		return nil, errno
	}
	all := map[[2]int]api.Span{}
	for b := range m.starts {
		for a := range b {
			ways(edges, a, b, [api.MaxNodes]bool{}, api.Span{}, func(s api.Span) {
				if ahead, ok := all[[2]int{a, b}]; ok {
					s = sp(max(s.Lo, ahead.Lo), min(s.Hi, ahead.Hi))
				}
				all[[2]int{a, b}] = s
			})
		}
	}
	errno = api.OK
	for _, s := range all {
		if s.Lo > s.Hi {
			return nil, api.ErrClash
		}
		if s.Lo < -top || s.Hi > top {
			errno = api.ErrRange
		}
	}
	if errno != api.OK {
		return nil, errno
	}
	return all, api.OK
}

// anyModel has clocks that often go as fast, or as slow, as may be.
func anyModel(r *rand.Rand) *model {
	ppm := []int{0, 1, 100, 802, 1000}[r.Intn(5)]
	m := &model{ppm: ppm, has: map[[2]int]belief{}}
	near := []int{100, 10_000, million + 1}[r.Intn(3)]
	for range 1 + r.Intn(api.MaxNodes) {
		m.starts = append(m.starts, r.Intn(near))
		m.rates = append(m.rates, []int{-ppm, ppm, r.Intn(2*ppm+1) - ppm}[r.Intn(3)])
	}
	return m
}

// anyAct: mostly one that may be.
func (m *model) anyAct(r *rand.Rand) api.Act {
	n, under := len(m.starts), len(m.under)
	switch k := r.Intn(20); {
	case k < 5:
		return api.Act{What: api.Go, A: r.Intn([]int{2, 30, 3000, million + 1}[r.Intn(4)])}
	case k < 9:
		return api.Act{What: api.Ask, A: r.Intn(n), B: r.Intn(n)}
	case k < 16:
		return api.Act{What: api.Deliver, A: r.Intn(under + 1)}
	case k < 18:
		return api.Act{What: api.Repeat, A: r.Intn(under + 1)}
	case k < 19:
		return api.Act{What: api.Lose, A: r.Intn(under + 1)}
	}
	return api.Act{What: r.Intn(8) - 1, A: r.Intn(n+4) - 2, B: r.Intn(n+4) - 2}
}

// anyLie: what is answered never came, or not when it tells.
func (m *model) anyLie(r *rand.Rand) api.Letter {
	l := asked(r.Intn(len(m.starts)), r.Intn(len(m.starts)), 0)
	at, there := m.shown(l.From), m.shown(l.To)
	l.T = []int{at, at + r.Intn(50), at - r.Intn(50), at + r.Intn(3000), there - top + r.Intn(5), there - top + r.Intn(5), there - top*3/5, at - top - 1, -top - 1, top + 1, math.MinInt}[r.Intn(11)]
	return l
}

// agrees: that a Net tells just what the model does; seen counts what both told.
func (m *model) agrees(h hand, r *rand.Rand, seen map[string]int) {
	h.t.Helper()
	n := len(m.starts)
	h.under(m.under...)
	for i := range n {
		if got, err := h.n.Show(i); got != m.shown(i) || err != nil {
			h.t.Errorf("Show(%d): got %d, %v; want %d", i, got, plain.Told(err), m.shown(i))
		}
	}
	edges, errno := m.edges()
	seen["Edges "+errno.Error()]++
	if errno == api.OK {
		h.edges(edges...)
	} else {
		h.noEdges(errno)
	}
	all, errno := m.offsets()
	seen["Wide "+errno.Error()]++
	wide := 0
	for _, s := range all {
		wide += s.Hi - s.Lo
	}
	h.wide(wide, errno)
	for range 3 {
		a, b := r.Intn(n), r.Intn(n)
		s, ok := all[[2]int{min(a, b), max(a, b)}]
		switch {
		case errno != api.OK:
			h.noOffset(a, b, errno)
		case a == b:
			h.offset(a, a, 0, 0)
		case ok:
			h.offset(min(a, b), max(a, b), s.Lo, s.Hi)
		default:
			h.noOffset(a, b, api.ErrNone)
			seen["Offset ErrNone"]++
		}
		h.noOffset(a, n+r.Intn(3), api.ErrRange)
	}
}

// TestAsModel: long rows of acts, wrong ones among them; in half of the nets lies are under way too.
func TestAsModel(t *testing.T) {
	r := rand.New(rand.NewSource(162))
	seen := map[string]int{}
	for round := range 1_200 {
		m := anyModel(r)
		h := made(t, m.starts, m.rates, m.ppm)
		for range 60 {
			if round%2 == 0 && r.Intn(5) == 0 {
				l := m.anyLie(r)
				h.answers(l, m.answer(l))
			}
			a := m.anyAct(r)
			errno := m.do(a)
			h.does(a.What, a.A, a.B, errno)
			seen["Do "+errno.Error()]++
			m.agrees(h, r, seen)
			if t.Failed() {
				t.Fatalf("round %d: clocks %v, %v by %d, act %v", round, m.starts, m.rates, m.ppm, a)
			}
		}
	}
	for _, what := range []string{"Do OK", "Do ErrRange", "Do ErrShape", "Do ErrNone", "Do ErrClash", "Edges OK", "Edges ErrRange", "Wide OK", "Wide ErrRange", "Wide ErrClash", "Offset ErrNone"} {
		if seen[what] < 30 {
			t.Errorf("%s was seen %d times alone", what, seen[what])
		}
	}
}

// TestTrue: whatever acts went ahead, in what is told of each two is how their clocks truly differ; and nothing ever goes wrong but what the World refuses.
func TestTrue(t *testing.T) {
	r := rand.New(rand.NewSource(163))
	told := 0
	for round := range 300 {
		m := anyModel(r)
		h := made(t, m.starts, m.rates, m.ppm)
		n := len(m.starts)
		for range 150 {
			a := m.anyAct(r)
			h.does(a.What, a.A, a.B, m.do(a))
			x, y := r.Intn(n), r.Intn(n)
			s, err := h.n.Offset(x, y)
			if err == nil {
				told++
				one, _ := h.n.Show(x)
				other, _ := h.n.Show(y)
				if other-one < s.Lo || other-one > s.Hi {
					t.Errorf("Offset(%d, %d): got %v, but they show %d, %d", x, y, s, one, other)
				}
			} else if plain.Told(err) != api.ErrNone {
				t.Errorf("Offset(%d, %d): got %v", x, y, plain.Told(err))
			}
			if _, err := h.n.Wide(); err != nil {
				t.Errorf("Wide: got %v", plain.Told(err))
			}
			if _, err := h.n.Edges(); err != nil {
				t.Errorf("Edges: got %v", plain.Told(err))
			}
			if t.Failed() {
				t.Fatalf("round %d: clocks %v, %v by %d, act %v", round, m.starts, m.rates, m.ppm, a)
			}
		}
	}
	if told < 10_000 {
		t.Errorf("only %d times anything was told", told)
	}
}
