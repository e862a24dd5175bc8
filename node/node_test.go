package node_test

import (
	"math"
	"math/big"
	"math/rand"
	"slices"
	"testing"

	"noonmark/api"
	"noonmark/node"
	"noonmark/plain"
	"noonmark/probe"
	"noonmark/world"
)

const (
	top     = api.MaxTime
	million = 1_000_000
)

func sp(lo, hi int) api.Span { return api.Span{Lo: lo, Hi: hi} }

func asked(from, to, at int) api.Letter { return api.Letter{From: from, To: to, T: at} }

func answered(from, to, t1, t2, at int) api.Letter {
	return api.Letter{From: from, To: to, Answer: true, T1: t1, T2: t2, T: at}
}

// knows is what a Node has of others, by node; with none of them it knows of itself alone.
type knows map[int]api.Span

// hand holds a Node, and each call on it to what it must tell.
type hand struct {
	t              *testing.T
	n              *node.Node
	id, nodes, ppm int
}

func made(t *testing.T, id, nodes, ppm int) hand {
	t.Helper()
	n, err := node.New(id, nodes, ppm)
	if err != nil || n == nil {
		t.Fatalf("New(%d, %d, %d): got %v, %v", id, nodes, ppm, n, plain.Told(err))
	}
	return hand{t, n, id, nodes, ppm}
}

// telling is an Answer by which just that Span is learned, of a node of which nothing is kept yet.
func (h hand) telling(from, lo, hi, here int) api.Letter {
	way := max(0, hi-lo-2)
	t1 := here - way
	return answered(from, h.id, t1, t1+hi-2-grown(way, 3*h.ppm), here+lo)
}

// grown is n times ppm by 1000000, rounded up, by numbers that never wrap round.
func grown(n, ppm int) int {
	product := new(big.Int).Mul(big.NewInt(int64(n)), big.NewInt(int64(ppm)))
	q, r := new(big.Int).QuoRem(product, big.NewInt(million), new(big.Int))
	return int(q.Int64()) + r.Sign()
}

func (h hand) hears(l api.Letter, here int, want bool, errno api.Errno) {
	h.t.Helper()
	if got, err := h.n.Hear(l, here); got != want || plain.Told(err) != errno {
		h.t.Errorf("Hear(%v, %d): got %v, %v; want %v, %v", l, here, got, plain.Told(err), want, errno)
	}
}

func (h hand) refuses(l api.Letter, here int, errno api.Errno) {
	h.t.Helper()
	h.hears(l, here, false, errno)
}

// learns such a Span of a node, without an error.
func (h hand) learns(from, lo, hi, here int) {
	h.t.Helper()
	h.hears(h.telling(from, lo, hi, here), here, true, api.OK)
}

// has: that Spans and Edges tell just that, when its clock shows here.
func (h hand) has(here int, want knows) {
	h.t.Helper()
	spans, known, edges := make([]api.Span, h.nodes), make([]bool, h.nodes), []api.Edge{}
	known[h.id] = true
	for i := range h.nodes {
		if s, ok := want[i]; ok {
			spans[i], known[i] = s, true
			edges = append(edges, api.Edge{A: h.id, B: i, Span: s})
		}
	}
	gotSpans, gotKnown, err := h.n.Spans(here)
	if err != nil || !slices.Equal(gotSpans, spans) || !slices.Equal(gotKnown, known) {
		h.t.Errorf("Spans(%d): got %v, %v, %v; want %v, %v", here, gotSpans, gotKnown, plain.Told(err), spans, known)
	}
	gotEdges, err := h.n.Edges(here)
	if err != nil || !slices.Equal(gotEdges, edges) {
		h.t.Errorf("Edges(%d): got %v, %v; want %v", here, gotEdges, plain.Told(err), edges)
	}
}

// hasNot: that Spans and Edges tell that error, and nothing else.
func (h hand) hasNot(here int, errno api.Errno) {
	h.t.Helper()
	if spans, known, err := h.n.Spans(here); len(spans) != 0 || len(known) != 0 || plain.Told(err) != errno {
		h.t.Errorf("Spans(%d): got %v, %v, %v; want %v", here, spans, known, plain.Told(err), errno)
	}
	if edges, err := h.n.Edges(here); len(edges) != 0 || plain.Told(err) != errno {
		h.t.Errorf("Edges(%d): got %v, %v; want %v", here, edges, plain.Told(err), errno)
	}
}

// heardAt: that its clock showed just that when one was heard last: not one less, and not more.
func (h hand) heardAt(here int) {
	h.t.Helper()
	h.hasNot(here-1, api.ErrBack)
	if _, _, err := h.n.Spans(here); plain.Told(err) == api.ErrBack {
		h.t.Errorf("Spans(%d): it would go back", here)
	}
}

func wantNone(t *testing.T, id, nodes, ppm int) {
	t.Helper()
	if n, err := node.New(id, nodes, ppm); n != nil || plain.Told(err) != api.ErrRange {
		t.Errorf("New(%d, %d, %d): got %v, %v; want nil, %v", id, nodes, ppm, n, plain.Told(err), api.ErrRange)
	}
}

// TestNew: from one node to just MaxNodes, each id of them; it knows of itself alone then.
func TestNew(t *testing.T) {
	for nodes := 1; nodes <= api.MaxNodes; nodes++ {
		for id := range nodes {
			for _, ppm := range []int{0, 1, 333, 334, api.MaxPpm - 1, api.MaxPpm} {
				h := made(t, id, nodes, ppm)
				h.has(0, nil)
				h.has(1, nil)
				h.has(top, nil)
				h.heardAt(0)
			}
		}
		for _, id := range []int{-1, -2, -nodes, nodes, nodes + 1, api.MaxNodes, api.MaxNodes + 1, math.MinInt, math.MaxInt, 1 << 32} {
			wantNone(t, id, nodes, 5)
		}
		for _, ppm := range []int{-1, -2, -api.MaxPpm, api.MaxPpm + 1, 3 * api.MaxPpm, million, math.MinInt, math.MaxInt, 1 << 32} {
			wantNone(t, nodes-1, nodes, ppm)
		}
	}
	for _, nodes := range []int{0, -1, -2, api.MaxNodes + 1, 2 * api.MaxNodes, math.MinInt, math.MaxInt, 1<<32 + 1} {
		for _, id := range []int{0, nodes - 1, nodes, -1, api.MaxNodes} {
			wantNone(t, id, nodes, 5)
		}
	}
}

// TestHereAtFirst: below 0 and beyond MaxTime nothing is heard and nothing is told; at 0, and at just MaxTime, it is.
func TestHereAtFirst(t *testing.T) {
	for _, here := range []int{-1, -2, -top, -top - 1, math.MinInt, top + 1, top + 2, 2 * top, math.MaxInt} {
		h := made(t, 0, 3, 100)
		h.refuses(asked(1, 0, 5), here, api.ErrBack)
		h.refuses(answered(1, 0, 0, 50, 50), here, api.ErrBack)
		h.hasNot(here, api.ErrBack)
		h.has(0, nil)
	}
	for _, here := range []int{0, 1, 777, top - 1, top} {
		h := made(t, 0, 3, 100)
		h.hears(asked(1, 0, 5), here, false, api.OK)
		h.heardAt(here)
		h = made(t, 0, 3, 100)
		h.learns(1, -51, -50, here)
		h.has(here, knows{1: sp(-53, -48)})
		h.heardAt(here)
	}
}

// TestHereBehind: just what it showed when one was heard ahead, and one less; an Answer and what is none count alike.
func TestHereBehind(t *testing.T) {
	for _, ahead := range []int{0, 1, 500, 1_000_000, top - 1, top} {
		for _, first := range []bool{false, true} {
			h := made(t, 1, 3, 0)
			want := knows{}
			if first {
				h.learns(0, -10, -8, ahead)
				want[0] = sp(-12, -6)
			} else {
				h.hears(asked(0, 1, 5), ahead, false, api.OK)
			}
			for _, here := range []int{ahead - 1, ahead - 2, ahead / 2, 0, -1, math.MinInt, top + 1, math.MaxInt} {
				if here >= ahead && here <= top {
					continue
				}
				h.refuses(asked(2, 1, 5), here, api.ErrBack)
				h.refuses(h.telling(2, -10, -8, ahead), here, api.ErrBack)
				h.hasNot(here, api.ErrBack)
			}
			h.has(ahead, want)
			h.hears(asked(2, 1, 5), ahead, false, api.OK)
			h.learns(2, -20, -19, ahead)
			want[2] = sp(-22, -17)
			h.has(ahead, want)
			h.heardAt(ahead)
		}
	}
}

// TestAskingMovesNothing: what its clock showed when it was asked for Spans, or when it refused a Letter, holds nothing back.
func TestAskingMovesNothing(t *testing.T) {
	h := made(t, 0, 2, 1000)
	h.has(9000, nil)
	h.learns(1, 40, 42, 7)
	h.has(top, knows{1: sp(40-2-grown(top-7, 3000), 42+2+grown(top-7, 3000))})
	h.has(8, knows{1: sp(37, 45)})
	h.refuses(asked(0, 1, 0), 5000, api.ErrShape)
	h.refuses(answered(1, 0, 5001, 5, 5), 5000, api.ErrShape)
	h.refuses(h.telling(1, 90, 91, 5000), 5000, api.ErrClash)
	h.has(7, knows{1: sp(38, 44)})
	h.learns(1, 40, 41, 7)
	h.has(7, knows{1: sp(38, 43)})
	h.heardAt(7)
}

// TestNoAnswer: it is heard, whatever its times are, and nothing is kept by it; what was kept goes on as if none had come.
func TestNoAnswer(t *testing.T) {
	for _, at := range []int{0, 5, -5, top, top + 1, -top - 1, math.MinInt, math.MaxInt} {
		h := made(t, 2, 3, 1000)
		l := api.Letter{From: 0, To: 2, T1: at, T2: -at, T: at}
		h.hears(l, 10, false, api.OK)
		h.has(10, nil)
		h.heardAt(10)

		h.learns(0, 40, 41, 20)
		h.has(20, knows{0: sp(38, 43)})
		h.hears(l, 520, false, api.OK)
		h.heardAt(520)
		h.has(520, knows{0: sp(36, 45)})
		l.From = 1
		h.hears(l, 521, false, api.OK)
		h.has(521, knows{0: sp(36, 45)})
		h.has(1020, knows{0: sp(35, 46)})
		h.learns(0, 45, 46, 1020)
		h.has(1020, knows{0: sp(43, 48)})
	}
}

// TestShape: not to it, from itself, from a node that there is not; be it an Answer or none, be its Probe wrong or not.
func TestShape(t *testing.T) {
	for id := range 3 {
		h := made(t, id, 3, 100)
		other := (id + 1) % 3
		h.learns(other, 10, 12, 100)
		wrong := []api.Letter{{From: other, To: other}, {From: id, To: id}, {From: id, To: other}, {From: other, To: 3 - id - other}, {From: id, To: 9}}
		for _, none := range []int{-1, -2, 3, 4, api.MaxNodes, math.MinInt, math.MaxInt, 1 << 32} {
			wrong = append(wrong, api.Letter{From: none, To: id}, api.Letter{From: other, To: none}, api.Letter{From: none, To: none})
		}
		for _, l := range wrong {
			for _, answer := range []bool{false, true} {
				for _, times := range [][3]int{{0, 50, 50}, {90, 100, 110}, {150, 60, 60}, {0, top + 1, 0}, {0, 0, top}, {math.MinInt, math.MaxInt, 0}} {
					l.Answer, l.T1, l.T2, l.T = answer, times[0], times[1], times[2]
					h.refuses(l, 100, api.ErrShape)
					h.refuses(l, 200, api.ErrShape)
					h.refuses(l, 99, api.ErrBack)
					h.refuses(l, top+1, api.ErrBack)
				}
			}
		}
		h.has(100, knows{other: sp(8, 14)})
		h.heardAt(100)
	}
	alone := made(t, 0, 1, 5)
	for from := -1; from <= 2; from++ {
		alone.refuses(asked(from, 0, 5), 5, api.ErrShape)
		alone.refuses(answered(from, 0, 5, 5, 5), 5, api.ErrShape)
	}
	alone.has(0, nil)
}

// TestOffsetErrors: each that Offset tells, of a node of which nothing is kept, and of one of which something is; nothing comes of it.
func TestOffsetErrors(t *testing.T) {
	for _, c := range []struct {
		t1, t2, at, here int
		errno            api.Errno
	}{
		{-top - 1, 50, 50, 1000, api.ErrRange}, {top + 1, 50, 50, 1000, api.ErrRange},
		{0, -top - 1, 50, 1000, api.ErrRange}, {0, top + 1, 50, 1000, api.ErrRange},
		{0, 50, -top - 1, 1000, api.ErrRange}, {0, 50, top + 1, 1000, api.ErrRange},
		{math.MinInt, 50, 50, 1000, api.ErrRange}, {0, math.MinInt, math.MaxInt, 1000, api.ErrRange}, {math.MaxInt, math.MaxInt, math.MinInt, 1000, api.ErrRange},
		{1001, 50, 50, 1000, api.ErrShape}, {top, 50, 50, 1000, api.ErrShape}, // it came ahead of being sent
		{0, 51, 50, 1000, api.ErrShape}, {0, top, -top, 1000, api.ErrShape}, // it was answered ahead of being heard
		{top + 1, 51, 50, 1000, api.ErrRange},                                         // both: a time that is none is told first
		{1000 - top - 1, 50, 50, 1000, api.ErrRange}, {-1, 50, 50, top, api.ErrRange}, // it was under way for too long
		{1000, -top, -top + 999, 1000, api.ErrRange},                                    // Lo comes beyond
		{-1000, top - 1001, top, 1000, api.ErrRange},                                    // Hi does
		{990, 1030, 1051, 1000, api.ErrClash}, {1000, 0, 1_000_000, 1000, api.ErrClash}, // Lo comes above Hi
		{0, 50, top, 1000, api.ErrClash},
	} {
		h := made(t, 1, 3, 1000)
		h.learns(2, 40, 42, 900)
		for _, from := range []int{0, 2} {
			l := answered(from, 1, c.t1, c.t2, c.at)
			h.refuses(l, c.here, c.errno)
			h.refuses(l, 899, api.ErrBack)
			l.To = 0
			h.refuses(l, c.here, api.ErrShape)
		}
		h.has(900, knows{2: sp(38, 44)})
		h.heardAt(900)
	}
}

// TestOffsetEnds: what is just no error of Offset is kept.
func TestOffsetEnds(t *testing.T) {
	for _, c := range []struct {
		ppm, t1, t2, at, here int
		want                  api.Span
	}{
		{1000, 1000, 50, 50, 1000, sp(50-1000-2, 50-1000+2+2)},
		{1000, 990, 1030, 1043, 1000, sp(41, 45)},
		{0, 1000 - top, 50, 50, 1000, sp(-952, 50+top-1000+4)},
		{1000, 0, 50, 50, top, sp(50-top-2, 50+2+3_000_000_000+2)},
		{0, -top, -top, -top + 2, 0, sp(-top, 4)},
		{0, 4, top, top, 4, sp(top-6, top)},
	} {
		h := made(t, 1, 3, c.ppm)
		h.hears(answered(0, 1, c.t1, c.t2, c.at), c.here, true, api.OK)
		h.has(c.here, knows{0: c.want})
	}
}

// TestFirstAnswer: by hand, there and back, of a node of which nothing is kept yet: from T - here to T2 - T1 + 2 and what both may drift by, and 2 on either side.
func TestFirstAnswer(t *testing.T) {
	for _, c := range []struct {
		ppm, t1, t2, at, here int
		want                  api.Span
	}{
		{0, 0, 0, 0, 0, sp(-2, 4)},
		{0, 0, 51, 51, 0, sp(49, 55)},
		{802, 0, 51, 51, 0, sp(49, 55)},
		{0, 10, 70, 70, 20, sp(48, 64)},
		{0, 10, 70, 75, 20, sp(53, 64)},
		{1, 10, 70, 75, 20, sp(53, 65)},
		{1000, 10, 70, 75, 20, sp(53, 65)},
		{1000, 0, 70, 75, 334, sp(75-334-2, 72+2+2)},
		{1000, 0, 70, 75, 333, sp(75-333-2, 72+1+2)},
		{1000, 0, 500, 600, million, sp(600-million-2, 502+3000+2)},
		{999, -30, -500, -400, 70, sp(-472, -470+2+1+2)},
	} {
		h := made(t, 2, 4, c.ppm)
		h.hears(answered(3, 2, c.t1, c.t2, c.at), c.here, true, api.OK)
		h.has(c.here, knows{3: c.want})
		h.heardAt(c.here)
	}
}

// TestInCommon: by one number in common something is kept, by none nothing. What it has is that of Spans, so it reaches 2 further than what was kept.
func TestInCommon(t *testing.T) {
	for _, c := range []struct {
		lo, hi int
		errno  api.Errno
		want   api.Span
	}{
		{10, 20, api.OK, sp(8, 22)},  // the same again
		{12, 18, api.OK, sp(10, 20)}, // inside
		{15, 15, api.OK, sp(13, 17)}, // just one number
		{10, 15, api.OK, sp(8, 17)},  // inside, from an end on
		{-7, 15, api.OK, sp(6, 17)},  // over the lower end
		{15, 99, api.OK, sp(13, 24)}, // over the upper end
		{8, 22, api.OK, sp(6, 24)},   // just what it has
		{-50, 90, api.OK, sp(6, 24)}, // more than it has
		{22, 30, api.OK, sp(20, 24)}, // one number in common
		{22, 22, api.OK, sp(20, 24)},
		{-30, 8, api.OK, sp(6, 10)},
		{8, 8, api.OK, sp(6, 10)},
		{23, 30, api.ErrClash, sp(8, 22)}, // none
		{23, 23, api.ErrClash, sp(8, 22)},
		{-30, 7, api.ErrClash, sp(8, 22)},
		{7, 7, api.ErrClash, sp(8, 22)},
		{500_000, 500_000, api.ErrClash, sp(8, 22)},
	} {
		for _, here := range []int{0, 1, 1000, 777_777} {
			h := made(t, 1, 3, 0)
			h.learns(0, 10, 20, here)
			h.learns(2, -5, -5, here)
			h.has(here, knows{0: sp(8, 22), 2: sp(-7, -3)})
			h.hears(h.telling(0, c.lo, c.hi, here), here, c.errno == api.OK, c.errno)
			h.has(here, knows{0: c.want, 2: sp(-7, -3)})
			// What was kept ahead is forgotten but for what both have; without an error alone.
			h.has(here+5, knows{0: c.want, 2: sp(-7, -3)})
		}
	}
}

// TestInCommonLater: what it has of a node is what Spans tells when the Answer came, not when the last one did.
func TestInCommonLater(t *testing.T) {
	for _, c := range []struct {
		lo, hi int
		errno  api.Errno
		want   api.Span
	}{
		{16, 17, api.OK, sp(14, 18)}, {16, 16, api.OK, sp(14, 18)}, {15, 18, api.OK, sp(13, 18)},
		{17, 18, api.ErrClash, sp(4, 16)}, {17, 17, api.ErrClash, sp(4, 16)},
		{3, 4, api.OK, sp(2, 6)}, {4, 4, api.OK, sp(2, 6)},
		{3, 3, api.ErrClash, sp(4, 16)}, {1, 3, api.ErrClash, sp(4, 16)},
		{-500, 500, api.OK, sp(2, 18)}, {9, 11, api.OK, sp(7, 13)},
	} {
		h := made(t, 0, 2, 1000)
		h.learns(1, 9, 11, 100)
		h.has(1100, knows{1: sp(4, 16)})
		h.hears(h.telling(1, c.lo, c.hi, 1100), 1100, c.errno == api.OK, c.errno)
		h.has(1100, knows{1: c.want})
		if c.errno == api.OK {
			h.heardAt(1100)
		} else {
			h.heardAt(100)
		}
		// One further, since 1100 as since 100: by 3 thousandths of 1, or of 1001.
		h.has(1101, knows{1: sp(c.want.Lo-1, c.want.Hi+1)})
	}
}

// TestSameAnswerAgain: one that comes twice tells less the second time, and never anything else.
func TestSameAnswerAgain(t *testing.T) {
	h := made(t, 0, 2, 100)
	l := answered(1, 0, 0, 53, 53)
	h.hears(l, 0, true, api.OK)
	h.has(0, knows{1: sp(51, 57)})
	h.hears(l, 0, true, api.OK)
	h.has(0, knows{1: sp(51, 57)})
	h.hears(l, 961, true, api.OK)
	h.has(961, knows{1: sp(51-1-2, 53+2+1+2)})
	h.hears(l, 961, true, api.OK)
	h.has(961, knows{1: sp(51-1-2-2, 53+2+1+2)})
}

// TestWidened: at once, and later, by 2 and what 3 times ppm makes of the way since, where that is above MaxPpm too.
func TestWidened(t *testing.T) {
	for _, c := range []struct{ ppm, since, more int }{
		{0, 0, 2}, {0, 1, 2}, {0, 999_999_999, 2},
		{1, 0, 2}, {1, 1, 3}, {1, 333_333, 3}, {1, 333_334, 4}, {1, 666_666, 4}, {1, 666_667, 5}, {1, 1_000_000, 5}, {1, 1_000_001, 6},
		{333, 0, 2}, {333, 1, 3}, {333, 1001, 3}, {333, 1002, 4}, {333, 1_000_000, 1001},
		{334, 0, 2}, {334, 1, 3}, {334, 998, 3}, {334, 999, 4}, {334, 1_000_000, 1004}, {334, 1_000_001, 1005},
		{500, 666, 3}, {500, 667, 4}, {500, 1_000_000, 1502},
		{1000, 0, 2}, {1000, 1, 3}, {1000, 333, 3}, {1000, 334, 4}, {1000, 666, 4}, {1000, 667, 5}, {1000, 1000, 5}, {1000, 1001, 6},
		{1000, 1_000_000, 3002}, {1000, 900_000_000_000, 2_700_000_002},
	} {
		for _, here := range []int{0, 1, 3, 1_000_003} {
			h := made(t, 1, 2, c.ppm)
			h.learns(0, -5, 8, here)
			h.has(here, knows{0: sp(-7, 10)})
			want := knows{0: sp(-5-c.more, 8+c.more)}
			h.has(here+c.since, want)
			// Asking changes nothing, and one asked for later is not told of what was asked for ahead.
			h.has(here+c.since, want)
			h.has(here, knows{0: sp(-7, 10)})
		}
	}
}

// TestWidenedEach: of each node since that one was learned.
func TestWidenedEach(t *testing.T) {
	h := made(t, 0, 4, 1000)
	h.learns(1, 10, 12, 0)
	h.learns(3, 30, 32, 1000)
	h.learns(2, 20, 22, 2000)
	h.has(2000, knows{1: sp(2, 20), 2: sp(18, 24), 3: sp(25, 37)})
	h.learns(1, 9, 11, 3000)
	h.has(3000, knows{1: sp(7, 13), 2: sp(15, 27), 3: sp(22, 40)})
	h.has(4000, knows{1: sp(4, 16), 2: sp(12, 30), 3: sp(19, 43)})
}

// TestEnds: what it has of a node ends just at MaxTime, or at -MaxTime, and one beyond: then nothing is told, of no node.
func TestEnds(t *testing.T) {
	for _, c := range []struct{ ppm, since, more int }{
		{0, 0, 2}, {1000, 0, 2}, {0, 1000, 2}, {1000, 1000, 5}, {1, 1_000_000, 5}, {1000, 1_000_000, 3002},
	} {
		at := made(t, 0, 3, c.ppm)
		at.learns(1, top-c.more-1, top-c.more, 0)
		at.learns(2, -top+c.more, -top+c.more+1, 0)
		at.has(c.since, knows{1: sp(top-2*c.more-1, top), 2: sp(-top, -top+2*c.more+1)})

		above := made(t, 0, 3, c.ppm)
		above.learns(1, top-c.more, top-c.more+1, 0)
		above.learns(2, 0, 1, 0)
		above.hasNot(c.since, api.ErrRange)

		below := made(t, 0, 3, c.ppm)
		below.learns(1, 0, 1, 0)
		below.learns(2, -top+c.more-1, -top+c.more, 0)
		below.hasNot(c.since, api.ErrRange)
		below.hasNot(-1, api.ErrBack)
		below.hasNot(top+1, api.ErrBack)
	}
	// Just there at once, and beyond as soon as it went on.
	h := made(t, 1, 2, 1)
	h.learns(0, top-3, top-2, 0)
	h.has(0, knows{0: sp(top-5, top)})
	h.hasNot(1, api.ErrRange)
	h.has(0, knows{0: sp(top-5, top)})
	h.hears(asked(0, 1, 0), 1, false, api.OK)
	h.hasNot(0, api.ErrBack)
	h.hasNot(1, api.ErrRange)
}

// TestHeardBeyond: what it has of a node may end beyond MaxTime; Hear names no error for that, so it keeps what both have in common, or says that there is nothing.
func TestHeardBeyond(t *testing.T) {
	for _, c := range []struct {
		here         int
		first, again api.Span
		errno        api.Errno
		want         api.Span
	}{
		{0, sp(top, top), sp(top-2, top-2), api.OK, sp(top-4, top)},
		{0, sp(top-1, top), sp(top-3, top-2), api.OK, sp(top-5, top)},
		{0, sp(top, top), sp(top-3, top-3), api.ErrClash, api.Span{}},
		{2, sp(-top, -top), sp(-top+2, -top+2), api.OK, sp(-top, -top+4)},
		{2, sp(-top, -top+2), sp(-top+2, -top+9), api.OK, sp(-top, -top+6)},
		{2, sp(-top, -top), sp(-top+3, -top+3), api.ErrClash, api.Span{}},
	} {
		h := made(t, 0, 3, 0)
		h.learns(1, c.first.Lo, c.first.Hi, c.here)
		h.hasNot(c.here, api.ErrRange)
		// Of another node all goes on.
		h.learns(2, 7, 8, c.here)
		h.hasNot(c.here, api.ErrRange)
		h.hears(h.telling(1, c.again.Lo, c.again.Hi, c.here), c.here, c.errno == api.OK, c.errno)
		if c.errno != api.OK {
			h.hasNot(c.here, api.ErrRange)
			continue
		}
		h.has(c.here, knows{1: c.want, 2: sp(5, 10)})
	}
	// What both have may be beyond still.
	h := made(t, 0, 2, 0)
	h.learns(1, top, top, 0)
	h.learns(1, top-1, top-1, 0)
	h.hasNot(0, api.ErrRange)
	h.learns(1, top-3, top-3, 0)
	h.has(0, knows{1: sp(top-5, top-1)})
}

// TestAllKnown: in whatever order they were heard, nodes are told rising, and itself is no Edge.
func TestAllKnown(t *testing.T) {
	r := rand.New(rand.NewSource(151))
	for nodes := 1; nodes <= api.MaxNodes; nodes++ {
		for id := range nodes {
			for range 5 {
				h := made(t, id, nodes, 300)
				want := knows{}
				for step, from := range r.Perm(nodes) {
					if from != id {
						h.learns(from, 100*from, 100*from+1, 7)
						want[from] = sp(100*from-2, 100*from+3)
					}
					if step%2 == 0 {
						h.has(7, want)
					}
				}
				h.has(7, want)
				if len(want) != nodes-1 {
					t.Fatalf("%d of %d are known", len(want), nodes)
				}
			}
		}
	}
}

// TestOwn: what was told is the caller's: it is written into, and nothing that is told then shows it.
func TestOwn(t *testing.T) {
	h := made(t, 1, 3, 100)
	h.learns(0, 10, 11, 5)
	h.learns(2, 20, 21, 5)
	want := knows{0: sp(8, 13), 2: sp(18, 23)}
	spans, known, _ := h.n.Spans(5)
	edges, _ := h.n.Edges(5)
	keptSpans, keptKnown, _ := h.n.Spans(5)
	keptEdges, _ := h.n.Edges(5)
	for i := range spans {
		spans[i], known[i] = sp(7, 7), i == 2
	}
	for i := range edges {
		edges[i] = api.Edge{}
	}
	_ = append(spans[:0], sp(1, 1))
	_ = append(edges[:0], api.Edge{A: 9})
	h.has(5, want)
	if !slices.Equal(keptSpans, []api.Span{sp(8, 13), {}, sp(18, 23)}) || !slices.Equal(keptKnown, []bool{true, true, true}) {
		t.Errorf("other lists were written into: %v, %v", keptSpans, keptKnown)
	}
	h.learns(0, 11, 11, 6)
	if !slices.Equal(keptEdges, []api.Edge{{A: 1, B: 0, Span: sp(8, 13)}, {A: 1, B: 2, Span: sp(18, 23)}}) {
		t.Errorf("what was told was written into: %v", keptEdges)
	}
}

// TestApart: no two Nodes have anything in common.
func TestApart(t *testing.T) {
	a, b := made(t, 0, 3, 1000), made(t, 0, 3, 0)
	a.learns(1, 10, 12, 500)
	b.has(0, nil)
	b.learns(2, -9, -4, 3)
	a.has(500, knows{1: sp(8, 14)})
	b.has(600, knows{2: sp(-11, -2)})
	a.heardAt(500)
	b.heardAt(3)
}

// room is how far from the model's base an offset may be.
const room = 400

// part knows each offset of a node near the base by itself: whether that can be.
type part struct {
	can   [2*room + 1]bool
	since int
}

// model is a Node told anew.
type model struct {
	id, nodes, ppm, base, here int
	parts                      map[int]part
}

// can is each offset that is no further from one that could be when it was kept.
func (m *model) can(p part, here int) (can [2*room + 1]bool) {
	further := 2 + grown(here-p.since, 3*m.ppm)
	for i, was := range p.can {
		for k := max(0, i-further); was && k <= min(2*room, i+further); k++ {
			can[k] = true
		}
	}
	return can
}

func (m *model) hear(l api.Letter, here int) (bool, api.Errno) {
	switch {
	case here < m.here || here > top:
		return false, api.ErrBack
	case l.To != m.id || l.From == m.id || l.From < 0 || l.From >= m.nodes:
		return false, api.ErrShape
	case !l.Answer:
		m.here = here
		return false, api.OK
	}
	s, err := probe.Offset(api.Probe{T1: l.T1, T2: l.T2, T3: l.T, T4: here}, m.ppm)
	if err != nil {
		return false, plain.Told(err)
	}
	now, any := part{since: here}, false
	old, has := m.parts[l.From]
	could := m.can(old, here)
	for i := range now.can {
		at := m.base + i - room
		now.can[i] = (could[i] || !has) && s.Lo <= at && at <= s.Hi
		any = any || now.can[i]
	}
	if !any {
		return false, api.ErrClash
	}
	m.parts[l.From], m.here = now, here
	return true, api.OK
}

func (m *model) knows(here int) (knows, api.Errno) {
	if here < m.here || here > top {
		return nil, api.ErrBack
	}
	all := knows{}
	for from, p := range m.parts {
		can := m.can(p, here)
		first := slices.Index(can[:], true)
		last := first
		for i := first; i < len(can); i++ {
			if can[i] {
				last = i
			}
		}
		s := sp(m.base+first-room, m.base+last-room)
		if s.Lo < -top || s.Hi > top {
			return nil, api.ErrRange
		}
		all[from] = s
	}
	return all, api.OK
}

// anyHere is mostly a little on, or up to a long way; and sometimes one that may not be.
func anyHere(r *rand.Rand, here int) int {
	switch r.Intn(12) {
	case 0:
		return []int{-1, top + 1, math.MinInt, math.MaxInt, 0, here - 1, here / 2}[r.Intn(7)]
	case 1:
		return here + r.Intn(3_000)
	case 2:
		return here
	}
	return here + r.Intn(60)
}

// anyLetter tells mostly of an offset near the base, often by an end of what is known; sometimes it is wrong.
func anyLetter(r *rand.Rand, h hand, m *model, here int) api.Letter {
	from := r.Intn(h.nodes)
	lo := m.base + r.Intn(121) - 60
	hi := lo + r.Intn(40)
	if all, errno := m.knows(here); errno == api.OK && r.Intn(2) == 0 {
		if s, ok := all[from]; ok {
			lo = []int{s.Lo, s.Hi}[r.Intn(2)] + r.Intn(5) - 2
			hi = lo + r.Intn(6)
		}
	}
	// So near to a greatest number a sum would wrap round; such a here is refused whatever comes.
	l := h.telling(from, lo, hi, min(max(here, -1), top+1))
	switch r.Intn(25) {
	case 0:
		l.From = []int{h.id, -1, h.nodes, math.MaxInt}[r.Intn(4)]
	case 1:
		l.To = []int{l.From, -1, h.nodes}[r.Intn(3)]
	case 2:
		l.T1 = []int{here + 1, -top - 1, math.MaxInt}[r.Intn(3)]
	case 3:
		l.T2 = []int{l.T + 1, -top - 1, math.MinInt}[r.Intn(3)]
	case 4:
		l.T = []int{l.T2 - 1, l.T + 70, top + 1}[r.Intn(3)]
	case 5, 6, 7:
		l.Answer = false
	}
	return l
}

// TestAsModel: long rows of Letters, wrong ones among them; behind each, heard or refused, Spans and Edges are the model's, then and later.
func TestAsModel(t *testing.T) {
	r := rand.New(rand.NewSource(152))
	seen := map[string]int{}
	for round := range 1_500 {
		bases := []int{0, 0, 1000, -30, -10_000, top - 70, -top + 70}
		m := &model{nodes: 1 + r.Intn(api.MaxNodes), ppm: []int{0, 1, 48, 333, 334, 1000}[r.Intn(6)], base: bases[r.Intn(len(bases))], parts: map[int]part{}}
		m.id = r.Intn(m.nodes)
		h := made(t, m.id, m.nodes, m.ppm)
		for range 30 {
			here := anyHere(r, m.here)
			l := anyLetter(r, h, m, here)
			is, errno := m.hear(l, here)
			h.hears(l, here, is, errno)
			seen["Hear "+errno.Error()]++
			for _, at := range []int{m.here, here, m.here + r.Intn(500)} {
				all, errno := m.knows(at)
				if errno == api.OK {
					h.has(at, all)
				} else {
					h.hasNot(at, errno)
				}
				seen["Spans "+errno.Error()]++
			}
			h.heardAt(m.here)
			if t.Failed() {
				t.Fatalf("round %d: node %d of %d, by %d at %d", round, m.id, m.nodes, m.ppm, m.base)
			}
		}
	}
	for _, what := range []string{"Hear OK", "Hear ErrBack", "Hear ErrShape", "Hear ErrRange", "Hear ErrClash", "Spans OK", "Spans ErrBack", "Spans ErrRange"} {
		if seen[what] < 100 {
			t.Errorf("%s was seen %d times alone", what, seen[what])
		}
	}
}

// TestWhatItTrulyIs: whatever rates clocks go by, within their bound, and however late Letters are, lost, or come twice, each Span has what the clocks truly differ by, and no Letter is refused.
func TestWhatItTrulyIs(t *testing.T) {
	r := rand.New(rand.NewSource(153))
	learned := 0
	for round := range 200 {
		ppm := []int{0, 1, 100, 333, 999, 1000}[r.Intn(6)]
		starts, rates, nodes := []int{}, []int{}, []hand{}
		for i := range 3 {
			starts = append(starts, r.Intn(million+1))
			rates = append(rates, []int{-ppm, ppm, r.Intn(2*ppm+1) - ppm}[r.Intn(3)])
			nodes = append(nodes, made(t, i, 3, ppm))
		}
		w, err := world.New(starts, rates, ppm)
		if err != nil {
			t.Fatal(err)
		}
		reach := []int{4, 300, 5_000, million}[r.Intn(4)]
		for range 150 {
			if came := anyAct(r, w, reach); came != nil {
				here, _ := w.Read(came.To)
				nodes[came.To].hears(*came, here, came.Answer, api.OK)
				if !came.Answer {
					w.Answer(*came)
				}
			}
			learned += wantTrue(t, w, nodes)
			if t.Failed() {
				t.Fatalf("round %d: starts %v, rates %v, by %d", round, starts, rates, ppm)
			}
		}
	}
	if learned < 10_000 {
		t.Errorf("only %d times anything was known", learned)
	}
}

func anyAct(r *rand.Rand, w *world.World, reach int) *api.Letter {
	under := len(w.Under())
	a := api.Act{What: api.Go, A: r.Intn(reach)}
	switch k := r.Intn(10); {
	case under == 0 && k < 5 || k < 2:
		a = api.Act{What: api.Ask, A: r.Intn(3), B: r.Intn(3)}
	case under > 0 && k < 7:
		a = api.Act{What: []int{api.Deliver, api.Deliver, api.Deliver, api.Repeat, api.Lose}[r.Intn(5)], A: r.Intn(under)}
	}
	came, _ := w.Do(a)
	return came
}

// wantTrue holds what all nodes know to what clocks show, and tells how much they know.
func wantTrue(t *testing.T, w *world.World, nodes []hand) (learned int) {
	t.Helper()
	for _, h := range nodes {
		here, _ := w.Read(h.id)
		edges, err := h.n.Edges(here)
		if err != nil {
			t.Errorf("Edges(%d): got %v", here, plain.Told(err))
		}
		for _, e := range edges {
			there, _ := w.Read(e.B)
			if less := there - here; less < e.Span.Lo || less > e.Span.Hi {
				t.Errorf("%d shows %d, %d shows %d: got %v", e.A, here, e.B, there, e.Span)
			}
			learned++
		}
	}
	return learned
}
