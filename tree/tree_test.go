package tree_test

import (
	"math"
	"math/rand"
	"slices"
	"testing"

	"noonmark/api"
	"noonmark/bounds"
	"noonmark/loops"
	"noonmark/plain"
	"noonmark/tree"
)

const top = api.MaxTime

func sp(lo, hi int) api.Span { return api.Span{Lo: lo, Hi: hi} }

// edges makes them of numbers, four by four: A, B, Lo, Hi.
func edges(of ...int) (l []api.Edge) {
	for i := 0; i+3 < len(of); i += 4 {
		l = append(l, api.Edge{A: of[i], B: of[i+1], Span: sp(of[i+2], of[i+3])})
	}
	return l
}

// many edges that are all the same.
func many(n int, e api.Edge) []api.Edge {
	return slices.Repeat([]api.Edge{e}, n)
}

func by(numbers ...int) []int { return numbers }

// spans makes them of numbers, two by two: Lo, Hi.
func spans(of ...int) (l []api.Span) {
	for i := 0; i+1 < len(of); i += 2 {
		l = append(l, sp(of[i], of[i+1]))
	}
	return l
}

func wantParents(t *testing.T, n int, l []api.Edge, root int, want []int, errno api.Errno) {
	t.Helper()
	got, err := tree.Parents(n, l, root)
	if !slices.Equal(got, want) || plain.Told(err) != errno || (err != nil && got != nil) {
		t.Errorf("Parents(%d, %v, %d): got %v, %v; want %v, %v", n, l, root, got, plain.Told(err), want, errno)
	}
}

func wantSpans(t *testing.T, n int, l []api.Edge, root int, want []api.Span, in []bool) {
	t.Helper()
	got, has, err := tree.Spans(n, l, root)
	if err != nil || !slices.Equal(got, want) || !slices.Equal(has, in) {
		t.Errorf("Spans(%d, %v, %d): got %v, %v, %v; want %v, %v", n, l, root, got, has, plain.Told(err), want, in)
	}
}

func wantNoSpans(t *testing.T, n int, l []api.Edge, root int, errno api.Errno) {
	t.Helper()
	got, has, err := tree.Spans(n, l, root)
	if got != nil || has != nil || plain.Told(err) != errno {
		t.Errorf("Spans(%d, %v, %d): got %v, %v, %v; want none, %v", n, l, root, got, has, plain.Told(err), errno)
	}
}

// wantTree: of what is in the tree as Parents tells it: the root, and those that came by an edge.
func wantTree(t *testing.T, n int, l []api.Edge, root int, parents []int, want []api.Span) {
	t.Helper()
	wantParents(t, n, l, root, parents, api.OK)
	in := make([]bool, n)
	for i, number := range parents {
		in[i] = number >= 0 || i == root
	}
	wantSpans(t, n, l, root, want, in)
}

// wantBeyond: that the tree is there, but an end is beyond MaxTime.
func wantBeyond(t *testing.T, n int, l []api.Edge, root int, parents []int) {
	t.Helper()
	wantParents(t, n, l, root, parents, api.OK)
	wantNoSpans(t, n, l, root, api.ErrRange)
}

// wantRefused: of roots of all kinds that both tell this error, and no more.
func wantRefused(t *testing.T, n int, l []api.Edge, errno api.Errno) {
	t.Helper()
	for _, root := range []int{0, 1, 5, -1, n, n - 1, 6, 7, 1000, math.MaxInt, math.MinInt} {
		wantParents(t, n, l, root, nil, errno)
		wantNoSpans(t, n, l, root, errno)
	}
}

func TestAlong(t *testing.T) {
	l := edges(0, 1, 1, 2, 1, 2, 10, 20, 0, 2, 15, 16)
	wantTree(t, 4, l, 0, by(-1, 0, 2, -1), spans(0, 0, 1, 2, 15, 16, 0, 0))
	wantTree(t, 4, l, 1, by(0, -1, 1, -1), spans(-2, -1, 0, 0, 10, 20, 0, 0))
	wantTree(t, 4, l, 2, by(2, 1, -1, -1), spans(-16, -15, -20, -10, 0, 0, 0, 0))
	wantTree(t, 4, l, 3, by(-1, -1, -1, -1), spans(0, 0, 0, 0, 0, 0, 0, 0))
}

// TestRootAlone: one node, none but the root, and edges that all are elsewhere.
func TestRootAlone(t *testing.T) {
	for n := 1; n <= api.MaxNodes; n++ {
		for root := range n {
			none := slices.Repeat(by(-1), n)
			wantTree(t, n, nil, root, none, make([]api.Span, n))
			wantTree(t, n, []api.Edge{}, root, none, make([]api.Span, n))
		}
	}
	elsewhere := edges(0, 2, 3, 4, 2, 3, -top, -top, 3, 0, 5, 6, 0, 4, 1, 1, 5, 4, 1, 1)
	wantTree(t, 6, elsewhere, 1, slices.Repeat(by(-1), 6), make([]api.Span, 6))
}

// TestNotInTree: nodes that edges do not lead to, edges between two of those, and that no end there is asked.
func TestNotInTree(t *testing.T) {
	l := edges(4, 5, top, top, 1, 0, 3, 5, 3, 4, top, top, 3, 5, -7, -7)
	wantTree(t, 6, l, 0, by(-1, 1, -1, -1, -1, -1), spans(0, 0, -5, -3, 0, 0, 0, 0, 0, 0, 0, 0))
	wantTree(t, 6, l, 1, by(1, -1, -1, -1, -1, -1), spans(3, 5, 0, 0, 0, 0, 0, 0, 0, 0, 0, 0))
	wantTree(t, 6, l, 2, by(-1, -1, -1, -1, -1, -1), make([]api.Span, 6))
	wantTree(t, 6, l, 3, by(-1, -1, -1, -1, 2, 3), spans(0, 0, 0, 0, 0, 0, 0, 0, top, top, -7, -7))
	wantTree(t, 6, l, 4, by(-1, -1, -1, 2, -1, 0), spans(0, 0, 0, 0, 0, 0, -top, -top, 0, 0, top, top))
	// A node that is in the tree by 0..0 alone is told from one that is not.
	wantTree(t, 3, edges(0, 1, 0, 0), 0, by(-1, 0, -1), spans(0, 0, 0, 0, 0, 0))
}

// TestGoneBack: the same edges the other way round, their spans turned, are the same tree.
func TestGoneBack(t *testing.T) {
	wantTree(t, 2, edges(0, 1, 3, 8), 0, by(-1, 0), spans(0, 0, 3, 8))
	wantTree(t, 2, edges(1, 0, 3, 8), 0, by(-1, 0), spans(0, 0, -8, -3))
	wantTree(t, 2, edges(1, 0, 3, 8), 1, by(0, -1), spans(3, 8, 0, 0))
	wantTree(t, 2, edges(0, 1, 3, 8), 1, by(0, -1), spans(-8, -3, 0, 0))
	wantTree(t, 2, edges(1, 0, -2, top), 0, by(-1, 0), spans(0, 0, -top, 2))
	want := spans(0, 0, 1, 2, 11, 22, 111, 222)
	there, back := edges(0, 1, 1, 2, 1, 2, 10, 20, 2, 3, 100, 200), edges(1, 0, -2, -1, 2, 1, -20, -10, 3, 2, -200, -100)
	for which := range 8 {
		l := slices.Clone(there)
		for i := range l {
			if which>>i&1 == 1 {
				l[i] = back[i]
			}
		}
		wantTree(t, 4, l, 0, by(-1, 0, 1, 2), want)
	}
	// Along and back on one way.
	wantTree(t, 4, edges(0, 1, 1, 2, 2, 1, 10, 20, 2, 3, 100, 200), 0, by(-1, 0, 1, 2), spans(0, 0, 1, 2, -19, -8, 81, 192))
	wantTree(t, 4, edges(0, 1, 1, 2, 2, 1, 10, 20, 2, 3, 100, 200), 3, by(0, 1, 2, -1), spans(-192, -81, -190, -80, -200, -100, 0, 0))
}

// TestTwice: of edges between the same two nodes, either way round, the first one counts, whatever the others have.
func TestTwice(t *testing.T) {
	for _, c := range []struct {
		l    []api.Edge
		span api.Span
	}{
		{edges(0, 1, 3, 8, 0, 1, 4, 5), sp(3, 8)},
		{edges(0, 1, 4, 5, 0, 1, 3, 8), sp(4, 5)},
		{edges(0, 1, 3, 8, 1, 0, -5, -4), sp(3, 8)},
		{edges(1, 0, -5, -4, 0, 1, 3, 8), sp(4, 5)},
		{edges(1, 0, -8, -3, 1, 0, -5, -4), sp(3, 8)},
		{many(api.MaxEdges, edges(0, 1, 3, 8)[0]), sp(3, 8)},
		// No clocks fit both.
		{edges(0, 1, 3, 8, 0, 1, 9, 9), sp(3, 8)},
		{edges(1, 0, 3, 8, 0, 1, 3, 8), sp(-8, -3)},
	} {
		wantTree(t, 2, c.l, 0, by(-1, 0), []api.Span{{}, c.span})
		wantTree(t, 2, c.l, 1, by(0, -1), []api.Span{sp(-c.span.Hi, -c.span.Lo), {}})
	}
	// Behind the root, too, and from an edge of another number on.
	l := edges(3, 4, 7, 7, 2, 1, 5, 6, 1, 2, 8, 9, 1, 0, 1, 1, 0, 1, 2, 2)
	wantTree(t, 5, l, 0, by(-1, 3, 1, -1, -1), spans(0, 0, -1, -1, -7, -6, 0, 0, 0, 0))
	wantTree(t, 5, l, 2, by(3, 1, -1, -1, -1), spans(6, 7, 5, 6, 0, 0, 0, 0, 0, 0))
	wantTree(t, 5, l, 4, by(-1, -1, -1, 0, -1), spans(0, 0, 0, 0, 0, 0, -7, -7, 0, 0))
}

// TestOrder: to one node edges of two nodes of the tree lead: it comes by that which came first, not by the first edge, nor by the lesser number.
func TestOrder(t *testing.T) {
	// Node 2 is ahead of node 1 by its edge.
	l := edges(1, 3, 1, 1, 2, 3, 10, 10, 0, 2, 100, 100, 0, 1, 1000, 1000)
	wantTree(t, 4, l, 0, by(-1, 3, 2, 1), spans(0, 0, 1000, 1000, 100, 100, 110, 110))
	// The same, but that node 1 is ahead.
	l = edges(2, 3, 10, 10, 1, 3, 1, 1, 1, 0, -1000, -1000, 2, 0, -100, -100)
	wantTree(t, 4, l, 0, by(-1, 2, 3, 1), spans(0, 0, 1000, 1000, 100, 100, 1001, 1001))
	// Fewer edges, not the first ones: node 3 comes from the root, though edges ahead lead there over others.
	l = edges(0, 1, 1, 1, 1, 2, 1, 1, 2, 3, 1, 1, 3, 0, 50, 50)
	wantTree(t, 4, l, 0, by(-1, 0, 1, 3), spans(0, 0, 1, 1, 2, 2, -50, -50))
	// And not those of a node as soon as it comes: the root's own are all ahead of node 1's.
	l = edges(0, 1, 1, 1, 1, 2, 10, 10, 0, 2, 100, 100)
	wantTree(t, 3, l, 0, by(-1, 0, 2), spans(0, 0, 1, 1, 100, 100))
	// Node 5 comes by 3 or by 4: who of those is first hangs on who is first of 1 and 2.
	l = edges(4, 5, 7, 7, 3, 5, 8, 8, 2, 4, 20, 20, 1, 3, 10, 10, 0, 1, 100, 100, 0, 2, 200, 200)
	wantTree(t, 6, l, 0, by(-1, 4, 5, 3, 2, 1), spans(0, 0, 100, 100, 200, 200, 110, 110, 220, 220, 118, 118))
	l[4], l[5] = l[5], l[4]
	wantTree(t, 6, l, 0, by(-1, 5, 4, 3, 2, 0), spans(0, 0, 100, 100, 200, 200, 110, 110, 220, 220, 227, 227))
}

// TestChain: MaxNodes nodes one behind the other, each of them as the root.
func TestChain(t *testing.T) {
	l := edges(0, 1, 1, 2, 2, 1, 10, 20, 2, 3, 100, 200, 4, 3, 1000, 2000, 4, 5, 10000, 20000)
	wantTree(t, 6, l, 0, by(-1, 0, 1, 2, 3, 4), spans(0, 0, 1, 2, -19, -8, 81, 192, -1919, -808, 8081, 19192))
	wantTree(t, 6, l, 1, by(0, -1, 1, 2, 3, 4), spans(-2, -1, 0, 0, -20, -10, 80, 190, -1920, -810, 8080, 19190))
	wantTree(t, 6, l, 2, by(0, 1, -1, 2, 3, 4), spans(8, 19, 10, 20, 0, 0, 100, 200, -1900, -800, 8100, 19200))
	wantTree(t, 6, l, 3, by(0, 1, 2, -1, 3, 4), spans(-192, -81, -190, -80, -200, -100, 0, 0, -2000, -1000, 8000, 19000))
	wantTree(t, 6, l, 4, by(0, 1, 2, 3, -1, 4), spans(808, 1919, 810, 1920, 800, 1900, 1000, 2000, 0, 0, 10000, 20000))
	wantTree(t, 6, l, 5, by(0, 1, 2, 3, 4, -1), spans(-19192, -8081, -19190, -8080, -19200, -8100, -19000, -8000, -20000, -10000, 0, 0))
	// The edges' order is of no weight where there is one way alone.
	slices.Reverse(l)
	wantTree(t, 6, l, 0, by(-1, 4, 3, 2, 1, 0), spans(0, 0, 1, 2, -19, -8, 81, 192, -1919, -808, 8081, 19192))
}

// TestStar: MaxNodes nodes around each of them, and each of those as the root.
func TestStar(t *testing.T) {
	for middle := range api.MaxNodes {
		l, shows := []api.Edge{}, [api.MaxNodes]int{}
		for i := range api.MaxNodes {
			if i == middle {
				continue
			}
			shows[i] = 10 * (i + 1)
			if i%2 == 0 {
				l = append(l, edges(middle, i, shows[i], shows[i]+1)...)
			} else {
				l = append(l, edges(i, middle, -shows[i]-1, -shows[i])...)
			}
		}
		for root := range api.MaxNodes {
			parents, want := []int{}, []api.Span{}
			for i := range api.MaxNodes {
				number, slack := i, 2
				if i > middle {
					number--
				}
				switch {
				case i == root:
					number, slack = -1, 0
				case i == middle:
					number, slack = root, 1
					if root > middle {
						number--
					}
				case root == middle:
					slack = 1
				}
				lo := shows[i] - shows[root]
				if i != root && root != middle {
					lo--
				}
				parents, want = append(parents, number), append(want, sp(lo, lo+slack))
			}
			wantTree(t, api.MaxNodes, l, root, parents, want)
		}
	}
}

// TestAtMaxTime: ends just there, and just beyond, either way, at the last node and ahead of it.
func TestAtMaxTime(t *testing.T) {
	wantTree(t, 2, edges(0, 1, -top, top), 0, by(-1, 0), spans(0, 0, -top, top))
	wantTree(t, 2, edges(0, 1, -top, top), 1, by(0, -1), spans(-top, top, 0, 0))
	for _, c := range []struct {
		first, second, sum api.Span
	}{
		{sp(0, top), sp(-5, 0), sp(-5, top)},
		{sp(0, top-3), sp(0, 3), sp(0, top)},
		{sp(4-top, 0), sp(-4, 0), sp(-top, 0)},
		{sp(top, top), sp(0, 0), sp(top, top)},
		{sp(top, top), sp(-top, -top), sp(0, 0)},
		{sp(-top, top), sp(0, 0), sp(-top, top)},
		{sp(-top/2, top/2), sp(-top/2, top/2), sp(-top, top)},
	} {
		parents, want := by(-1, 0, 1), []api.Span{{}, c.first, c.sum}
		turned := sp(-c.second.Hi, -c.second.Lo)
		along := []api.Edge{{A: 0, B: 1, Span: c.first}, {A: 1, B: 2, Span: c.second}}
		back := []api.Edge{{A: 0, B: 1, Span: c.first}, {A: 2, B: 1, Span: turned}}
		wantTree(t, 3, along, 0, parents, want)
		wantTree(t, 3, back, 0, parents, want)
		if c.sum.Hi == top {
			along[1].Span.Hi, back[1].Span.Lo = c.second.Hi+1, turned.Lo-1
			wantOneBeyond(t, along, back)
			along[1].Span, back[1].Span = c.second, turned
		}
		if c.sum.Lo == -top {
			along[1].Span.Lo, back[1].Span.Hi = c.second.Lo-1, turned.Hi+1
			wantOneBeyond(t, along, back)
		}
	}
}

// wantOneBeyond asks it at the last node of a way, and of ways that go on, to where the sum is within again, along and back.
func wantOneBeyond(t *testing.T, along, back []api.Edge) {
	t.Helper()
	for _, l := range [][]api.Edge{along, back} {
		wantBeyond(t, 3, l, 0, by(-1, 0, 1))
		for _, home := range []int{-top, -9, 0, 9, top} {
			on := slices.Concat(l, edges(2, 3, home, home))
			wantBeyond(t, 4, on, 0, by(-1, 0, 1, 2))
			on = slices.Concat(edges(0, 4, 1, 1, 5, 0, 2, 2), l, edges(3, 2, home, home))
			wantBeyond(t, 6, on, 0, by(-1, 2, 3, 4, 0, 1))
		}
	}
}

// TestBeyondFromOneRoot: the same edges are within from one root and beyond from another one.
func TestBeyondFromOneRoot(t *testing.T) {
	l := edges(0, 1, top, top, 1, 2, 1, 1)
	wantBeyond(t, 3, l, 0, by(-1, 0, 1))
	wantTree(t, 3, l, 1, by(0, -1, 1), spans(-top, -top, 0, 0, 1, 1))
	wantBeyond(t, 3, l, 2, by(0, 1, -1))
	// Five times the greatest: nothing wraps round.
	l = edges(0, 1, top, top, 1, 2, top, top, 2, 3, top, top, 3, 4, top, top, 4, 5, top, top)
	for root := range 6 {
		parents := by(0, 1, 2, 3, 4)
		wantBeyond(t, 6, l, root, slices.Insert(parents, root, -1))
	}
	// An edge that is not of the tree would lead beyond, or hold it within: it is not asked.
	wantTree(t, 3, edges(0, 1, top, top, 0, 2, -top, -top, 1, 2, top, top), 0, by(-1, 0, 1), spans(0, 0, top, top, -top, -top))
	wantBeyond(t, 3, edges(0, 1, 1, top, 1, 2, 1, top, 0, 1, 2, 2, 1, 2, 2, 2), 0, by(-1, 0, 1))
}

// TestCannotBe: of edges that no clocks fit a tree is told all the same.
func TestCannotBe(t *testing.T) {
	for _, c := range []struct {
		l       []api.Edge
		parents []int
		want    []api.Span
	}{
		{edges(0, 1, 1, 2, 0, 1, 5, 6), by(-1, 0, -1), spans(0, 0, 1, 2, 0, 0)},
		{edges(0, 1, 1, 2, 1, 2, 1, 2, 2, 0, 1, 2), by(-1, 0, 2), spans(0, 0, 1, 2, -2, -1)},
		{edges(0, 1, top, top, 1, 0, top, top), by(-1, 0, -1), spans(0, 0, top, top, 0, 0)},
		{edges(0, 1, top, top, 1, 2, top, top, 2, 0, top, top), by(-1, 0, 2), spans(0, 0, top, top, -top, -top)},
	} {
		if _, err := loops.Fault(3, c.l); err != nil {
			t.Errorf("%v can be", c.l)
		}
		wantTree(t, 3, c.l, 0, c.parents, c.want)
	}
	// Also where that is away from the tree.
	wantTree(t, 4, edges(2, 3, 1, 2, 2, 3, 5, 6, 1, 0, 3, 3), 0, by(-1, 2, -1, -1), spans(0, 0, -3, -3, 0, 0, 0, 0))
}

// TestRoot: below 0, at n, and beyond; the last node that is one is no fault.
func TestRoot(t *testing.T) {
	for n := 1; n <= api.MaxNodes; n++ {
		chain := []api.Edge{}
		for i := range n - 1 {
			chain = append(chain, edges(i, i+1, 0, 0)...)
		}
		for _, l := range [][]api.Edge{nil, {}, chain, chain[:len(chain)/2]} {
			for _, root := range []int{-1, -2, -n, n, n + 1, 2 * n, api.MaxNodes, api.MaxNodes + 1, 1000, math.MaxInt, math.MinInt} {
				wantParents(t, n, l, root, nil, api.ErrRange)
				wantNoSpans(t, n, l, root, api.ErrRange)
			}
		}
		wantTree(t, n, nil, n-1, slices.Repeat(by(-1), n), make([]api.Span, n))
	}
}

// TestRefused: chapter 7's Check is told by both, ahead of what is wrong with the root.
func TestRefused(t *testing.T) {
	good := edges(0, 1, 2, 3)
	for _, n := range []int{0, -1, api.MaxNodes + 1, 1000, math.MaxInt, math.MinInt} {
		wantRefused(t, n, nil, api.ErrRange)
		wantRefused(t, n, good, api.ErrRange)
		wantRefused(t, n, many(api.MaxEdges+1, good[0]), api.ErrRange)
		wantRefused(t, n, edges(1, 1, 0, 0), api.ErrRange)
	}
	wantTree(t, 2, many(api.MaxEdges, good[0]), 0, by(-1, 0), spans(0, 0, 2, 3))
	wantRefused(t, 2, many(api.MaxEdges+1, good[0]), api.ErrFull)
	wantRefused(t, 2, many(1000, good[0]), api.ErrFull)
	wantRefused(t, 2, many(api.MaxEdges+1, api.Edge{A: -1, B: 7}), api.ErrFull)
	for _, bad := range []struct {
		l     []api.Edge
		errno api.Errno
	}{
		{edges(-1, 1, 0, 0), api.ErrRange},
		{edges(0, -1, 0, 0), api.ErrRange},
		{edges(2, 0, 0, 0), api.ErrRange},
		{edges(0, 2, 0, 0), api.ErrRange},
		{edges(math.MinInt, math.MaxInt, 0, 0), api.ErrRange},
		{edges(2, 2, 0, 0), api.ErrRange},
		{edges(1, 1, 0, 0), api.ErrShape},
		{edges(1, 1, 1, 0), api.ErrShape},
		{edges(0, 1, 1, 0), api.ErrRange},
		{edges(0, 1, -top-1, 0), api.ErrRange},
		{edges(0, 1, 0, top+1), api.ErrRange},
		{edges(0, 1, math.MinInt, math.MaxInt), api.ErrRange},
		{edges(1, 0, math.MinInt, math.MinInt), api.ErrRange},
		{edges(1, 1, 0, 0, 0, 2, 0, 0), api.ErrShape},
		{edges(0, 2, 0, 0, 1, 1, 0, 0), api.ErrRange},
	} {
		wantRefused(t, 2, bad.l, bad.errno)
		wantRefused(t, 2, slices.Concat(bad.l, good), bad.errno)
		// Also behind edges that have made the whole tree.
		wantRefused(t, 2, slices.Concat(good, bad.l), bad.errno)
		wantRefused(t, 2, slices.Concat(many(api.MaxEdges-len(bad.l), good[0]), bad.l), bad.errno)
	}
	// Away from the tree, and ahead of an end that is beyond.
	beyond := edges(0, 1, top, top, 1, 2, 1, 1)
	wantRefused(t, 6, slices.Concat(beyond, edges(4, 4, 0, 0)), api.ErrShape)
	wantRefused(t, 6, slices.Concat(edges(4, 5, 1, 0), beyond), api.ErrRange)
}

// TestFresh: what is handed in stays as it is, what lies behind it is not read, and what comes out is the caller's.
func TestFresh(t *testing.T) {
	whole := edges(0, 1, 1, 2, 2, 1, 1, 2, 9, 9, 9, 0, 0, 3, 7, 7)
	was := slices.Clone(whole)
	for range 3 {
		wantTree(t, 4, whole[:2], 0, by(-1, 0, 1, -1), spans(0, 0, 1, 2, -1, 1, 0, 0))
		wantTree(t, 2, whole[:1], 1, by(0, -1), spans(-2, -1, 0, 0))
		parents, err := tree.Parents(4, whole[:2], 0)
		from, in, bad := tree.Spans(4, whole[:2], 0)
		if err != nil || bad != nil {
			t.Fatal(err, bad)
		}
		for i := range 4 {
			parents[i], from[i], in[i] = 77, sp(7, -7), i%2 == 0
		}
		_, _, _ = append(parents, 1), append(from, sp(1, 1)), append(in, true)
	}
	if !slices.Equal(whole, was) {
		t.Errorf("what is handed in was changed: %v", whole)
	}
}

// ways is a model of the tree. A node's way in it is, of those with the fewest edges, the one that is first by its edges' numbers, one by one: for of two nodes as far from the root the one whose way is first is the one that came first. It goes all ways that have no node twice, and keeps of each node the first one (nil: none leads there).
func ways(n int, l []api.Edge, root int) [][]int {
	first, been := make([][]int, n), make([]bool, n)
	var visit func(at int, way []int)
	visit = func(at int, way []int) {
		known := first[at]
		if known == nil || len(way) < len(known) || (len(way) == len(known) && slices.Compare(way, known) < 0) {
			first[at] = append([]int{}, way...)
		}
		been[at] = true
		next := map[int]bool{}
		for i, e := range l {
			to := e.A + e.B - at
			// Of edges between the same two only the first can be of use.
			if (e.A == at || e.B == at) && !been[to] && !next[to] {
				next[to] = true
				visit(to, append(slices.Clone(way), i))
			}
		}
		been[at] = false
	}
	visit(root, []int{})
	return first
}

// sumAlong adds up the ends along a way, and tells whether they are beyond.
func sumAlong(l []api.Edge, root int, way []int) (api.Span, bool) {
	at, lo, hi := root, 0, 0
	for _, i := range way {
		if e := l[i]; e.A == at {
			at, lo, hi = e.B, lo+e.Span.Lo, hi+e.Span.Hi
		} else {
			at, lo, hi = e.A, lo-e.Span.Hi, hi-e.Span.Lo
		}
	}
	return sp(lo, hi), max(hi, -hi, lo, -lo) > top
}

// anyEdges takes n, and edges of all kinds, of few nodes or of many.
func anyEdges(r *rand.Rand) (int, []api.Edge) {
	n := 1 + r.Intn(api.MaxNodes)
	size := []int{3, 1_000, top / 3, top, top}[r.Intn(5)]
	count := []int{1, n - 1, n, 2 * n, api.MaxEdges}[r.Intn(5)]
	l := []api.Edge{}
	for range count {
		a, b := r.Intn(n), r.Intn(n)
		x, y := r.Intn(2*size+1)-size, r.Intn(2*size+1)-size
		if a != b {
			l = append(l, api.Edge{A: a, B: b, Span: sp(min(x, y), max(x, y))})
		}
	}
	return n, l
}

func TestAgainstWays(t *testing.T) {
	r := rand.New(rand.NewSource(1))
	within, over := 0, 0
	for range 3_000 {
		n, l := anyEdges(r)
		for root := range n {
			parents, want, beyond := slices.Repeat(by(-1), n), make([]api.Span, n), false
			for i, way := range ways(n, l, root) {
				if len(way) > 0 {
					parents[i] = way[len(way)-1]
				}
				s, far := sumAlong(l, root, way)
				want[i], beyond = s, beyond || far
			}
			if beyond {
				over++
				wantBeyond(t, n, l, root, parents)
			} else {
				within++
				wantTree(t, n, l, root, parents, want)
			}
		}
		if t.Failed() {
			t.FailNow()
		}
	}
	if within < 500 || over < 500 {
		t.Errorf("within %d times, beyond %d times", within, over)
	}
}

// around makes edges that the clocks fit.
func around(r *rand.Rand, clocks []int, count, wide int) (l []api.Edge) {
	for range count {
		a, b := r.Intn(len(clocks)), r.Intn(len(clocks))
		if a != b {
			more := clocks[b] - clocks[a]
			l = append(l, api.Edge{A: a, B: b, Span: sp(more-r.Intn(wide), more+r.Intn(wide))})
		}
	}
	return l
}

// TestAgainstBounds: what it truly is is in it, a tree knows no more than all edges, and just what all edges of the tree alone do.
func TestAgainstBounds(t *testing.T) {
	r := rand.New(rand.NewSource(2))
	for range 5_000 {
		clocks := make([]int, 1+r.Intn(api.MaxNodes))
		for i := range clocks {
			clocks[i] = r.Intn(top/4) - top/8
		}
		n, root := len(clocks), r.Intn(len(clocks))
		l := around(r, clocks, r.Intn(api.MaxEdges+1), []int{1, 5, 1_000, top / 50}[r.Intn(4)])
		parents, err := tree.Parents(n, l, root)
		from, in, bad := tree.Spans(n, l, root)
		all, known, clash := bounds.All(n, l)
		if err != nil || bad != nil || clash != nil {
			t.Fatal(n, l, root, err, bad, clash)
		}
		alone := []api.Edge{}
		for _, number := range parents {
			if number >= 0 {
				alone = append(alone, l[number])
			}
		}
		least, _, clash := bounds.All(n, alone)
		if clash != nil || !slices.Equal(in, known[root]) || !slices.Equal(from, least[root]) {
			t.Fatalf("%d, %v, %d: got %v, %v; all tell %v, those of the tree %v, %v", n, l, root, from, in, known[root], least, clash)
		}
		for i, s := range from {
			more, best := clocks[i]-clocks[root], all[root][i]
			if in[i] && (s.Lo > more || s.Hi < more || s.Lo > best.Lo || s.Hi < best.Hi) {
				t.Fatalf("%d, %v, %d: of %d got %v; it is %d, and all tell %v", n, l, root, i, s, more, best)
			}
		}
	}
}
