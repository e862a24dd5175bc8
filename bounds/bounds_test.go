package bounds_test

import (
	"math"
	"math/rand"
	"reflect"
	"slices"
	"testing"

	"noonmark/api"
	"noonmark/bounds"
	"noonmark/plain"
)

const top = api.MaxTime

func sp(lo, hi int) api.Span { return api.Span{Lo: lo, Hi: hi} }

// edges makes them of numbers, four by four: A, B, Lo, Hi.
func edges(of ...int) (l []api.Edge) {
	for i := 0; i+3 < len(of); i += 4 {
		l = append(l, api.Edge{A: of[i], B: of[i+1], Span: sp(of[i+2], of[i+3])})
	}
	return l
}

// many edges that are all the same.
func many(n int, e api.Edge) []api.Edge {
	return slices.Repeat([]api.Edge{e}, n)
}

func wantCheck(t *testing.T, n int, l []api.Edge, errno api.Errno) {
	t.Helper()
	if err := bounds.Check(n, l); plain.Told(err) != errno {
		t.Errorf("Check(%d, %v): got %v; want %v", n, l, plain.Told(err), errno)
	}
}

func wantBetween(t *testing.T, n int, l []api.Edge, a, b int, want api.Span, errno api.Errno) {
	t.Helper()
	got, err := bounds.Between(n, l, a, b)
	if got != want || plain.Told(err) != errno {
		t.Errorf("Between(%d, %v, %d, %d): got %v, %v; want %v, %v", n, l, a, b, got, plain.Told(err), want, errno)
	}
}

func wantFits(t *testing.T, n int, l []api.Edge, clocks []int, want bool, errno api.Errno) {
	t.Helper()
	got, err := bounds.Fits(n, l, clocks)
	if got != want || plain.Told(err) != errno {
		t.Errorf("Fits(%d, %v, %v): got %v, %v; want %v, %v", n, l, clocks, got, plain.Told(err), want, errno)
	}
}

// wantAll asks Between of each two too.
func wantAll(t *testing.T, n int, l []api.Edge, want [][]api.Span, known [][]bool) {
	t.Helper()
	got, has, err := bounds.All(n, l)
	if err != nil || !reflect.DeepEqual(got, want) || !reflect.DeepEqual(has, known) {
		t.Fatalf("All(%d, %v): got %v, %v, %v; want %v, %v", n, l, got, has, plain.Told(err), want, known)
	}
	for a := range n {
		for b := range n {
			errno := api.OK
			if !known[a][b] {
				errno = api.ErrNone
			}
			wantBetween(t, n, l, a, b, want[a][b], errno)
		}
	}
}

// wantNone: that All tells this error and no more; and that Between does, of any two that are.
func wantNone(t *testing.T, n int, l []api.Edge, errno api.Errno) {
	t.Helper()
	got, has, err := bounds.All(n, l)
	if got != nil || has != nil || plain.Told(err) != errno {
		t.Fatalf("All(%d, %v): got %v, %v, %v; want none, %v", n, l, got, has, plain.Told(err), errno)
	}
	for a := range min(max(n, 1), api.MaxNodes) {
		for b := range min(max(n, 1), api.MaxNodes) {
			wantBetween(t, n, l, a, b, api.Span{}, errno)
		}
	}
}

// wantRefused: of one fault of the edges that all four tell.
func wantRefused(t *testing.T, n int, l []api.Edge, errno api.Errno) {
	t.Helper()
	wantCheck(t, n, l, errno)
	wantNone(t, n, l, errno)
	wantFits(t, n, l, make([]int, min(max(n, 0), 9)), false, errno)
	// This is told ahead of what else is wrong with what is asked.
	wantBetween(t, n, l, -1, 99, api.Span{}, errno)
	wantFits(t, n, l, []int{math.MaxInt}, false, errno)
	wantFits(t, n, l, make([]int, 7), false, errno)
}

func TestCheckNodes(t *testing.T) {
	for n := 1; n <= api.MaxNodes; n++ {
		wantCheck(t, n, nil, api.OK)
		wantCheck(t, n, []api.Edge{}, api.OK)
	}
	for _, n := range []int{0, -1, api.MaxNodes + 1, 1000, math.MaxInt, math.MinInt} {
		wantRefused(t, n, nil, api.ErrRange)
	}
}

func TestCheckHowMany(t *testing.T) {
	e := edges(0, 1, 2, 3)[0]
	wantCheck(t, 2, many(api.MaxEdges, e), api.OK)
	wantRefused(t, 2, many(api.MaxEdges+1, e), api.ErrFull)
	wantRefused(t, 2, many(1000, e), api.ErrFull)
	// So many are asked ahead of what they are, and how many nodes there are ahead of that.
	wantRefused(t, 2, many(api.MaxEdges+1, api.Edge{A: -1, B: 7}), api.ErrFull)
	wantRefused(t, 0, many(api.MaxEdges+1, e), api.ErrRange)
	wantRefused(t, 7, many(api.MaxEdges+1, e), api.ErrRange)
}

func TestCheckEdges(t *testing.T) {
	wantCheck(t, 6, edges(0, 5, -top, top, 5, 0, top, top, 3, 2, -top, -top), api.OK)
	for _, bad := range []struct {
		n     int
		l     []api.Edge
		errno api.Errno
	}{
		{2, edges(-1, 1, 0, 0), api.ErrRange},
		{2, edges(0, -1, 0, 0), api.ErrRange},
		{2, edges(2, 0, 0, 0), api.ErrRange},
		{2, edges(0, 2, 0, 0), api.ErrRange},
		{6, edges(0, 6, 0, 0), api.ErrRange},
		{6, edges(math.MinInt, math.MaxInt, 0, 0), api.ErrRange},
		{1, edges(0, 1, 0, 0), api.ErrRange},
		{1, edges(0, 0, 0, 0), api.ErrShape},
		{3, edges(2, 2, 0, 0), api.ErrShape},
		{2, edges(0, 1, 1, 0), api.ErrRange},
		{2, edges(0, 1, -top-1, 0), api.ErrRange},
		{2, edges(0, 1, 0, top+1), api.ErrRange},
		{2, edges(0, 1, math.MinInt, math.MaxInt), api.ErrRange},
	} {
		wantRefused(t, bad.n, bad.l, bad.errno)
		if bad.n > 1 {
			wantRefused(t, bad.n, append(edges(0, 1, 3, 4), bad.l...), bad.errno)
			wantRefused(t, bad.n, append(bad.l, edges(0, 1, 3, 4)...), bad.errno)
			// Edges that no clocks fit, but for that.
			wantRefused(t, bad.n, append(edges(0, 1, 3, 4, 0, 1, 5, 6), bad.l...), bad.errno)
		}
	}
}

// TestCheckFirst: which of several errors is told.
func TestCheckFirst(t *testing.T) {
	// Of one edge: no such node, ahead of the same one twice, ahead of its span.
	wantRefused(t, 2, edges(2, 2, 0, 0), api.ErrRange)
	wantRefused(t, 2, edges(-1, -1, 1, 0), api.ErrRange)
	wantRefused(t, 2, edges(1, 1, 1, 0), api.ErrShape)
	wantRefused(t, 2, edges(1, 1, 0, top+1), api.ErrShape)
	// Of several: all that is wrong with the first that has a fault.
	wantRefused(t, 2, edges(0, 1, 1, 0, 1, 1, 0, 0), api.ErrRange)
	wantRefused(t, 2, edges(1, 1, 0, 0, 0, 1, 1, 0), api.ErrShape)
	wantRefused(t, 2, edges(1, 1, 0, 0, 0, 2, 0, 0), api.ErrShape)
	wantRefused(t, 2, edges(0, 1, 0, 0, 0, 2, 0, 0, 1, 1, 0, 0), api.ErrRange)
}

func TestFits(t *testing.T) {
	l := edges(0, 1, 3, 8, 2, 1, -4, -4)
	for _, c := range []struct {
		clocks []int
		want   bool
	}{
		{[]int{0, 3, 7}, true},
		{[]int{0, 8, 12}, true},
		{[]int{-100, -95, -91}, true},
		{[]int{0, 2, 6}, false},
		{[]int{0, 9, 13}, false},
		{[]int{0, 5, 8}, false},
		{[]int{0, 5, 10}, false},
		{[]int{3, 0, 4}, false},
		{[]int{0, 0, 0}, false},
	} {
		wantFits(t, 3, l, c.clocks, c.want, api.OK)
	}
	// The second of them alone, the first of them alone.
	wantFits(t, 2, edges(0, 1, 0, 9, 0, 1, 5, 9), []int{0, 4}, false, api.OK)
	wantFits(t, 2, edges(0, 1, 5, 9, 0, 1, 0, 9), []int{0, 4}, false, api.OK)
	// Without edges all do.
	wantFits(t, 1, nil, []int{77}, true, api.OK)
	wantFits(t, 6, nil, []int{-top, top, 0, 1, 2, 3}, true, api.OK)
	wantFits(t, 2, many(api.MaxEdges, edges(1, 0, -2, -1)[0]), []int{5, 6}, true, api.OK)
	// No clocks fit these: that is no error here.
	wantFits(t, 2, edges(0, 1, 0, 1, 0, 1, 2, 3), []int{0, 1}, false, api.OK)
}

func TestFitsAtMaxTime(t *testing.T) {
	wantFits(t, 2, edges(0, 1, top, top), []int{0, top}, true, api.OK)
	wantFits(t, 2, edges(0, 1, top, top), []int{-top, 0}, true, api.OK)
	wantFits(t, 2, edges(0, 1, top, top), []int{-top, 1}, false, api.OK)
	wantFits(t, 2, edges(0, 1, -top, top), []int{-top, top}, false, api.OK)
	wantFits(t, 2, edges(0, 1, -top, top), []int{top, -top}, false, api.OK)
	wantFits(t, 2, edges(0, 1, -top, -top), []int{top, 0}, true, api.OK)
	wantFits(t, 2, edges(0, 1, 0, 0), []int{top, top}, true, api.OK)
	wantFits(t, 2, edges(0, 1, 0, 0), []int{-top, -top}, true, api.OK)
}

func TestFitsWrong(t *testing.T) {
	l := edges(0, 1, 0, 5)
	for _, clocks := range [][]int{nil, {}, {1}, {1, 2, 3}, make([]int, 100)} {
		wantFits(t, 2, l, clocks, false, api.ErrShape)
	}
	for _, c := range []int{-top - 1, top + 1, math.MinInt, math.MaxInt} {
		wantFits(t, 2, l, []int{c, 0}, false, api.ErrRange)
		wantFits(t, 2, l, []int{0, c}, false, api.ErrRange)
		wantFits(t, 2, nil, []int{0, c}, false, api.ErrRange)
		// How many there are is asked ahead of what they show.
		wantFits(t, 2, l, []int{c}, false, api.ErrShape)
		wantFits(t, 2, l, []int{c, c, c}, false, api.ErrShape)
	}
}

func TestAllOfNoEdges(t *testing.T) {
	for n := 1; n <= api.MaxNodes; n++ {
		want, known := make([][]api.Span, n), make([][]bool, n)
		for a := range n {
			want[a], known[a] = make([]api.Span, n), make([]bool, n)
			known[a][a] = true
		}
		wantAll(t, n, nil, want, known)
		wantAll(t, n, []api.Edge{}, want, known)
	}
}

// TestAllOfTwo: one edge and several, either way round.
func TestAllOfTwo(t *testing.T) {
	for _, c := range []struct {
		l    []api.Edge
		want api.Span
	}{
		{edges(0, 1, 3, 8), sp(3, 8)},
		{edges(1, 0, 3, 8), sp(-8, -3)},
		{edges(0, 1, -3, 8), sp(-3, 8)},
		{edges(0, 1, 3, 8, 0, 1, 5, 9), sp(5, 8)},
		{edges(0, 1, 5, 9, 0, 1, 3, 8), sp(5, 8)},
		{edges(0, 1, 3, 8, 1, 0, -6, 2), sp(3, 6)},
		{edges(1, 0, -6, 2, 0, 1, 3, 8), sp(3, 6)},
		{edges(1, 0, -6, 2, 1, 0, -9, -4), sp(4, 6)},
		{edges(0, 1, 3, 5, 0, 1, 5, 9), sp(5, 5)},
		{edges(0, 1, 3, 5, 1, 0, -9, -5), sp(5, 5)},
		{edges(0, 1, 0, 0), sp(0, 0)},
		{edges(0, 1, -top, top), sp(-top, top)},
		{edges(1, 0, top, top), sp(-top, -top)},
		{many(api.MaxEdges, edges(0, 1, 7, 9)[0]), sp(7, 9)},
		{append(many(api.MaxEdges-1, edges(0, 1, 7, 9)[0]), edges(1, 0, -8, 0)...), sp(7, 8)},
	} {
		want := [][]api.Span{{{}, c.want}, {sp(-c.want.Hi, -c.want.Lo), {}}}
		wantAll(t, 2, c.l, want, [][]bool{{true, true}, {true, true}})
	}
}

// TestAllOverOthers: over one node, over several, and the one that is the less wide or both together.
func TestAllOverOthers(t *testing.T) {
	for _, c := range []struct {
		n    int
		l    []api.Edge
		a, b int
		want api.Span
	}{
		{3, edges(0, 1, 1, 2, 1, 2, 10, 20), 0, 2, sp(11, 22)},
		{3, edges(0, 1, 1, 2, 1, 2, 10, 20), 2, 0, sp(-22, -11)},
		{3, edges(0, 1, 1, 2, 2, 1, 10, 20), 0, 2, sp(-19, -8)},
		{3, edges(1, 0, 1, 2, 2, 1, 10, 20), 0, 2, sp(-22, -11)},
		// What is over the other one is of more use, of less, and of some.
		{3, edges(0, 1, 1, 2, 1, 2, 10, 20, 0, 2, 0, 100), 0, 2, sp(11, 22)},
		{3, edges(0, 1, 1, 2, 1, 2, 10, 20, 0, 2, 15, 16), 0, 2, sp(15, 16)},
		{3, edges(0, 1, 1, 2, 1, 2, 10, 20, 0, 2, 15, 16), 1, 2, sp(13, 15)},
		{3, edges(0, 1, 1, 2, 1, 2, 10, 20, 2, 0, -100, -20), 0, 2, sp(20, 22)},
		// Over four others, whatever the order of the nodes and of the edges.
		{6, edges(0, 1, 1, 2, 1, 2, 1, 2, 2, 3, 1, 2, 3, 4, 1, 2, 4, 5, 1, 2), 0, 5, sp(5, 10)},
		{6, edges(0, 4, 1, 2, 4, 2, 1, 2, 2, 3, 1, 2, 3, 1, 1, 2, 1, 5, 1, 2), 0, 5, sp(5, 10)},
		{6, edges(5, 1, 1, 2, 3, 1, 1, 2, 2, 3, 1, 2, 4, 2, 1, 2, 0, 4, 1, 2), 0, 5, sp(2, 7)},
		{6, edges(0, 5, 1, 2, 5, 1, 1, 2, 1, 4, 1, 2, 4, 3, 1, 2, 3, 2, 1, 2), 2, 0, sp(-10, -5)},
		// The bound to one side is over one node, that to the other side over another one.
		{4, edges(0, 1, 0, 5, 1, 3, 0, 5, 0, 2, -5, 1, 2, 3, -5, 1), 0, 3, sp(0, 2)},
		{4, edges(0, 1, 0, 5, 1, 3, 0, 5, 0, 2, -5, 1, 2, 3, -5, 1), 0, 2, sp(-1, 1)},
	} {
		wantBetween(t, c.n, c.l, c.a, c.b, c.want, api.OK)
	}
}

// TestAllApart: nodes that no edges connect.
func TestAllApart(t *testing.T) {
	no := api.Span{}
	wantAll(t, 3, edges(2, 0, 4, 9), [][]api.Span{
		{no, no, sp(-9, -4)},
		{no, no, no},
		{sp(4, 9), no, no},
	}, [][]bool{
		{true, false, true},
		{false, true, false},
		{true, false, true},
	})
	wantAll(t, 5, edges(4, 0, 1, 2, 1, 3, -5, -4, 3, 2, 7, 7), [][]api.Span{
		{no, no, no, no, sp(-2, -1)},
		{no, no, sp(2, 3), sp(-5, -4), no},
		{no, sp(-3, -2), no, sp(-7, -7), no},
		{no, sp(4, 5), sp(7, 7), no, no},
		{sp(1, 2), no, no, no, no},
	}, [][]bool{
		{true, false, false, false, true},
		{false, true, true, true, false},
		{false, true, true, true, false},
		{false, true, true, true, false},
		{true, false, false, false, true},
	})
}

func TestClash(t *testing.T) {
	for _, c := range []struct {
		n int
		l []api.Edge
	}{
		// Two of them, either way round.
		{2, edges(0, 1, 0, 4, 0, 1, 5, 9)},
		{2, edges(0, 1, 5, 9, 0, 1, 0, 4)},
		{2, edges(0, 1, 0, 4, 1, 0, -9, -5)},
		{2, edges(0, 1, 5, 9, 1, 0, -4, 0)},
		{2, edges(0, 1, -top, -top, 0, 1, top, top)},
		{2, edges(0, 1, top, top, 1, 0, top, top)},
		{2, append(many(api.MaxEdges-1, edges(0, 1, 0, 4)[0]), edges(0, 1, 5, 5)...)},
		// Each two meet, all three do not.
		{3, edges(0, 1, 1, 2, 1, 2, 1, 2, 2, 0, 1, 2)},
		{3, edges(0, 1, 1, 2, 1, 2, 1, 2, 0, 2, 5, 9)},
		{3, edges(0, 1, 1, 2, 1, 2, 1, 2, 0, 2, 0, 1)},
		{3, edges(0, 1, 1, 2, 2, 1, 1, 2, 2, 0, -9, -2)},
		// All six around.
		{6, edges(0, 1, 1, 2, 1, 2, 1, 2, 2, 3, 1, 2, 3, 4, 1, 2, 4, 5, 1, 2, 5, 0, -4, 9)},
		{6, edges(0, 1, 1, 2, 1, 2, 1, 2, 2, 3, 1, 2, 3, 4, 1, 2, 4, 5, 1, 2, 5, 0, -99, -11)},
		{6, edges(0, 3, 1, 2, 3, 1, 1, 2, 5, 1, 1, 2, 5, 2, 1, 2, 2, 4, 1, 2, 4, 0, -99, -8)},
		{6, edges(0, 1, top, top, 1, 2, top, top, 2, 3, top, top, 3, 4, top, top, 4, 5, top, top, 5, 0, top, top)},
		// Not of those that are asked of: neither node 0 nor node 5 has to do with it.
		{6, edges(2, 3, 1, 2, 3, 4, 1, 2, 4, 2, 1, 2)},
		{6, edges(0, 5, 1, 2, 2, 3, 1, 2, 3, 2, 1, 2)},
	} {
		wantCheck(t, c.n, c.l, api.OK)
		wantNone(t, c.n, c.l, api.ErrClash)
	}
	// Just not: one more, and there is one that fits.
	wantBetween(t, 2, edges(0, 1, 0, 5, 0, 1, 5, 9), 0, 1, sp(5, 5), api.OK)
	wantBetween(t, 6, edges(0, 1, 1, 2, 1, 2, 1, 2, 2, 3, 1, 2, 3, 4, 1, 2, 4, 5, 1, 2, 5, 0, -5, 9), 0, 5, sp(5, 5), api.OK)
	wantBetween(t, 6, edges(0, 1, 1, 2, 1, 2, 1, 2, 2, 3, 1, 2, 3, 4, 1, 2, 4, 5, 1, 2, 5, 0, -99, -10), 5, 0, sp(-10, -10), api.OK)
	wantBetween(t, 6, edges(0, 3, 1, 2, 3, 1, 1, 2, 5, 1, 1, 2, 5, 2, 1, 2, 2, 4, 1, 2, 4, 0, -99, -7), 0, 4, sp(7, 7), api.OK)
}

func TestBeyond(t *testing.T) {
	half := top / 2
	// At MaxTime, and one beyond, either way.
	wantBetween(t, 3, edges(0, 1, 0, half, 1, 2, 0, half), 0, 2, sp(0, top), api.OK)
	wantBetween(t, 3, edges(0, 1, 0, half, 1, 2, 0, half), 2, 0, sp(-top, 0), api.OK)
	wantBetween(t, 3, edges(0, 1, top, top, 1, 2, 0, 0), 0, 2, sp(top, top), api.OK)
	wantNone(t, 3, edges(0, 1, 0, half, 1, 2, 0, half+1), api.ErrRange)
	wantNone(t, 3, edges(0, 1, -half, 0, 1, 2, -half-1, 0), api.ErrRange)
	wantNone(t, 3, edges(0, 1, top, top, 1, 2, 0, 1), api.ErrRange)
	wantNone(t, 3, edges(0, 1, top, top, 1, 2, 1, 1), api.ErrRange)
	// Those of others too, whatever two are asked of.
	wantNone(t, 6, edges(3, 4, 0, half, 4, 5, 0, half+1), api.ErrRange)
	wantNone(t, 6, edges(0, 1, top, top, 1, 2, top, top, 2, 3, top, top, 3, 4, top, top, 4, 5, top, top), api.ErrRange)
	// One path is beyond it, another one brings it back.
	wantBetween(t, 3, edges(0, 1, 0, top, 1, 2, 0, top, 0, 2, 5, 9), 0, 2, sp(5, 9), api.OK)
	wantBetween(t, 3, edges(0, 1, top, top, 1, 2, -9, 9, 0, 2, -top, top), 0, 2, sp(top-9, top), api.OK)
	wantBetween(t, 4, edges(0, 1, top, top, 1, 2, top, top, 2, 3, -top, -top, 3, 0, -top, -top, 0, 2, 0, top), 0, 3, api.Span{}, api.ErrClash)
	wantBetween(t, 6, edges(0, 1, 0, top, 1, 2, 0, top, 2, 3, 0, top, 3, 4, 0, top, 4, 5, 0, top, 0, 5, 0, top), 0, 5, sp(0, top), api.OK)
	wantBetween(t, 6, edges(0, 1, 0, top, 1, 2, 0, top, 2, 3, 0, top, 3, 4, 0, top, 4, 5, 0, top, 0, 5, 0, top), 1, 4, sp(0, top), api.OK)
	// That no clocks fit is told ahead of it.
	wantNone(t, 5, edges(0, 1, top, top, 1, 2, top, top, 3, 4, 0, 1, 3, 4, 2, 3), api.ErrClash)
	wantNone(t, 3, edges(0, 1, top, top, 1, 2, top, top, 0, 2, 0, top), api.ErrClash)
}

func TestBetweenWrong(t *testing.T) {
	none := []int{-1, 3, 6, math.MinInt, math.MaxInt}
	for _, l := range [][]api.Edge{
		nil,
		edges(0, 1, 3, 8),
		// Ahead of what else All tells: no clocks fit, an end is beyond MaxTime.
		edges(0, 1, 3, 8, 0, 1, 9, 9),
		edges(0, 1, top, top, 1, 2, top, top),
	} {
		for _, x := range none {
			wantBetween(t, 3, l, x, 0, api.Span{}, api.ErrRange)
			wantBetween(t, 3, l, 0, x, api.Span{}, api.ErrRange)
			wantBetween(t, 3, l, x, x, api.Span{}, api.ErrRange)
		}
	}
	// That no clocks fit, and that an end is beyond MaxTime, are told ahead of there being no bound.
	wantBetween(t, 3, edges(0, 1, 3, 8, 0, 1, 9, 9), 0, 2, api.Span{}, api.ErrClash)
	wantBetween(t, 3, edges(0, 1, 3, 8, 0, 1, 9, 9), 2, 2, api.Span{}, api.ErrClash)
	wantBetween(t, 4, edges(0, 1, top, top, 1, 2, top, top), 0, 3, api.Span{}, api.ErrRange)
	wantBetween(t, 4, edges(0, 1, top, top, 1, 2, 0, 0), 0, 3, api.Span{}, api.ErrNone)
	wantBetween(t, 4, edges(0, 1, top, top, 1, 2, 0, 0), 3, 0, api.Span{}, api.ErrNone)
	wantBetween(t, 4, edges(0, 1, top, top, 1, 2, 0, 0), 3, 3, api.Span{}, api.OK)
}

// TestFresh: what is handed in stays as it is, what lies behind it is not read, and what comes out is the caller's.
func TestFresh(t *testing.T) {
	whole := edges(0, 1, 3, 8, 2, 1, -4, -4, 9, 9, 9, 0)
	was := slices.Clone(whole)
	clocks := []int{0, 3, 7, math.MaxInt}
	ask := func() ([][]api.Span, [][]bool) {
		spans, known, err := bounds.All(3, whole[:2])
		if err != nil {
			t.Fatal(err)
		}
		wantCheck(t, 3, whole[:2], api.OK)
		wantFits(t, 3, whole[:2], clocks[:3], true, api.OK)
		wantBetween(t, 3, whole[:2], 0, 2, sp(7, 12), api.OK)
		return spans, known
	}
	spans, known := ask()
	for a := range spans {
		for b := range spans[a] {
			spans[a][b], known[a][b] = sp(100*a+b, 77), b%2 == 0
		}
		// Were rows to share memory, one more of a row would fall into the next one.
		_ = append(spans[a], sp(-1, -1))
		_ = append(known[a], true)
	}
	for a := range spans {
		for b := range spans[a] {
			if spans[a][b] != sp(100*a+b, 77) || known[a][b] != (b%2 == 0) {
				t.Errorf("rows of one answer share memory at %d, %d: %v, %v", a, b, spans, known)
			}
		}
	}
	again, has := ask()
	want := [][]api.Span{{{}, sp(3, 8), sp(7, 12)}, {sp(-8, -3), {}, sp(4, 4)}, {sp(-12, -7), sp(-4, -4), {}}}
	if !reflect.DeepEqual(again, want) || !reflect.DeepEqual(has, [][]bool{{true, true, true}, {true, true, true}, {true, true, true}}) {
		t.Errorf("asked again: got %v, %v", again, has)
	}
	if !slices.Equal(whole, was) || !slices.Equal(clocks, []int{0, 3, 7, math.MaxInt}) {
		t.Errorf("what is handed in was changed: %v, %v", whole, clocks)
	}
}

// ways has by a, by b how much further b's clock may be than a's, over one edge; and whether there is any.
func ways(n int, l []api.Edge) (far [][]int, has [][]bool) {
	far, has = make([][]int, n), make([][]bool, n)
	for a := range n {
		far[a], has[a] = make([]int, n), make([]bool, n)
	}
	keep := func(a, b, f int) {
		if !has[a][b] || f < far[a][b] {
			far[a][b], has[a][b] = f, true
		}
	}
	for _, e := range l {
		keep(e.A, e.B, e.Span.Hi)
		keep(e.B, e.A, -e.Span.Lo)
	}
	return far, has
}

// byPaths is a model of All: it goes every path that has no node twice, and every way around.
func byPaths(n int, l []api.Edge) ([][]api.Span, [][]bool, api.Errno) {
	far, has := ways(n, l)
	best, known := make([][]int, n), make([][]bool, n)
	clash := false
	var walk func(from, at, sum int, been []bool)
	walk = func(from, at, sum int, been []bool) {
		for next := range n {
			if !has[at][next] {
				continue
			}
			total := sum + far[at][next]
			if next == from {
				clash = clash || total < 0
			}
			if been[next] {
				continue
			}
			if !known[from][next] || total < best[from][next] {
				best[from][next], known[from][next] = total, true
			}
			been[next] = true
			walk(from, next, total, been)
			been[next] = false
		}
	}
	for a := range n {
		best[a], known[a] = make([]int, n), make([]bool, n)
		known[a][a] = true
		been := make([]bool, n)
		been[a] = true
		walk(a, a, 0, been)
	}
	if clash {
		return nil, nil, api.ErrClash
	}
	spans, errno := make([][]api.Span, n), api.OK
	for a := range n {
		spans[a] = make([]api.Span, n)
		for b := range n {
			if known[a][b] {
				spans[a][b] = sp(-best[b][a], best[a][b])
			}
			if best[a][b] > top {
				errno = api.ErrRange
			}
		}
	}
	if errno != api.OK {
		return nil, nil, errno
	}
	return spans, known, api.OK
}

// holdTo asks All and Between of edges, and holds them to what a model answers.
func holdTo(t *testing.T, n int, l []api.Edge, spans [][]api.Span, known [][]bool, errno api.Errno) {
	t.Helper()
	if errno != api.OK {
		wantNone(t, n, l, errno)
		return
	}
	wantAll(t, n, l, spans, known)
}

// around makes edges that clocks fit (those are handed back too), but for some that are wrong by a little, now and then.
func around(r *rand.Rand, n, count, size, wide int) ([]api.Edge, []int) {
	clocks, l := make([]int, n), []api.Edge{}
	for i := range clocks {
		clocks[i] = r.Intn(2*size+1) - size
	}
	for range count {
		a, b := r.Intn(n), r.Intn(n)
		if a == b {
			continue
		}
		lo, hi := clocks[b]-clocks[a]-r.Intn(wide+1), clocks[b]-clocks[a]+r.Intn(wide+1)
		if r.Intn(40) == 0 {
			lo, hi = lo+wide/2+1, hi+wide/2+1
		}
		l = append(l, api.Edge{A: a, B: b, Span: sp(min(max(lo, -top), top), max(min(hi, top), -top))})
	}
	return l, clocks
}

func TestAgainstPaths(t *testing.T) {
	r := rand.New(rand.NewSource(7))
	seen := map[api.Errno]int{}
	for i := range 6000 {
		n := 1 + r.Intn(api.MaxNodes)
		size := []int{3, 20, 1_000, top / 4, top / 2, top}[r.Intn(6)]
		wide := []int{0, 2, 10, size / 2, size}[r.Intn(5)]
		count := []int{1, 3, n, 2 * n, api.MaxEdges}[r.Intn(5)]
		l, _ := around(r, n, count, size, wide)
		spans, known, errno := byPaths(n, l)
		seen[errno]++
		holdTo(t, n, l, spans, known, errno)
		if t.Failed() {
			t.Fatalf("at %d", i)
		}
	}
	for _, errno := range []api.Errno{api.OK, api.ErrClash, api.ErrRange} {
		if seen[errno] < 100 {
			t.Errorf("%v came %d times alone", errno, seen[errno])
		}
	}
}

// byClocks is a model of All of small numbers: it tries clocks one by one. Clocks that fit can be moved, all that edges connect together, so that one of them shows 0: then none is further off than all the others' edges.
func byClocks(t *testing.T, n int, l []api.Edge, most int, known [][]bool) ([][]api.Span, api.Errno) {
	spans, met := make([][]api.Span, n), false
	for a := range spans {
		spans[a] = make([]api.Span, n)
	}
	clocks := make([]int, n)
	var try func(i int)
	try = func(i int) {
		if i < n {
			for clocks[i] = -most; clocks[i] <= most; clocks[i]++ {
				try(i + 1)
			}
			return
		}
		if fits, err := bounds.Fits(n, l, clocks); err != nil || !fits {
			return
		}
		for a := range n {
			for b := range n {
				d := clocks[b] - clocks[a]
				if !met {
					spans[a][b] = sp(d, d)
				}
				spans[a][b] = sp(min(spans[a][b].Lo, d), max(spans[a][b].Hi, d))
			}
		}
		met = true
	}
	// The first clock may as well show 0.
	try(1)
	if !met {
		return nil, api.ErrClash
	}
	for a := range n {
		for b := range n {
			if !known[a][b] {
				spans[a][b] = api.Span{}
			}
		}
	}
	return spans, api.OK
}

// connected tells by a, by b whether edges lead there.
func connected(n int, l []api.Edge) [][]bool {
	known := make([][]bool, n)
	for a := range n {
		known[a] = make([]bool, n)
		known[a][a] = true
		for range n {
			for _, e := range l {
				if known[a][e.A] || known[a][e.B] {
					known[a][e.A], known[a][e.B] = true, true
				}
			}
		}
	}
	return known
}

func TestAgainstClocks(t *testing.T) {
	r := rand.New(rand.NewSource(8))
	for i := range 400 {
		n := 2 + r.Intn(3)
		l := []api.Edge{}
		for range 1 + r.Intn(2*n) {
			a := r.Intn(n)
			b := (a + 1 + r.Intn(n-1)) % n
			lo := r.Intn(6) - 3
			l = append(l, api.Edge{A: a, B: b, Span: sp(lo, min(lo+r.Intn(4), 3))})
		}
		known := connected(n, l)
		spans, errno := byClocks(t, n, l, 3*(n-1), known)
		holdTo(t, n, l, spans, known, errno)
		if t.Failed() {
			t.Fatalf("at %d", i)
		}
	}
}

// TestWhatFitsIsWithin: clocks that fit are within all bounds, and each end of each bound is shown by clocks that fit.
func TestWhatFitsIsWithin(t *testing.T) {
	r := rand.New(rand.NewSource(9))
	for range 2000 {
		n := 1 + r.Intn(api.MaxNodes)
		l, clocks := around(r, n, r.Intn(api.MaxEdges), 1_000_000, []int{0, 9, 500_000}[r.Intn(3)])
		fits, err := bounds.Fits(n, l, clocks)
		if err != nil {
			t.Fatal(err)
		}
		spans, known, err := bounds.All(n, l)
		if !fits {
			continue
		}
		if err != nil {
			t.Fatalf("All(%d, %v): %v, but %v fit", n, l, err, clocks)
		}
		for a := range n {
			most, least := make([]int, n), make([]int, n)
			for b := range n {
				d := clocks[b] - clocks[a]
				if known[a][b] && (d < spans[a][b].Lo || d > spans[a][b].Hi) {
					t.Fatalf("All(%d, %v): %v of %d, %d, but %v fit", n, l, spans[a][b], a, b, clocks)
				}
				most[b], least[b] = d, d
				if known[a][b] {
					most[b], least[b] = spans[a][b].Hi, spans[a][b].Lo
				}
			}
			// Seen from one node all others may be at their furthest, or nearest, at once.
			wantFits(t, n, l, most, true, api.OK)
			wantFits(t, n, l, least, true, api.OK)
		}
	}
}
