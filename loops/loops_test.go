package loops_test

import (
	"math"
	"math/rand"
	"slices"
	"testing"

	"noonmark/api"
	"noonmark/bounds"
	"noonmark/loops"
	"noonmark/plain"
)

const top = api.MaxTime

func sp(lo, hi int) api.Span { return api.Span{Lo: lo, Hi: hi} }

// edges makes them of numbers, four by four: A, B, Lo, Hi.
func edges(of ...int) (l []api.Edge) {
	for i := 0; i+3 < len(of); i += 4 {
		l = append(l, api.Edge{A: of[i], B: of[i+1], Span: sp(of[i+2], of[i+3])})
	}
	return l
}

// many edges that are all the same.
func many(n int, e api.Edge) []api.Edge {
	return slices.Repeat([]api.Edge{e}, n)
}

func loop(steps ...int) []int { return steps }

func wantRoom(t *testing.T, n int, l []api.Edge, loop []int, want int, errno api.Errno) {
	t.Helper()
	got, err := loops.Room(n, l, loop)
	if got != want || plain.Told(err) != errno {
		t.Errorf("Room(%d, %v, %v): got %d, %v; want %d, %v", n, l, loop, got, plain.Told(err), want, errno)
	}
}

// wantFound: that Find's loop is one, by what this file says of loops, and that its room is below 0.
func wantFound(t *testing.T, n int, l []api.Edge) {
	t.Helper()
	got, err := loops.Find(n, l)
	if err != nil {
		t.Errorf("Find(%d, %v): got %v, %v; want a loop", n, l, got, plain.Told(err))
		return
	}
	room, errno := roomOf(l, got, make([]int, n))
	if errno != api.OK || room >= 0 {
		t.Errorf("Find(%d, %v): got %v, of room %d, %v", n, l, got, room, errno)
	}
	wantRoom(t, n, l, got, room, errno)
}

func wantNotFound(t *testing.T, n int, l []api.Edge, errno api.Errno) {
	t.Helper()
	got, err := loops.Find(n, l)
	if got != nil || plain.Told(err) != errno {
		t.Errorf("Find(%d, %v): got %v, %v; want none, %v", n, l, got, plain.Told(err), errno)
	}
}

func wantFault(t *testing.T, n int, l []api.Edge, want int, errno api.Errno) {
	t.Helper()
	got, err := loops.Fault(n, l)
	if got != want || plain.Told(err) != errno {
		t.Errorf("Fault(%d, %v): got %d, %v; want %d, %v", n, l, got, plain.Told(err), want, errno)
	}
}

// wantAllCan: that all edges can be.
func wantAllCan(t *testing.T, n int, l []api.Edge) {
	t.Helper()
	wantNotFound(t, n, l, api.ErrNone)
	wantFault(t, n, l, 0, api.ErrNone)
}

// wantFaulty: that edges cannot be, from this one on, and that all ahead of it can.
func wantFaulty(t *testing.T, n int, l []api.Edge, fault int) {
	t.Helper()
	for upTo := range len(l) + 1 {
		if upTo <= fault {
			wantAllCan(t, n, l[:upTo])
			continue
		}
		wantFault(t, n, l[:upTo], fault, api.OK)
		wantFound(t, n, l[:upTo])
	}
}

// wantRefused: of one fault of the edges that all three tell it, and ahead of whatever is wrong with a loop.
func wantRefused(t *testing.T, n int, l []api.Edge, errno api.Errno) {
	t.Helper()
	wantNotFound(t, n, l, errno)
	wantFault(t, n, l, 0, errno)
	for _, loop := range [][]int{nil, {}, {1}, {1, -1}, {-1, 1}, {0}, {1, 0}, {99}, {math.MinInt}, {math.MaxInt, 1}, make([]int, api.MaxEdges+1)} {
		wantRoom(t, n, l, loop, 0, errno)
	}
}

// roomOf is a model of Room, of edges without a fault. Whatever clocks show, all that a loop's edges leave between what they show and their ends is the room, as what the clocks themselves make out cancels around it.
func roomOf(l []api.Edge, loop, clocks []int) (int, api.Errno) {
	if len(loop) == 0 {
		return 0, api.ErrNone
	}
	if len(loop) > 40 {
		return 0, api.ErrFull
	}
	begins, ends, room := []int{}, []int{}, 0
	for _, s := range loop {
		i := slices.Index(numbers(len(l)), max(s, -s))
		if i < 0 {
			return 0, api.ErrRange
		}
		e := l[i]
		shows := clocks[e.B] - clocks[e.A]
		if s > 0 {
			begins, ends, room = append(begins, e.A), append(ends, e.B), room+e.Span.Hi-shows
		} else {
			begins, ends, room = append(begins, e.B), append(ends, e.A), room+shows-e.Span.Lo
		}
	}
	last := len(ends) - 1
	if !slices.Equal(begins, slices.Concat(ends[last:], ends[:last])) {
		return 0, api.ErrShape
	}
	return room, api.OK
}

// numbers from 1 on.
func numbers(n int) (l []int) {
	for i := range n {
		l = append(l, i+1)
	}
	return l
}

func TestRoom(t *testing.T) {
	l := edges(0, 1, 3, 8, 1, 2, -4, 5, 0, 2, 10, 20)
	for _, c := range []struct {
		loop []int
		want int
	}{
		// Two steps along one edge and back, from either side.
		{loop(1, -1), 5},
		{loop(-1, 1), 5},
		{loop(2, -2), 9},
		{loop(-3, 3), 10},
		// Around, from any node, either way.
		{loop(1, 2, -3), 8 + 5 - 10},
		{loop(2, -3, 1), 8 + 5 - 10},
		{loop(-3, 1, 2), 8 + 5 - 10},
		{loop(3, -2, -1), 20 + 4 - 3},
		{loop(-2, -1, 3), 20 + 4 - 3},
		{loop(-1, 3, -2), 20 + 4 - 3},
		// By one edge twice, and more often.
		{loop(1, -1, 1, -1), 10},
		{loop(1, 2, -2, -1), 5 + 9},
		{loop(1, 2, -3, 1, 2, -3), 6},
		{loop(1, 2, -3, 1, -1), 3 + 5},
		{loop(1, -1, 3, -3, 1, 2, -3), 5 + 10 + 3},
	} {
		wantRoom(t, 3, l, c.loop, c.want, api.OK)
		// Nodes that no edges connect change nothing.
		wantRoom(t, 6, l, c.loop, c.want, api.OK)
	}
}

// TestRoomAroundZero: rooms of 0, just above it and just below.
func TestRoomAroundZero(t *testing.T) {
	for _, more := range []int{-2, -1, 0, 1, 2} {
		wantRoom(t, 2, edges(0, 1, 0, 5+more, 0, 1, 5, 9), loop(1, -2), more, api.OK)
		wantRoom(t, 2, edges(0, 1, 0, 5+more, 1, 0, -9, -5), loop(1, 2), more, api.OK)
		wantRoom(t, 2, edges(1, 0, -5-more, 0, 0, 1, 5, 9), loop(-1, -2), more, api.OK)
		wantRoom(t, 2, edges(1, 0, -5-more, 0, 1, 0, -9, -5), loop(-1, 2), more, api.OK)
		wantRoom(t, 3, edges(0, 1, 1, 2, 1, 2, 1, 2, 2, 0, -9, -4+more), loop(1, 2, 3), more, api.OK)
		wantRoom(t, 3, edges(0, 1, 1, 2, 1, 2, 1, 2, 0, 2, 4-more, 9), loop(1, 2, -3), more, api.OK)
	}
	wantRoom(t, 2, edges(0, 1, 7, 7), loop(1, -1), 0, api.OK)
}

// TestRoomAmongSame: of several edges between the same two nodes each is one of its own.
func TestRoomAmongSame(t *testing.T) {
	l := edges(0, 1, 1, 2, 0, 1, 10, 20, 1, 0, 100, 200)
	for _, c := range []struct {
		loop []int
		want int
	}{
		{loop(1, -2), 2 - 10},
		{loop(2, -1), 20 - 1},
		{loop(1, 3), 2 + 200},
		{loop(3, 2), 20 + 200},
		{loop(-1, -3), -1 - 100},
		{loop(-3, -2), -10 - 100},
		{loop(-3, 3), 100},
		{loop(1, -2, 2, 3, -3, -1), 2 - 10 + 20 + 200 - 100 - 1},
	} {
		wantRoom(t, 2, l, c.loop, c.want, api.OK)
	}
}

func TestRoomAtTheGreatest(t *testing.T) {
	ring := edges(0, 1, top, top, 1, 0, top, top, 0, 1, -top, top)
	wantRoom(t, 2, ring, loop(1, 2), 2*top, api.OK)
	wantRoom(t, 2, ring, loop(-1, -2), -2*top, api.OK)
	wantRoom(t, 2, ring, loop(3, -3), 2*top, api.OK)
	wantRoom(t, 2, ring, loop(1, -1), 0, api.OK)
	wantRoom(t, 2, ring, loop(3, -1), 0, api.OK)
	wantRoom(t, 2, ring, slices.Repeat(loop(1, 2), 20), 40*top, api.OK)
	wantRoom(t, 2, ring, slices.Repeat(loop(-1, -2), 20), -40*top, api.OK)
	wantRoom(t, 2, ring, slices.Repeat(loop(3, -3), 20), 40*top, api.OK)
}

// TestRoomHowMany: one step, MaxEdges of them, more; and as many edges.
func TestRoomHowMany(t *testing.T) {
	l := edges(0, 1, 3, 8, 1, 2, -4, 5, 2, 0, 1, 1)
	wantRoom(t, 3, l, nil, 0, api.ErrNone)
	wantRoom(t, 3, l, loop(), 0, api.ErrNone)
	for s := 1; s <= 3; s++ {
		wantRoom(t, 3, l, loop(s), 0, api.ErrShape)
		wantRoom(t, 3, l, loop(-s), 0, api.ErrShape)
	}
	wantRoom(t, 3, l, slices.Repeat(loop(1, -1), 20), 100, api.OK)
	wantRoom(t, 3, l, append(slices.Repeat(loop(1, 2, 3), 12), 1, -1, 1, -1), 12*14+10, api.OK)
	wantRoom(t, 3, l, append(slices.Repeat(loop(1, 2, 3), 13), 1), 0, api.ErrShape)
	wantRoom(t, 3, l, slices.Repeat(loop(1, 2, 3), 13), 13*14, api.OK)
	for _, steps := range [][]int{slices.Repeat(loop(1, 2, 3), 14), slices.Repeat(loop(1, -1), 21), slices.Repeat(loop(1), 41), make([]int, 41), make([]int, 1000)} {
		wantRoom(t, 3, l, steps, 0, api.ErrFull)
	}
	// Every edge once, of as many as may be.
	full, around := []api.Edge{}, []int{}
	for i := range api.MaxEdges {
		full, around = append(full, edges(i%4, (i+1)%4, -i, i)...), append(around, i+1)
	}
	wantRoom(t, 4, full, around, 780, api.OK)
	wantRoom(t, 4, full, loop(37, 38, 39, 40), 36+37+38+39, api.OK)
	wantRoom(t, 4, full, loop(-40, -39, -38, -37), 36+37+38+39, api.OK)
	wantRoom(t, 4, full, loop(40, -40), 78, api.OK)
	wantRoom(t, 4, full, loop(41, -41), 0, api.ErrRange)
}

// TestRoomShape: one step whose end is not where the next one begins, the last one and the first one among them.
func TestRoomShape(t *testing.T) {
	l := edges(0, 1, 3, 8, 1, 2, -4, 5, 0, 2, 10, 20, 3, 4, 0, 0)
	for _, steps := range [][]int{
		loop(1, 1),
		loop(-1, -1),
		loop(1, 2),
		loop(1, 2, 3),
		loop(-1, 2, -3),
		loop(1, -2, -3),
		loop(-3, 2, 1),
		loop(2, 1, -3),
		loop(1, 2, -2),
		loop(2, -2, -1),
		loop(1, -1, 2),
		loop(2, 1, -1),
		loop(1, -1, 2, -2),
		loop(1, -1, 4, -4),
		loop(1, 4, -4, -1),
		loop(4, 1),
		loop(1, 2, -3, 4),
	} {
		wantRoom(t, 5, l, steps, 0, api.ErrShape)
	}
}

// TestRoomRange: step 0, and steps beyond the edges either way.
func TestRoomRange(t *testing.T) {
	l := edges(0, 1, 3, 8, 0, 1, 4, 9)
	for _, s := range []int{0, 3, -3, 4, -4, 40, -40, 41, 1000, -1000, math.MaxInt, math.MinInt, math.MinInt + 1} {
		wantRoom(t, 2, l, loop(s), 0, api.ErrRange)
		wantRoom(t, 2, l, loop(s, -s), 0, api.ErrRange)
		wantRoom(t, 2, l, loop(s, -1), 0, api.ErrRange)
		wantRoom(t, 2, l, loop(1, s), 0, api.ErrRange)
		wantRoom(t, 2, l, loop(1, -1, s), 0, api.ErrRange)
		wantRoom(t, 2, nil, loop(s), 0, api.ErrRange)
		// Ahead of how they go, wherever in the loop that is; how many there are is asked ahead of it.
		wantRoom(t, 2, l, loop(1, 1, s), 0, api.ErrRange)
		wantRoom(t, 2, l, loop(1, 1, 1, 1, s), 0, api.ErrRange)
		wantRoom(t, 2, l, append(slices.Repeat(loop(1), 39), s), 0, api.ErrRange)
		wantRoom(t, 2, l, append(slices.Repeat(loop(1, -1), 20), s), 0, api.ErrFull)
		wantRoom(t, 2, l, append(loop(s), slices.Repeat(loop(1, -1), 20)...), 0, api.ErrFull)
	}
	// Without edges every step is of none.
	wantRoom(t, 1, nil, loop(1), 0, api.ErrRange)
	wantRoom(t, 1, nil, loop(-1), 0, api.ErrRange)
	wantRoom(t, 1, nil, nil, 0, api.ErrNone)
	wantRoom(t, 6, []api.Edge{}, loop(), 0, api.ErrNone)
	wantRoom(t, 6, nil, make([]int, 41), 0, api.ErrFull)
}

// TestRefused: chapter 7's Check is told by all three, ahead of all else.
func TestRefused(t *testing.T) {
	good := edges(0, 1, 2, 3)
	for _, n := range []int{0, -1, api.MaxNodes + 1, 1000, math.MaxInt, math.MinInt} {
		wantRefused(t, n, nil, api.ErrRange)
		wantRefused(t, n, good, api.ErrRange)
		wantRefused(t, n, many(api.MaxEdges+1, good[0]), api.ErrRange)
	}
	wantRefused(t, 2, many(api.MaxEdges+1, good[0]), api.ErrFull)
	wantRefused(t, 2, many(api.MaxEdges+1, api.Edge{A: -1, B: 7}), api.ErrFull)
	wantRefused(t, 2, append(edges(0, 1, 0, 1, 0, 1, 5, 6), many(api.MaxEdges-1, good[0])...), api.ErrFull)
	for _, bad := range []struct {
		l     []api.Edge
		errno api.Errno
	}{
		{edges(-1, 1, 0, 0), api.ErrRange},
		{edges(0, 2, 0, 0), api.ErrRange},
		{edges(math.MinInt, math.MaxInt, 0, 0), api.ErrRange},
		{edges(2, 2, 0, 0), api.ErrRange},
		{edges(1, 1, 0, 0), api.ErrShape},
		{edges(1, 1, 1, 0), api.ErrShape},
		{edges(0, 1, 1, 0), api.ErrRange},
		{edges(0, 1, -top-1, 0), api.ErrRange},
		{edges(0, 1, 0, top+1), api.ErrRange},
		{edges(0, 1, math.MinInt, math.MaxInt), api.ErrRange},
		{edges(0, 1, math.MaxInt, math.MinInt), api.ErrRange},
		{edges(1, 1, 0, 0, 0, 2, 0, 0), api.ErrShape},
		{edges(0, 2, 0, 0, 1, 1, 0, 0), api.ErrRange},
	} {
		wantRefused(t, 2, bad.l, bad.errno)
		wantRefused(t, 2, slices.Concat(good, bad.l), bad.errno)
		wantRefused(t, 2, slices.Concat(bad.l, good), bad.errno)
		// Behind edges that cannot be.
		wantRefused(t, 2, slices.Concat(edges(0, 1, 3, 4, 0, 1, 5, 6), bad.l), bad.errno)
		wantRefused(t, 2, slices.Concat(edges(0, 1, 3, 4, 0, 1, 5, 6), many(api.MaxEdges-2-len(bad.l), good[0]), bad.l), bad.errno)
	}
}

func TestAllCan(t *testing.T) {
	for n := 1; n <= api.MaxNodes; n++ {
		wantAllCan(t, n, nil)
		wantAllCan(t, n, []api.Edge{})
	}
	for _, c := range []struct {
		n int
		l []api.Edge
	}{
		{2, edges(0, 1, 7, 7)},
		{2, edges(1, 0, -top, top)},
		{2, many(api.MaxEdges, edges(0, 1, 7, 7)[0])},
		// Just one number is in both, whichever way round they stand.
		{2, edges(0, 1, 0, 5, 0, 1, 5, 9)},
		{2, edges(0, 1, 5, 9, 0, 1, 0, 5)},
		{2, edges(0, 1, 0, 5, 1, 0, -9, -5)},
		{2, edges(1, 0, -9, -5, 0, 1, 0, 5)},
		{2, edges(1, 0, -9, -5, 1, 0, -5, 0)},
		// Just one is around.
		{3, edges(0, 1, 1, 2, 1, 2, 1, 2, 2, 0, -9, -4)},
		{3, edges(0, 1, 1, 2, 1, 2, 1, 2, 0, 2, 0, 2)},
		{6, edges(0, 1, 1, 2, 1, 2, 1, 2, 2, 3, 1, 2, 3, 4, 1, 2, 4, 5, 1, 2, 5, 0, -5, 9)},
		{6, edges(0, 1, 1, 2, 1, 2, 1, 2, 2, 3, 1, 2, 3, 4, 1, 2, 4, 5, 1, 2, 5, 0, -99, -10)},
		// Nodes that no edges connect, or not all of them.
		{4, edges(0, 1, 5, 5, 2, 3, -5, -5)},
		{6, edges(4, 2, 1, 1)},
		// A tree has no loop, whatever its spans are: clocks may be further apart than MaxTime.
		{6, edges(0, 1, top, top, 1, 2, top, top, 2, 3, top, top, 3, 4, top, top, 4, 5, top, top)},
		{6, edges(0, 1, -top, -top, 1, 2, -top, -top, 2, 3, -top, -top, 3, 4, -top, -top, 4, 5, -top, -top)},
		{4, edges(0, 1, top, top, 1, 2, top, top, 3, 2, top, top, 0, 3, top, top)},
	} {
		wantAllCan(t, c.n, c.l)
	}
}

// TestFaulty: edges that two of them, or more of them around, cannot be, and where that is told.
func TestFaulty(t *testing.T) {
	for _, c := range []struct {
		n     int
		l     []api.Edge
		fault int
	}{
		// Two between the same two nodes, either way round: the first edge that can have a fault is the second one.
		{2, edges(0, 1, 0, 4, 0, 1, 5, 9), 1},
		{2, edges(0, 1, 5, 9, 0, 1, 0, 4), 1},
		{2, edges(0, 1, 0, 4, 1, 0, -9, -5), 1},
		{2, edges(1, 0, -9, -5, 0, 1, 0, 4), 1},
		{2, edges(1, 0, 0, 4, 1, 0, 5, 9), 1},
		{2, edges(0, 1, -top, -top, 0, 1, top, top), 1},
		{2, edges(0, 1, top, top, 1, 0, top, top), 1},
		{2, edges(0, 1, -top, -top, 1, 0, -top, -top), 1},
		// With edges behind it: which can be, which cannot.
		{2, edges(0, 1, 0, 4, 0, 1, 5, 9, 0, 1, 0, 9), 1},
		{2, edges(0, 1, 0, 4, 0, 1, 5, 9, 0, 1, 50, 90), 1},
		{4, edges(0, 1, 0, 4, 0, 1, 5, 9, 2, 3, 0, 9, 3, 2, 7, 7), 1},
		{2, edges(0, 1, 0, 9, 0, 1, 3, 5, 1, 0, -4, 0, 0, 1, 5, 5, 0, 1, 4, 4), 3},
		// At the last one of as many as may be.
		{2, append(many(api.MaxEdges-1, edges(0, 1, 0, 4)[0]), edges(0, 1, 5, 5)...), api.MaxEdges - 1},
		{2, append(many(api.MaxEdges-1, edges(0, 1, 0, 4)[0]), edges(1, 0, 1, 1)...), api.MaxEdges - 1},
		// Each two can be, all three around cannot.
		{3, edges(0, 1, 1, 2, 1, 2, 1, 2, 2, 0, 1, 2), 2},
		{3, edges(0, 1, 1, 2, 1, 2, 1, 2, 0, 2, 5, 9), 2},
		{3, edges(0, 1, 1, 2, 1, 2, 1, 2, 0, 2, 0, 1), 2},
		{3, edges(0, 1, 1, 2, 2, 1, 1, 2, 2, 0, -9, -2), 2},
		{3, edges(0, 1, 1, 2, 1, 2, 1, 2, 2, 0, -9, -5), 2},
		// All six around, by one too many either way.
		{6, edges(0, 1, 1, 2, 1, 2, 1, 2, 2, 3, 1, 2, 3, 4, 1, 2, 4, 5, 1, 2, 5, 0, -4, 9), 5},
		{6, edges(0, 1, 1, 2, 1, 2, 1, 2, 2, 3, 1, 2, 3, 4, 1, 2, 4, 5, 1, 2, 5, 0, -99, -11), 5},
		{6, edges(5, 4, 1, 2, 4, 3, 1, 2, 3, 2, 1, 2, 2, 1, 1, 2, 1, 0, 1, 2, 0, 5, -4, 9), 5},
		{6, edges(5, 0, -99, -11, 4, 5, 1, 2, 3, 4, 1, 2, 2, 3, 1, 2, 1, 2, 1, 2, 0, 1, 1, 2), 5},
		{6, edges(0, 3, 1, 2, 3, 1, 1, 2, 5, 1, 1, 2, 5, 2, 1, 2, 2, 4, 1, 2, 4, 0, -99, -8), 5},
		{6, edges(0, 1, top, top, 1, 2, top, top, 2, 3, top, top, 3, 4, top, top, 4, 5, top, top, 5, 0, top, top), 5},
		{6, edges(0, 1, -top, -top, 1, 2, -top, -top, 2, 3, -top, -top, 3, 4, -top, -top, 4, 5, -top, -top, 5, 0, -top, -top), 5},
		// Away from nodes 0 and 5, or with a tail that is no part of it.
		{6, edges(2, 3, 1, 2, 3, 4, 1, 2, 4, 2, 1, 2), 2},
		{6, edges(0, 5, 1, 2, 2, 3, 1, 2, 3, 2, 1, 2), 2},
		{6, edges(0, 1, -top, -top, 1, 2, -top, -top, 2, 3, -top, -top, 3, 4, 0, 0, 4, 5, 1, 1, 5, 3, 1, 1), 5},
		{6, edges(5, 4, -top, -top, 4, 3, -top, -top, 3, 2, -top, -top, 2, 1, 0, 0, 1, 0, 1, 1, 0, 2, 1, 1), 5},
		// Two loops that both are, the later one by far the worse.
		{4, edges(0, 1, 0, 4, 0, 1, 5, 5, 2, 3, -top, -top, 2, 3, top, top), 1},
	} {
		wantFaulty(t, c.n, c.l, c.fault)
	}
}

// TestFresh: what is handed in stays as it is, what lies behind it is not read, and what comes out is the caller's.
func TestFresh(t *testing.T) {
	whole := edges(0, 1, 1, 2, 1, 2, 1, 2, 2, 0, 1, 2, 9, 9, 9, 0)
	steps := []int{1, 2, 3, 0, math.MinInt}
	was, stepped := slices.Clone(whole), slices.Clone(steps)
	ask := func() []int {
		wantRoom(t, 3, whole[:3], steps[:3], 6, api.OK)
		wantFault(t, 3, whole[:3], 2, api.OK)
		wantFaulty(t, 3, whole[:3], 2)
		wantAllCan(t, 3, whole[:2])
		wantRoom(t, 3, whole[:2], steps[:3], 0, api.ErrRange)
		wantRoom(t, 3, whole[:3], steps[:0], 0, api.ErrNone)
		found, err := loops.Find(3, whole[:3])
		if err != nil {
			t.Fatal(err)
		}
		return found
	}
	first := ask()
	kept := slices.Clone(first)
	for i := range first {
		first[i] = math.MinInt
	}
	_ = append(first, 77)
	if second := ask(); !slices.Equal(second, kept) {
		t.Errorf("asked again: got %v, then %v", kept, second)
	}
	if !slices.Equal(whole, was) || !slices.Equal(steps, stepped) {
		t.Errorf("what is handed in was changed: %v, %v", whole, steps)
	}
}

// around makes edges that clocks fit, but for some that are wrong by a little, now and then.
func around(r *rand.Rand, n, count, size, wide int) []api.Edge {
	clocks, l := make([]int, n), []api.Edge{}
	for i := range clocks {
		clocks[i] = r.Intn(2*size+1) - size
	}
	for range count {
		a, b := r.Intn(n), r.Intn(n)
		if a == b {
			continue
		}
		lo, hi := clocks[b]-clocks[a]-r.Intn(wide+1), clocks[b]-clocks[a]+r.Intn(wide+1)
		if r.Intn(40) == 0 {
			lo, hi = lo+wide/2+1, hi+wide/2+1
		}
		l = append(l, api.Edge{A: a, B: b, Span: sp(min(max(lo, -top), top), max(min(hi, top), -top))})
	}
	return l
}

// anyEdges takes n, and edges of all kinds.
func anyEdges(r *rand.Rand) (int, []api.Edge) {
	n := 1 + r.Intn(api.MaxNodes)
	size := []int{3, 20, 1_000, top / 4, top / 2, top}[r.Intn(6)]
	wide := []int{0, 2, 10, size / 2, size}[r.Intn(5)]
	count := []int{1, 3, n, 2 * n, api.MaxEdges}[r.Intn(5)]
	return n, around(r, n, count, size, wide)
}

// walk takes steps at random that go on from each other, and goes back by the same ones if it does not come around; now and then it is changed at one place, or cut.
func walk(r *rand.Rand, l []api.Edge) []int {
	steps, at := []int{}, r.Intn(api.MaxNodes)
	begin := at
	for range r.Intn(80) {
		i := r.Intn(len(l) + 1)
		if i == len(l) {
			continue
		}
		switch at {
		case l[i].A:
			steps, at = append(steps, i+1), l[i].B
		case l[i].B:
			steps, at = append(steps, -i-1), l[i].A
		}
	}
	if at != begin {
		for i := len(steps) - 1; i >= 0; i-- {
			steps = append(steps, -steps[i])
		}
	}
	if len(steps) > 0 && r.Intn(3) == 0 {
		steps[r.Intn(len(steps))] = r.Intn(2*len(l)+5) - len(l) - 2
	}
	if len(steps) > 0 && r.Intn(6) == 0 {
		steps = steps[:len(steps)-1]
	}
	return steps
}

func TestRoomAgainstModel(t *testing.T) {
	r := rand.New(rand.NewSource(1))
	seen := map[api.Errno]int{}
	for range 20_000 {
		n, l := anyEdges(r)
		steps, clocks := walk(r, l), make([]int, n)
		for i := range clocks {
			clocks[i] = r.Intn(2*top+1) - top
		}
		want, errno := roomOf(l, steps, clocks)
		seen[errno]++
		wantRoom(t, n, l, steps, want, errno)
		// What it begins with changes nothing.
		if len(steps) > 0 {
			cut := r.Intn(len(steps))
			wantRoom(t, n, l, slices.Concat(steps[cut:], steps[:cut]), want, errno)
		}
		if t.Failed() {
			t.FailNow()
		}
	}
	for _, errno := range []api.Errno{api.OK, api.ErrNone, api.ErrFull, api.ErrRange, api.ErrShape} {
		if seen[errno] < 100 {
			t.Errorf("%v came %d times alone", errno, seen[errno])
		}
	}
}

// clashes is a model of whether no clocks fit: it goes every way around that has no node twice, by the edge with the least room between each two.
func clashes(n int, l []api.Edge) bool {
	type way struct {
		room int
		has  bool
	}
	ways := [api.MaxNodes][api.MaxNodes]way{}
	keep := func(a, b, room int) {
		if w := ways[a][b]; !w.has || room < w.room {
			ways[a][b] = way{room, true}
		}
	}
	for _, e := range l {
		keep(e.A, e.B, e.Span.Hi)
		keep(e.B, e.A, -e.Span.Lo)
	}
	been := [api.MaxNodes]bool{}
	var visit func(from, at, sum int) bool
	visit = func(from, at, sum int) bool {
		for next := range n {
			w := ways[at][next]
			if !w.has {
				continue
			}
			if next == from && sum+w.room < 0 {
				return true
			}
			// Each way around is gone from its least node.
			if next <= from || been[next] {
				continue
			}
			been[next] = true
			is := visit(from, next, sum+w.room)
			been[next] = false
			if is {
				return true
			}
		}
		return false
	}
	for from := range n {
		if visit(from, from, 0) {
			return true
		}
	}
	return false
}

func TestAgainstWaysAround(t *testing.T) {
	r := rand.New(rand.NewSource(2))
	sound, faulty := 0, [api.MaxEdges]int{}
	for range 10_000 {
		n, l := anyEdges(r)
		fault := -1
		for i := range l {
			if clashes(n, l[:i+1]) {
				fault = i
				break
			}
		}
		_, _, err := bounds.All(n, l)
		if (plain.Told(err) == api.ErrClash) != (fault >= 0) {
			t.Fatalf("All(%d, %v): got %v, but the fault is %d", n, l, plain.Told(err), fault)
		}
		if fault < 0 {
			sound++
			wantAllCan(t, n, l)
		} else {
			faulty[fault]++
			wantFault(t, n, l, fault, api.OK)
			wantFound(t, n, l)
			wantFound(t, n, l[:fault+1])
			wantAllCan(t, n, l[:fault])
		}
		if t.Failed() {
			t.FailNow()
		}
	}
	if sound < 500 || faulty[1] < 5 || faulty[20] < 5 {
		t.Errorf("of %d edges can be, of others the fault is at %v", sound, faulty)
	}
}

// fit is a model of small numbers: it tries clocks one by one, the first of them at 0.
func fit(t *testing.T, n int, l []api.Edge, most int) bool {
	clocks := make([]int, n)
	var try func(i int) bool
	try = func(i int) bool {
		if i == n {
			is, err := bounds.Fits(n, l, clocks)
			if err != nil {
				t.Fatal(err)
			}
			return is
		}
		for clocks[i] = -most; clocks[i] <= most; clocks[i]++ {
			if try(i + 1) {
				return true
			}
		}
		return false
	}
	return try(1)
}

func TestAgainstClocks(t *testing.T) {
	r := rand.New(rand.NewSource(3))
	for range 300 {
		n := 2 + r.Intn(3)
		l := []api.Edge{}
		for range 1 + r.Intn(2*n) {
			a := r.Intn(n)
			b := (a + 1 + r.Intn(n-1)) % n
			lo := r.Intn(6) - 3
			l = append(l, api.Edge{A: a, B: b, Span: sp(lo, min(lo+r.Intn(4), 3))})
		}
		fault := 0
		for fault < len(l) && fit(t, n, l[:fault+1], 3*(n-1)) {
			fault++
		}
		wantFaulty(t, n, l, fault)
		if t.Failed() {
			t.FailNow()
		}
	}
}
