// Package faces holds the faces of all layers, and the given numbers, to what the document lists.
package faces

import (
	"errors"
	"testing"

	"noonmark/api"
	"noonmark/bounds"
	"noonmark/civil"
	"noonmark/clock"
	"noonmark/drift"
	"noonmark/hull"
	"noonmark/keeper"
	"noonmark/leap"
	"noonmark/loops"
	"noonmark/net"
	"noonmark/node"
	"noonmark/order"
	"noonmark/plain"
	"noonmark/probe"
	"noonmark/run"
	"noonmark/span"
	"noonmark/stat"
	"noonmark/tree"
	"noonmark/vote"
	"noonmark/wait"
	"noonmark/wire"
	"noonmark/world"
)

// Chapters 1 to 6. A face that is another one does not compile.
var (
	_ func(api.Span) error                           = span.Check
	_ func(a, b api.Span) (api.Span, error)          = span.Meet
	_ func(a, b api.Span) (api.Span, error)          = span.Hull
	_ func(a, b api.Span) (api.Span, error)          = span.Add
	_ func(api.Span) (api.Span, error)               = span.Turn
	_ func(api.Span, int) (api.Span, error)          = span.Widen
	_ func(api.Span, int) (bool, error)              = span.Has
	_ func(a, b api.Span) (bool, error)              = span.Before
	_ func(api.Span) (string, error)                 = span.Print
	_ func(string) (api.Span, error)                 = span.Parse
	_ func(n, ppm int) (int, error)                  = drift.Grow
	_ func(s api.Span, n, ppm int) (api.Span, error) = drift.Age
	_ func(n, ppm int) (api.Span, error)             = drift.Local
	_ func(n, ppm int) (api.Span, error)             = drift.True
	_ func(api.Probe) error                          = probe.Check
	_ func(api.Probe, int) (api.Span, error)         = probe.Offset
	_ func(api.Probe) (int, error)                   = probe.Round
	_ func([]api.Probe, int) (int, api.Span, error)  = probe.Best
	_ func([]api.Span) (api.Span, error)             = vote.Meet
	_ func([]api.Span) (api.Span, int, error)        = vote.Most
	_ func([]api.Span) ([]int, error)                = vote.Liars
	_ func([]api.Span, int) (api.Span, error)        = vote.Safe
	_ func(api.Date) error                           = civil.Check
	_ func(api.Date) (int, error)                    = civil.Number
	_ func(int) (api.Date, error)                    = civil.Of
	_ func(year, month int) (int, error)             = civil.Days
	_ func(api.Date) (string, error)                 = civil.Print
	_ func(string) (api.Date, error)                 = civil.Parse
	_ func([]api.Leap) error                         = leap.Check
	_ func([]api.Leap, int) (api.Label, error)       = leap.Utc
	_ func([]api.Leap, api.Label) (int, error)       = leap.Tai
	_ func([]api.Leap, int) (int, error)             = leap.Ahead
	_ func([]api.Leap, int) (int, error)             = leap.Smear
	_ func(api.Label) (string, error)                = leap.Print
	_ func(string) (api.Label, error)                = leap.Parse
)

// Chapters 7 to 13.
var (
	_ func(int, []api.Edge) error                            = bounds.Check
	_ func(n int, l []api.Edge, a, b int) (api.Span, error)  = bounds.Between
	_ func(int, []api.Edge) ([][]api.Span, [][]bool, error)  = bounds.All
	_ func(int, []api.Edge, []int) (bool, error)             = bounds.Fits
	_ func(int, []api.Edge, []int) (int, error)              = loops.Room
	_ func(int, []api.Edge) ([]int, error)                   = loops.Find
	_ func(int, []api.Edge) (int, error)                     = loops.Fault
	_ func(n int, l []api.Edge, root int) ([]int, error)     = tree.Parents
	_ func(int, []api.Edge, int) ([]api.Span, []bool, error) = tree.Spans
	_ func([]api.Point) error                                = hull.Check
	_ func([]api.Point) ([]api.Point, error)                 = hull.Upper
	_ func([]api.Point) ([]api.Point, error)                 = hull.Lower
	_ func([]api.Point, int) (int, error)                    = hull.Over
	_ func([]api.Point, int) (int, error)                    = hull.Under
	_ func(int) (*clock.Clock, error)                        = clock.New
	_ func(*clock.Clock, int) error                          = (*clock.Clock).Step
	_ func(*clock.Clock, api.Span) error                     = (*clock.Clock).Learn
	_ func(*clock.Clock) (api.Span, error)                   = (*clock.Clock).Now
	_ func(*clock.Clock) (int, error)                        = (*clock.Clock).Point
	_ func(*clock.Clock) int                                 = (*clock.Clock).Here
	_ func(api.Span, int) (bool, error)                      = wait.Past
	_ func(api.Span, int) (bool, error)                      = wait.Future
	_ func(api.Span) (int, error)                            = wait.Stamp
	_ func(now api.Span, t, ppm int) (int, error)            = wait.Wait
	_ func([]api.Event) error                                = order.Check
	_ func(l []api.Event, i, k int) (bool, error)            = order.Surely
	_ func([]api.Event, []int) (bool, error)                 = order.Could
	_ func([]api.Event, []int) ([]int, error)                = order.Times
	_ func([]api.Event) ([]int, error)                       = order.Ranks
	_ func([]api.Event) (int, error)                         = order.Many
)

// Chapters 14 to 20.
var (
	_ func(starts, rates []int, ppm int) (*world.World, error) = world.New
	_ func(*world.World, int) (int, error)                     = (*world.World).Read
	_ func(*world.World, api.Act) (*api.Letter, error)         = (*world.World).Do
	_ func(*world.World, api.Letter) error                     = (*world.World).Answer
	_ func(*world.World) []api.Letter                          = (*world.World).Under
	_ func(*world.World) int                                   = (*world.World).Time
	_ func(id, nodes, ppm int) (*node.Node, error)             = node.New
	_ func(*node.Node, api.Letter, int) (bool, error)          = (*node.Node).Hear
	_ func(*node.Node, int) ([]api.Span, []bool, error)        = (*node.Node).Spans
	_ func(*node.Node, int) ([]api.Edge, error)                = (*node.Node).Edges
	_ func(starts, rates []int, ppm int) (*net.Net, error)     = net.New
	_ func(*net.Net, api.Act) error                            = (*net.Net).Do
	_ func(n *net.Net, a, b int) (api.Span, error)             = (*net.Net).Offset
	_ func(*net.Net, int) (int, error)                         = (*net.Net).Show
	_ func(*net.Net) ([]api.Edge, error)                       = (*net.Net).Edges
	_ func(*net.Net) (int, error)                              = (*net.Net).Wide
	_ func(api.Letter) (string, error)                         = wire.Letter
	_ func(string) (api.Letter, error)                         = wire.ReadLetter
	_ func(api.Span) (string, error)                           = wire.Span
	_ func(string) (api.Span, error)                           = wire.ReadSpan
	_ func(api.Letter) error                                   = wire.Check
	_ func(int) (*keeper.Keeper, error)                        = keeper.New
	_ func(*keeper.Keeper, int) (int, error)                   = (*keeper.Keeper).Read
	_ func(*keeper.Keeper)                                     = (*keeper.Keeper).Crash
	_ func(*keeper.Keeper) int                                 = (*keeper.Keeper).Kept
	_ func(*keeper.Keeper) int                                 = (*keeper.Keeper).Writes
	_ func([]api.Span) ([]int, error)                          = stat.Widths
	_ func([]int) (int, error)                                 = stat.Median
	_ func([]int) (int, error)                                 = stat.Mean
	_ func([]int, int) (int, error)                            = stat.Wander
	_ func(string) string                                      = run.Run
)

type wrapped struct{ err error }

func (w wrapped) Error() string { return "wrapped: " + w.err.Error() }
func (w wrapped) Unwrap() error { return w.err }

// TestErrors: the numbers and names of P3, and that they are told also of what wraps them.
func TestErrors(t *testing.T) {
	names := []string{"OK", "ErrRange", "ErrSyntax", "ErrShape", "ErrFull", "ErrNone", "ErrState", "ErrClash", "ErrBack"}
	numbers := []api.Errno{api.OK, api.ErrRange, api.ErrSyntax, api.ErrShape, api.ErrFull, api.ErrNone, api.ErrState, api.ErrClash, api.ErrBack}
	for i, e := range numbers {
		if int(e) != i || e.Error() != names[i] {
			t.Errorf("got %d %s, want %d %s", int(e), e.Error(), i, names[i])
		}
		if plain.Told(e) != e || plain.Told(wrapped{e}) != e {
			t.Errorf("%s is not told", names[i])
		}
	}
	if plain.Told(nil) != api.OK || plain.Told(errors.New("other")) != -1 {
		t.Errorf("no error, or another one, is told wrong")
	}
}

// TestNumbers: those that the chapters name.
func TestNumbers(t *testing.T) {
	got := []int{
		api.MaxTime, api.MaxPpm, api.MaxSpans, api.MaxNodes, api.MaxEdges, api.MaxPoints, api.MaxLeaps,
		api.FirstYear, api.LastYear, api.MaxEvents, api.MaxUnder, api.MaxAhead, api.MaxRun,
	}
	want := []int{1000000000000, 1000, 40, 6, 40, 60, 20, 1970, 2199, 12, 40, 1000000, 3000}
	for i := range want {
		if got[i] != want[i] {
			t.Errorf("number %d: got %d, want %d", i, got[i], want[i])
		}
	}
}
