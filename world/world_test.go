package world_test

import (
	"math"
	"math/big"
	"math/rand"
	"slices"
	"testing"

	"noonmark/api"
	"noonmark/plain"
	"noonmark/world"
)

const (
	million = 1_000_000
	last    = 1_000_000_000
)

// hand holds a World, and each call on it to what it must tell.
type hand struct {
	t *testing.T
	w *world.World
}

func made(t *testing.T, starts, rates []int, ppm int) hand {
	t.Helper()
	w, err := world.New(starts, rates, ppm)
	if err != nil || w == nil {
		t.Fatalf("New(%v, %v, %d): got %v, %v", starts, rates, ppm, w, plain.Told(err))
	}
	return hand{t, w}
}

// three clocks: a fast one, a slow one, and one that is neither.
func three(t *testing.T) hand {
	t.Helper()
	return made(t, []int{100, 200, 300}, []int{1000, -1000, 0}, 1000)
}

func act(what, a, b int) api.Act { return api.Act{What: what, A: a, B: b} }

func asked(from, to, at int) api.Letter { return api.Letter{From: from, To: to, T: at} }

func answered(from, to, t1, at int) api.Letter {
	return api.Letter{From: from, To: to, Answer: true, T1: t1, T2: at, T: at}
}

// does: that an act tells no Letter, and such an error.
func (h hand) does(what, a, b int, errno api.Errno) {
	h.t.Helper()
	if l, err := h.w.Do(act(what, a, b)); l != nil || plain.Told(err) != errno {
		h.t.Errorf("Do(%d, %d, %d): got %v, %v; want nil, %v", what, a, b, l, plain.Told(err), errno)
	}
}

// comes: that an act tells just that Letter.
func (h hand) comes(what, a int, want api.Letter) {
	h.t.Helper()
	l, err := h.w.Do(act(what, a, 0))
	if l == nil || *l != want || err != nil {
		h.t.Errorf("Do(%d, %d): got %v, %v; want %v", what, a, l, plain.Told(err), want)
	}
}

func (h hand) goes(by int) {
	h.t.Helper()
	h.does(api.Go, by, 0, api.OK)
}

func (h hand) asks(from, to int) {
	h.t.Helper()
	h.does(api.Ask, from, to, api.OK)
}

func (h hand) answers(l api.Letter, errno api.Errno) {
	h.t.Helper()
	if err := h.w.Answer(l); plain.Told(err) != errno {
		h.t.Errorf("Answer(%v): got %v; want %v", l, plain.Told(err), errno)
	}
}

func (h hand) under(want ...api.Letter) {
	h.t.Helper()
	if got := h.w.Under(); !slices.Equal(got, want) {
		h.t.Errorf("Under: got %v; want %v", got, want)
	}
}

func (h hand) time(want int) {
	h.t.Helper()
	if got := h.w.Time(); got != want {
		h.t.Errorf("Time: got %d; want %d", got, want)
	}
}

// shows: what the clocks show, all of them, and that there are no more.
func (h hand) shows(want ...int) {
	h.t.Helper()
	for i, n := range want {
		if got, err := h.w.Read(i); got != n || err != nil {
			h.t.Errorf("Read(%d) at %d: got %d, %v; want %d", i, h.w.Time(), got, plain.Told(err), n)
		}
	}
	for _, i := range []int{len(want), len(want) + 1, api.MaxNodes, -1, -2, math.MinInt, math.MaxInt, 1 << 32} {
		if got, err := h.w.Read(i); got != 0 || plain.Told(err) != api.ErrRange {
			h.t.Errorf("Read(%d) of %d clocks: got %d, %v; want 0, %v", i, len(want), got, plain.Told(err), api.ErrRange)
		}
	}
}

// goesTo a time, by steps as great as may be.
func (h hand) goesTo(to int) {
	h.t.Helper()
	for h.w.Time() < to {
		ahead := h.w.Time()
		h.goes(min(to-ahead, million))
		if h.w.Time() <= ahead {
			h.t.Fatalf("Time stays at %d", ahead)
		}
	}
	h.time(to)
}

func wantNone(t *testing.T, starts, rates []int, ppm int, errno api.Errno) {
	t.Helper()
	if w, err := world.New(starts, rates, ppm); w != nil || plain.Told(err) != errno {
		t.Errorf("New(%v, %v, %d): got %v, %v; want nil, %v", starts, rates, ppm, w, plain.Told(err), errno)
	}
}

// TestNew: from one clock to just MaxNodes.
func TestNew(t *testing.T) {
	for n := 1; n <= api.MaxNodes; n++ {
		starts, rates := []int{}, []int{}
		for i := range n {
			starts, rates = append(starts, 7*i), append(rates, i-3)
		}
		h := made(t, starts, rates, 5)
		h.shows(starts...)
		h.time(0)
		h.under()
	}
	for _, n := range []int{0, api.MaxNodes + 1, api.MaxNodes + 2, 100} {
		wantNone(t, make([]int, n), make([]int, n), 5, api.ErrRange)
	}
	wantNone(t, nil, nil, 0, api.ErrRange)
}

// TestNewPpm: of 0, of MaxPpm, and beyond.
func TestNewPpm(t *testing.T) {
	for _, ppm := range []int{0, 1, 500, api.MaxPpm - 1, api.MaxPpm} {
		made(t, []int{5}, []int{0}, ppm).shows(5)
	}
	for _, ppm := range []int{-1, -2, -api.MaxPpm, api.MaxPpm + 1, million, math.MinInt, math.MaxInt, 1 << 32} {
		wantNone(t, []int{5}, []int{0}, ppm, api.ErrRange)
	}
}

// TestNewStart: of 0, of 1000000, and beyond, of each clock.
func TestNewStart(t *testing.T) {
	for i := range 3 {
		for _, start := range []int{0, 1, million - 1, million} {
			starts := []int{4, 5, 6}
			starts[i] = start
			made(t, starts, make([]int, 3), 0).shows(starts...)
		}
		for _, start := range []int{-1, -million, million + 1, last, math.MinInt, math.MaxInt, 1 << 32} {
			starts := []int{4, 5, 6}
			starts[i] = start
			wantNone(t, starts, make([]int, 3), 0, api.ErrRange)
		}
	}
}

// TestNewRate: of -ppm, of 0, of ppm, and beyond, of each clock.
func TestNewRate(t *testing.T) {
	for i := range 3 {
		for _, ppm := range []int{0, 1, 77, api.MaxPpm} {
			for _, rate := range []int{-ppm, 0, ppm} {
				rates := make([]int, 3)
				rates[i] = rate
				made(t, []int{4, 5, 6}, rates, ppm).shows(4, 5, 6)
			}
			for _, rate := range []int{-ppm - 1, ppm + 1, -api.MaxPpm - 1, api.MaxPpm + 1, -million, million, math.MinInt, math.MaxInt, 1 << 32} {
				rates := make([]int, 3)
				rates[i] = rate
				wantNone(t, []int{4, 5, 6}, rates, ppm, api.ErrRange)
			}
		}
	}
}

// TestNewFirst: which error is told, where several apply.
func TestNewFirst(t *testing.T) {
	for _, n := range []int{0, 1, 2, 4, 6, 7, 100} {
		wantNone(t, []int{1, 2, 3}, make([]int, n), 10, api.ErrShape)
		wantNone(t, []int{1, -2, 3}, make([]int, n), 10, api.ErrShape)
		wantNone(t, []int{1, 2, 3}, make([]int, n), -1, api.ErrRange)
		wantNone(t, []int{1, 2, 3}, make([]int, n), api.MaxPpm+1, api.ErrRange)
		wantNone(t, nil, make([]int, n), 10, api.ErrRange)
		wantNone(t, make([]int, 8), make([]int, n), 10, api.ErrRange)
	}
	wantNone(t, []int{1}, []int{11, 0}, 10, api.ErrShape)
	wantNone(t, []int{1, 2}, []int{11}, 10, api.ErrShape)
	wantNone(t, []int{1}, nil, 10, api.ErrShape)
}

// TestShows: by hand, at shares that are whole numbers, and that are none: those are rounded down, of rates below 0 too.
func TestShows(t *testing.T) {
	for _, c := range []struct{ start, rate, time, want int }{
		{0, 0, 0, 0}, {7, 0, 0, 7}, {7, 1000, 0, 7}, {7, -1000, 0, 7},
		{7, 0, 1, 8}, {7, 1000, 1, 8}, {7, 1, 1, 8},
		{7, -1000, 1, 7}, {7, -1, 1, 7}, {0, -1, 1, 0}, {0, -1000, 2, 1},
		{0, 1000, 999, 999}, {0, 1000, 1000, 1001}, {0, 1000, 1001, 1002}, {0, 1000, 1999, 2000}, {0, 1000, 2000, 2002},
		{0, -1000, 999, 998}, {0, -1000, 1000, 999}, {0, -1000, 1001, 999}, {0, -1000, 2000, 1998}, {0, -1000, 2001, 1998},
		{5, 1, million - 1, million + 4}, {5, 1, million, million + 6}, {5, 1, million + 1, million + 7},
		{5, -1, million - 1, million + 3}, {5, -1, million, million + 4}, {5, -1, million + 1, million + 4},
		{40, -92, 27, 66}, {735_963, 579, 526_114, 1_262_381},
		{million, 1000, last, last + 2*million}, {0, -1000, last, last - million}, {million, 0, last, last + million},
		{0, -999, last - 1, last - 1 - 999_000}, {0, 999, last - 1, last - 1 + 998_999},
	} {
		h := made(t, []int{3, c.start}, []int{0, c.rate}, api.MaxPpm)
		h.goesTo(c.time)
		h.shows(3+c.time, c.want)
	}
}

// TestManySteps: however many steps lead there, it is all the time that passed that counts, rounded down once.
func TestManySteps(t *testing.T) {
	h := made(t, []int{0, 0, 0}, []int{1, -1000, 1000}, 1000)
	for n := 1; n <= 5000; n++ {
		h.goes(1)
		h.shows(n, n-(n+999)/1000, n+n/1000)
	}
	h.goes(0)
	h.shows(5000, 4995, 5005)
}

// TestNeverBack: a clock goes on with the time, and none by more than its rate lets it.
func TestNeverBack(t *testing.T) {
	r := rand.New(rand.NewSource(141))
	for range 200 {
		starts, rates := []int{r.Intn(million + 1)}, []int{r.Intn(2001) - 1000}
		h := made(t, starts, rates, api.MaxPpm)
		ahead := starts[0]
		for range 50 {
			by := r.Intn(1 + []int{2, 2000, million}[r.Intn(3)])
			h.goes(by)
			now, _ := h.w.Read(0)
			if more := now - ahead; more < 0 || more < by*999/1000-1 || more > by*1001/1000+1 {
				t.Fatalf("start %d, rate %d: by %d goes %d", starts[0], rates[0], by, more)
			}
			ahead = now
		}
	}
}

// TestGo: by nothing, by 1, by 1000000, and by one more; at the last time by nothing alone.
func TestGo(t *testing.T) {
	h := three(t)
	h.goes(0)
	h.time(0)
	h.goes(1)
	h.time(1)
	h.goes(million)
	h.time(million + 1)
	for _, by := range []int{-1, -million, million + 1, 2 * million, last, math.MinInt, math.MaxInt, math.MaxInt - million, 1 << 32} {
		h.does(api.Go, by, 0, api.ErrRange)
		h.time(million + 1)
	}
	h.goesTo(last - 5)
	for _, by := range []int{6, 7, million, million + 1, -1, math.MaxInt} {
		h.does(api.Go, by, 0, api.ErrRange)
		h.time(last - 5)
	}
	h.shows(last+100-5+999_999, last+200-5-million, last+300-5)
	h.goes(5)
	h.time(last)
	for _, by := range []int{1, 2, million, million + 1, -1} {
		h.does(api.Go, by, 0, api.ErrRange)
		h.time(last)
	}
	h.goes(0)
	h.time(last)
	h.shows(last+100+million, last+200-million, last+300)
	h.under()
}

// TestGoesIfB: what an act does not name does not count.
func TestGoesIfB(t *testing.T) {
	for _, b := range []int{-1, 7, math.MinInt, math.MaxInt} {
		h := three(t)
		h.does(api.Go, 5, b, api.OK)
		h.asks(0, 2)
		if l, err := h.w.Do(act(api.Repeat, 0, b)); err != nil || l == nil || *l != asked(0, 2, 105) {
			t.Errorf("Repeat with B %d: got %v, %v", b, l, plain.Told(err))
		}
		h.does(api.Lose, 0, b, api.OK)
		h.asks(1, 2)
		if l, err := h.w.Do(act(api.Deliver, 0, b)); err != nil || l == nil || *l != asked(1, 2, 204) {
			t.Errorf("Deliver with B %d: got %v, %v", b, l, plain.Told(err))
		}
		h.under()
	}
}

// TestNoAct: What is none, whatever stands beside it.
func TestNoAct(t *testing.T) {
	h := three(t)
	h.asks(0, 1)
	for _, what := range []int{0, -1, -2, -5, api.Repeat + 1, 7, 100, math.MinInt, math.MaxInt, 1 << 32, 1<<32 + 1} {
		for _, a := range []int{0, 1, -1, 99, math.MaxInt} {
			h.does(what, a, 1, api.ErrRange)
			h.does(what, a, a, api.ErrRange)
		}
	}
	h.under(asked(0, 1, 100))
	h.time(0)
	h.shows(100, 200, 300)
}

// TestAsk: a Letter has what the sender's clock shows when it is sent, whatever passes then; it stands behind all.
func TestAsk(t *testing.T) {
	h := three(t)
	h.asks(0, 1)
	h.goes(1)
	h.asks(1, 0)
	h.goes(1999)
	h.asks(2, 0)
	h.asks(0, 2)
	h.asks(0, 2)
	h.goes(500)
	h.under(asked(0, 1, 100), asked(1, 0, 200), asked(2, 0, 2300), asked(0, 2, 2102), asked(0, 2, 2102))
	h.time(2500)
}

// TestAskWrong: a clock that there is not, ahead of a Letter to oneself, ahead of too many.
func TestAskWrong(t *testing.T) {
	h := three(t)
	for n := 0; ; n++ {
		for _, none := range []int{-1, 3, 4, api.MaxNodes, math.MinInt, math.MaxInt, 1 << 32} {
			h.does(api.Ask, none, 0, api.ErrRange)
			h.does(api.Ask, 0, none, api.ErrRange)
			h.does(api.Ask, none, none, api.ErrRange)
		}
		for i := range 3 {
			h.does(api.Ask, i, i, api.ErrShape)
		}
		if n == api.MaxUnder {
			break
		}
		h.asks(1, 2)
	}
	h.does(api.Ask, 1, 2, api.ErrFull)
	if got := len(h.w.Under()); got != api.MaxUnder {
		t.Errorf("%d are under way", got)
	}
	one := made(t, []int{9}, []int{0}, 0)
	one.does(api.Ask, 0, 0, api.ErrShape)
	one.does(api.Ask, 0, 1, api.ErrRange)
	one.does(api.Ask, 1, 0, api.ErrRange)
	one.does(api.Ask, 1, 1, api.ErrRange)
	one.under()
}

// five Letters under way, each told from the others by when it was sent.
func five(t *testing.T) (hand, []api.Letter) {
	t.Helper()
	h := three(t)
	all := []api.Letter{}
	for i := range 5 {
		h.asks(2, i%2)
		all = append(all, asked(2, i%2, 300+i))
		h.goes(1)
	}
	h.under(all...)
	return h, all
}

// TestDeliver: the first, the last, and those between; what stands behind it moves on by one.
func TestDeliver(t *testing.T) {
	for i := range 5 {
		for _, what := range []int{api.Deliver, api.Lose} {
			h, all := five(t)
			left := slices.Concat(all[:i], all[i+1:])
			if what == api.Deliver {
				h.comes(what, i, all[i])
			} else {
				h.does(what, i, 0, api.OK)
			}
			h.under(left...)
			h.does(what, 4, 0, api.ErrNone)
			h.under(left...)
			for _, l := range left {
				h.comes(api.Deliver, 0, l)
			}
			h.under()
			h.does(what, 0, 0, api.ErrNone)
			h.time(5)
			h.shows(105, 204, 305)
		}
	}
}

// TestRepeat: a Letter comes twice, and more often, and still stays where it is.
func TestRepeat(t *testing.T) {
	for i := range 5 {
		h, all := five(t)
		for range 3 {
			h.comes(api.Repeat, i, all[i])
			h.under(all...)
			h.goes(7)
		}
		h.comes(api.Deliver, i, all[i])
		h.under(slices.Concat(all[:i], all[i+1:])...)
		h.time(26)
	}
}

// TestNoLetter: just behind the last one, and further; when none is under way at all too.
func TestNoLetter(t *testing.T) {
	h, all := five(t)
	for n := 5; n >= 0; n-- {
		for _, what := range []int{api.Deliver, api.Lose, api.Repeat} {
			for _, i := range []int{n, n + 1, api.MaxUnder, -1, -2, -n, math.MinInt, math.MaxInt, 1 << 32, -1 << 32} {
				if i < 0 || i >= n {
					h.does(what, i, 0, api.ErrNone)
				}
			}
		}
		h.under(all[:n]...)
		if n > 0 {
			h.comes(api.Deliver, n-1, all[n-1])
		}
	}
	fresh := three(t)
	for _, what := range []int{api.Deliver, api.Lose, api.Repeat} {
		fresh.does(what, 0, 0, api.ErrNone)
		fresh.does(what, -1, 0, api.ErrNone)
	}
}

// TestAnswer: what comes there, and back, while time goes on.
func TestAnswer(t *testing.T) {
	h := three(t)
	h.goes(1000)
	h.asks(0, 1)
	probe := asked(0, 1, 1101)
	h.goes(1000)
	h.comes(api.Deliver, 0, probe)
	h.under()
	h.answers(probe, api.OK)
	reply := answered(1, 0, 1101, 2198)
	h.under(reply)
	h.goes(3000)
	h.under(reply)
	h.comes(api.Repeat, 0, reply)
	h.answers(reply, api.ErrShape)
	h.under(reply)
	h.comes(api.Deliver, 0, reply)
	h.answers(reply, api.ErrShape)
	h.under()
}

// TestAnswerTwice: a Letter that comes twice is answered twice, each time by what the clock shows then; an answer stands behind all.
func TestAnswerTwice(t *testing.T) {
	h := three(t)
	h.asks(1, 2)
	h.asks(0, 2)
	probe := asked(1, 2, 200)
	h.goes(10)
	h.comes(api.Repeat, 0, probe)
	h.answers(probe, api.OK)
	h.goes(10)
	h.comes(api.Deliver, 0, probe)
	h.answers(probe, api.OK)
	h.under(asked(0, 2, 100), answered(2, 1, 200, 310), answered(2, 1, 200, 320))
}

// TestAnswerAny: what is answered is what is handed in: all that counts of it is From, To and T.
func TestAnswerAny(t *testing.T) {
	h := three(t)
	h.goes(5)
	for i, at := range []int{0, -1, 7, math.MinInt, math.MaxInt} {
		h.answers(api.Letter{From: 0, To: 1, T1: 44, T2: 55, T: at}, api.OK)
		if got := h.w.Under()[i]; got != answered(1, 0, at, 204) {
			t.Errorf("answer to one of %d: got %v", at, got)
		}
	}
	// No words forbid to answer what one wrote to oneself.
	self := three(t)
	self.answers(asked(2, 2, 17), api.OK)
	self.under(answered(2, 2, 17, 300))
}

// TestAnswerWrong: an Answer, ahead of clocks that there are not, ahead of too many.
func TestAnswerWrong(t *testing.T) {
	h := three(t)
	probe := asked(0, 1, 50)
	none := []int{-1, 3, 4, api.MaxNodes, math.MinInt, math.MaxInt, 1 << 32}
	for n := 0; ; n++ {
		for _, i := range none {
			h.answers(asked(i, 0, 50), api.ErrRange)
			h.answers(asked(0, i, 50), api.ErrRange)
			h.answers(asked(i, i, 50), api.ErrRange)
			h.answers(answered(i, 0, 50, 60), api.ErrShape)
			h.answers(answered(0, i, 50, 60), api.ErrShape)
		}
		h.answers(answered(0, 1, 50, 60), api.ErrShape)
		h.answers(answered(1, 1, 50, 60), api.ErrShape)
		h.answers(api.Letter{Answer: true}, api.ErrShape)
		if n == api.MaxUnder {
			break
		}
		h.answers(probe, api.OK)
	}
	h.answers(probe, api.ErrFull)
	for _, l := range h.w.Under() {
		if l != answered(1, 0, 50, 200) {
			t.Errorf("under way is %v", l)
		}
	}
}

// TestFull: just MaxUnder are under way, by Ask, by Answer and by both; one that goes makes room for one.
func TestFull(t *testing.T) {
	probe := asked(2, 0, 300)
	for _, asks := range []int{0, 1, 20, api.MaxUnder - 1, api.MaxUnder} {
		h := three(t)
		all := []api.Letter{}
		for i := range api.MaxUnder {
			if i < asks {
				h.asks(0, 1)
				all = append(all, asked(0, 1, 100))
			} else {
				h.answers(probe, api.OK)
				all = append(all, answered(0, 2, 300, 100))
			}
		}
		wantFull(h, all)
		h.comes(api.Repeat, api.MaxUnder-1, all[api.MaxUnder-1])
		wantFull(h, all)
		h.comes(api.Deliver, api.MaxUnder-1, all[api.MaxUnder-1])
		h.asks(1, 0)
		all[api.MaxUnder-1] = asked(1, 0, 200)
		wantFull(h, all)
		h.does(api.Lose, 0, 0, api.OK)
		h.answers(probe, api.OK)
		wantFull(h, append(all[1:], answered(0, 2, 300, 100)))
	}
}

// wantFull: that no Letter more goes on its way, and that nothing comes of it.
func wantFull(h hand, all []api.Letter) {
	h.t.Helper()
	for range 2 {
		h.does(api.Ask, 0, 1, api.ErrFull)
		h.answers(asked(0, 1, 5), api.ErrFull)
		h.does(api.Deliver, api.MaxUnder, 0, api.ErrNone)
		h.under(all...)
		h.time(0)
		h.shows(100, 200, 300)
	}
}

// TestOwn: neither the lists that New was given nor anything that was told leads into the World.
func TestOwn(t *testing.T) {
	starts, rates := []int{100, 200, 300, -7}[:3], []int{1000, -1000, 0, 7777}[:3]
	h := made(t, starts, rates, 1000)
	if !slices.Equal(starts[:4], []int{100, 200, 300, -7}) || !slices.Equal(rates[:4], []int{1000, -1000, 0, 7777}) {
		t.Errorf("New wrote into %v, %v", starts[:4], rates[:4])
	}
	for i := range starts {
		starts[i], rates[i] = 1, 1
	}
	h.goes(1000)
	h.shows(1101, 1199, 1300)

	h.asks(0, 1)
	h.asks(1, 2)
	one, two := asked(0, 1, 1101), asked(1, 2, 1199)
	got := h.w.Under()
	kept := h.w.Under()
	got[0], got[1] = api.Letter{}, api.Letter{}
	_ = append(got[:0], api.Letter{From: 9}, api.Letter{From: 9}, api.Letter{From: 9})
	h.under(one, two)
	if !slices.Equal(kept, []api.Letter{one, two}) {
		t.Errorf("another list was written into: %v", kept)
	}
	first, _ := h.w.Do(act(api.Repeat, 0, 0))
	again, _ := h.w.Do(act(api.Repeat, 0, 0))
	if first == nil || again == nil || first == again {
		t.Fatalf("Repeat tells one Letter twice: %v, %v", first, again)
	}
	first.T, first.To = 5, 5
	h.under(one, two)
	if *again != one {
		t.Errorf("another Letter was written into: %v", *again)
	}
	came, _ := h.w.Do(act(api.Deliver, 0, 0))
	h.asks(2, 0)
	h.asks(2, 1)
	if came == nil || *came != one {
		t.Errorf("what came was written into: %v", came)
	}
	if !slices.Equal(kept, []api.Letter{one, two}) {
		t.Errorf("what was told was written into: %v", kept)
	}
	h.under(two, asked(2, 0, 1300), asked(2, 1, 1300))
}

// TestTwoWorlds: nothing of one is seen in the other.
func TestTwoWorlds(t *testing.T) {
	starts, rates := []int{1, 2}, []int{0, 0}
	a, b := made(t, starts, rates, 0), made(t, starts, rates, 0)
	a.goes(10)
	a.asks(0, 1)
	b.time(0)
	b.shows(1, 2)
	b.under()
	b.asks(1, 0)
	a.under(asked(0, 1, 11))
	b.under(asked(1, 0, 2))
}

// model is a World told anew: clocks by whole numbers of any size, Letters with a mark on those that are gone.
type model struct {
	starts, rates []int
	time          int
	all           []api.Letter
	gone          []bool
}

func (m *model) shown(i int) int {
	share := new(big.Int).Mul(big.NewInt(int64(m.time)), big.NewInt(int64(m.rates[i])))
	// Div rounds down where what is divided by is above 0.
	share.Div(share, big.NewInt(million))
	return m.starts[i] + m.time + int(share.Int64())
}

func (m *model) places() (l []int) {
	for i, gone := range m.gone {
		if !gone {
			l = append(l, i)
		}
	}
	return l
}

func (m *model) under() (l []api.Letter) {
	for _, i := range m.places() {
		l = append(l, m.all[i])
	}
	return l
}

func (m *model) send(l api.Letter) api.Errno {
	if len(m.places()) == api.MaxUnder {
		return api.ErrFull
	}
	m.all, m.gone = append(m.all, l), append(m.gone, false)
	return api.OK
}

func (m *model) do(a api.Act) (*api.Letter, api.Errno) {
	n := len(m.starts)
	switch a.What {
	case api.Go:
		if a.A < 0 || a.A > million || m.time > last-a.A {
			return nil, api.ErrRange
		}
		m.time += a.A
		return nil, api.OK
	case api.Ask:
		if min(a.A, a.B) < 0 || max(a.A, a.B) >= n {
			return nil, api.ErrRange
		}
		if a.A == a.B {
			return nil, api.ErrShape
		}
		return nil, m.send(asked(a.A, a.B, m.shown(a.A)))
	case api.Deliver, api.Lose, api.Repeat:
		places := m.places()
		if a.A < 0 || a.A >= len(places) {
			return nil, api.ErrNone
		}
		place := places[a.A]
		m.gone[place] = a.What != api.Repeat
		if a.What == api.Lose {
			return nil, api.OK
		}
		return &m.all[place], api.OK
	}
	return nil, api.ErrRange
}

func (m *model) answer(l api.Letter) api.Errno {
	if l.Answer {
		return api.ErrShape
	}
	if min(l.From, l.To) < 0 || max(l.From, l.To) >= len(m.starts) {
		return api.ErrRange
	}
	return m.send(answered(l.To, l.From, l.T, m.shown(l.To)))
}

// TestAsModel: long rows of acts, wrong ones among them, and of answers.
func TestAsModel(t *testing.T) {
	r := rand.New(rand.NewSource(142))
	seen := map[api.Errno]int{}
	for round := range 150 {
		ppm := []int{0, 1, 100, 802, 1000}[r.Intn(5)]
		m := &model{}
		for range 1 + r.Intn(api.MaxNodes) {
			m.starts = append(m.starts, r.Intn(million+1))
			m.rates = append(m.rates, r.Intn(2*ppm+1)-ppm)
		}
		h := made(t, m.starts, m.rates, ppm)
		busy := r.Intn(3)
		for range 300 {
			a := anyAct(r, len(m.starts), busy)
			want, errno := m.do(a)
			got, err := h.w.Do(a)
			seen[errno]++
			if plain.Told(err) != errno || (got == nil) != (want == nil) || (want != nil && *got != *want) {
				t.Fatalf("round %d: Do(%v): got %v, %v; want %v, %v", round, a, got, plain.Told(err), want, errno)
			}
			if want != nil && r.Intn(5) > 0 {
				l := *want
				errno := m.answer(l)
				seen[errno]++
				h.answers(l, errno)
			}
			h.under(m.under()...)
			h.time(m.time)
			shown := []int{}
			for i := range m.starts {
				shown = append(shown, m.shown(i))
			}
			h.shows(shown...)
			if t.Failed() {
				t.FailNow()
			}
		}
	}
	for _, errno := range []api.Errno{api.OK, api.ErrRange, api.ErrShape, api.ErrFull, api.ErrNone} {
		if seen[errno] < 50 {
			t.Errorf("%v was told %d times alone", errno, seen[errno])
		}
	}
}

// anyAct: mostly one that may be; in a busy World more Letters are sent than come.
func anyAct(r *rand.Rand, n, busy int) api.Act {
	what := 1 + r.Intn(5)
	if r.Intn(4) < busy {
		what = api.Ask
	}
	switch what {
	case api.Go:
		return act(what, r.Intn([]int{3, 3000, million + 1, million + 50_000}[r.Intn(4)]), r.Intn(3))
	case api.Ask:
		return act(what, r.Intn(n+1), r.Intn(n+2)-1)
	}
	if r.Intn(30) == 0 {
		what = r.Intn(10) - 2
	}
	return act(what, r.Intn([]int{1, 3, 10, 45}[r.Intn(4)])-r.Intn(2)*r.Intn(2), 0)
}
