package leap_test

import (
	"fmt"
	"math"
	"regexp"
	"slices"
	"strings"
	"testing"
	"time"

	"noonmark/api"
	"noonmark/civil"
	"noonmark/leap"
	"noonmark/plain"
)

const (
	lastDay = 84005
	days    = lastDay + 1
)

func label(year, month, day, h, m, s int) api.Label {
	return api.Label{Date: api.Date{Year: year, Month: month, Day: day}, H: h, M: m, S: s}
}

func up(day int) api.Leap   { return api.Leap{Day: day, Up: true} }
func down(day int) api.Leap { return api.Leap{Day: day} }

// row of n leaps, as near to each other as may be, up where the bit is set.
func row(first, n int, bits uint) (l []api.Leap) {
	for i := range n {
		l = append(l, api.Leap{Day: first + 2*i, Up: bits>>i&1 == 1})
	}
	return l
}

func wantUtc(t *testing.T, l []api.Leap, n int, want api.Label, errno api.Errno) {
	t.Helper()
	got, err := leap.Utc(l, n)
	if got != want || plain.Told(err) != errno {
		t.Errorf("Utc(%v, %d): got %v, %v; want %v, %v", l, n, got, plain.Told(err), want, errno)
	}
}

func wantTai(t *testing.T, l []api.Leap, x api.Label, want int, errno api.Errno) {
	t.Helper()
	got, err := leap.Tai(l, x)
	if got != want || plain.Told(err) != errno {
		t.Errorf("Tai(%v, %v): got %d, %v; want %d, %v", l, x, got, plain.Told(err), want, errno)
	}
}

func wantAhead(t *testing.T, l []api.Leap, n, want int, errno api.Errno) {
	t.Helper()
	got, err := leap.Ahead(l, n)
	if got != want || plain.Told(err) != errno {
		t.Errorf("Ahead(%v, %d): got %d, %v; want %d, %v", l, n, got, plain.Told(err), want, errno)
	}
}

func wantSmear(t *testing.T, l []api.Leap, n, want int, errno api.Errno) {
	t.Helper()
	got, err := leap.Smear(l, n)
	if got != want || plain.Told(err) != errno {
		t.Errorf("Smear(%v, %d): got %d, %v; want %d, %v", l, n, got, plain.Told(err), want, errno)
	}
}

// wantSecond: of a second that there is, all that is told of it.
func wantSecond(t *testing.T, l []api.Leap, n int, x api.Label, ahead, smear int) {
	t.Helper()
	wantUtc(t, l, n, x, api.OK)
	wantTai(t, l, x, n, api.OK)
	wantAhead(t, l, n, ahead, api.OK)
	wantSmear(t, l, n, smear, api.OK)
}

// wantNoSecond: of a number that is none, or leaps that are none, all tell it, and nothing beside it.
func wantNoSecond(t *testing.T, l []api.Leap, n int, errno api.Errno) {
	t.Helper()
	wantUtc(t, l, n, api.Label{}, errno)
	wantAhead(t, l, n, 0, errno)
	wantSmear(t, l, n, 0, errno)
}

func wantPrint(t *testing.T, x api.Label, want string, errno api.Errno) {
	t.Helper()
	got, err := leap.Print(x)
	if got != want || plain.Told(err) != errno {
		t.Errorf("Print(%v): got %q, %v; want %q, %v", x, got, plain.Told(err), want, errno)
	}
}

func wantParse(t *testing.T, text string, want api.Label, errno api.Errno) {
	t.Helper()
	got, err := leap.Parse(text)
	if got != want || plain.Told(err) != errno {
		t.Errorf("Parse(%q): got %v, %v; want %v, %v", text, got, plain.Told(err), want, errno)
	}
}

func TestNoLeaps(t *testing.T) {
	for _, l := range [][]api.Leap{nil, {}} {
		wantSecond(t, l, 0, label(1970, 1, 1, 0, 0, 0), 0, 0)
		wantSecond(t, l, 1, label(1970, 1, 1, 0, 0, 1), 0, 1000)
		wantSecond(t, l, 59, label(1970, 1, 1, 0, 0, 59), 0, 59000)
		wantSecond(t, l, 60, label(1970, 1, 1, 0, 1, 0), 0, 60000)
		wantSecond(t, l, 3599, label(1970, 1, 1, 0, 59, 59), 0, 3599000)
		wantSecond(t, l, 3600, label(1970, 1, 1, 1, 0, 0), 0, 3600000)
		wantSecond(t, l, 86399, label(1970, 1, 1, 23, 59, 59), 0, 86399000)
		wantSecond(t, l, 86400, label(1970, 1, 2, 0, 0, 0), 0, 86400000)
		wantSecond(t, l, 1_000_000_000, label(2001, 9, 9, 1, 46, 40), 0, 1_000_000_000_000)
		wantSecond(t, l, 86400*days-1, label(2199, 12, 31, 23, 59, 59), 0, 1000*(86400*days-1))
		wantNoSecond(t, l, -1, api.ErrRange)
		wantNoSecond(t, l, 86400*days, api.ErrRange)
	}
}

// TestAsTime holds seconds to a calendar that is not of this project.
func TestAsTime(t *testing.T) {
	for n := 0; n < 86400*days; n += 99_991 {
		at := time.Unix(int64(n), 0).UTC()
		wantSecond(t, nil, n, label(at.Year(), int(at.Month()), at.Day(), at.Hour(), at.Minute(), at.Second()), 0, 1000*n)
	}
}

func TestSecondMore(t *testing.T) {
	l := []api.Leap{up(1)}
	wantSecond(t, l, 129599, label(1970, 1, 2, 11, 59, 59), 0, 129599000)
	wantSecond(t, l, 129600, label(1970, 1, 2, 12, 0, 0), 0, 129600000)
	wantSecond(t, l, 129601, label(1970, 1, 2, 12, 0, 1), 0, 129600999)
	wantSecond(t, l, 172798, label(1970, 1, 2, 23, 59, 58), 0, 172797500)
	wantSecond(t, l, 172799, label(1970, 1, 2, 23, 59, 59), 0, 172798500)
	wantSecond(t, l, 172800, label(1970, 1, 2, 23, 59, 60), 0, 172799500)
	wantSecond(t, l, 172801, label(1970, 1, 3, 0, 0, 0), 1, 172800499)
	wantSecond(t, l, 216000, label(1970, 1, 3, 11, 59, 59), 1, 215999000)
	wantSecond(t, l, 216001, label(1970, 1, 3, 12, 0, 0), 1, 216000000)
	wantSecond(t, l, 216002, label(1970, 1, 3, 12, 0, 1), 1, 216001000)
	wantTai(t, l, label(1970, 1, 1, 23, 59, 60), 0, api.ErrNone)
	wantTai(t, l, label(1970, 1, 3, 23, 59, 60), 0, api.ErrNone)
	wantTai(t, l, label(1970, 1, 2, 23, 58, 60), 0, api.ErrNone)
	wantTai(t, l, label(1970, 1, 2, 22, 59, 60), 0, api.ErrNone)
	wantTai(t, l, label(1970, 1, 2, 0, 0, 60), 0, api.ErrNone)
}

func TestSecondLess(t *testing.T) {
	l := []api.Leap{down(1)}
	wantSecond(t, l, 129600, label(1970, 1, 2, 12, 0, 0), 0, 129600000)
	wantSecond(t, l, 129601, label(1970, 1, 2, 12, 0, 1), 0, 129601000)
	wantSecond(t, l, 172797, label(1970, 1, 2, 23, 59, 57), 0, 172797499)
	wantSecond(t, l, 172798, label(1970, 1, 2, 23, 59, 58), 0, 172798499)
	wantSecond(t, l, 172799, label(1970, 1, 3, 0, 0, 0), -1, 172799499)
	wantSecond(t, l, 215998, label(1970, 1, 3, 11, 59, 59), -1, 215998999)
	wantSecond(t, l, 215999, label(1970, 1, 3, 12, 0, 0), -1, 216000000)
	wantSecond(t, l, 216000, label(1970, 1, 3, 12, 0, 1), -1, 216001000)
	wantTai(t, l, label(1970, 1, 2, 23, 59, 59), 0, api.ErrNone)
	wantTai(t, l, label(1970, 1, 2, 23, 59, 60), 0, api.ErrNone)
	wantTai(t, l, label(1970, 1, 2, 22, 59, 59), 172799-3600, api.OK)
	wantTai(t, l, label(1970, 1, 2, 23, 58, 59), 172799-60, api.OK)
	wantTai(t, l, label(1970, 1, 1, 23, 59, 59), 86399, api.OK)
}

// second is what is to be told of one, by tick's count.
type second struct {
	n            int
	x            api.Label
	ahead, smear int
}

// tick goes through the seconds of some days one by one, minute by minute, in the document's words; all leaps are behind the first day.
func tick(l []api.Leap, first, last int, do func(second)) {
	n, ahead, noon, base, left, long := 86400*first, 0, 0, 0, 0, 0
	for number := first; number <= last; number++ {
		year, month, day := time.Unix(int64(number)*86400, 0).UTC().Date()
		i := slices.IndexFunc(l, func(e api.Leap) bool { return e.Day == number })
		for m := range 24 * 60 {
			seconds := 60
			if i >= 0 && m == 24*60-1 {
				seconds = map[bool]int{true: 61, false: 59}[l[i].Up]
			}
			for s := range seconds {
				if i >= 0 && m == 12*60 && s == 0 {
					noon, base = n, 1000*(n-ahead)
					long = map[bool]int{true: 86401, false: 86399}[l[i].Up]
					left = long
				}
				smear := 1000 * (n - ahead)
				if left > 0 {
					smear = base + 86400000*(n-noon)/long
					left--
				}
				do(second{n, label(year, int(month), day, m/60, m%60, s), ahead, smear})
				n++
			}
		}
		if i >= 0 {
			ahead += map[bool]int{true: 1, false: -1}[l[i].Up]
		}
	}
}

// isEdge: of a day, what is near its ends or near noon.
func isEdge(x api.Label) bool {
	switch {
	case x.H == 23 && x.M == 59:
		return x.S >= 55
	case x.H == 11 && x.M == 59:
		return x.S >= 56
	case x.H == 0 && x.M == 0, x.H == 12 && x.M == 0:
		return x.S <= 4
	}
	return false
}

// TestTicks: each edge of each day, and seconds between them, of leaps of all kinds.
func TestTicks(t *testing.T) {
	for _, c := range []struct {
		l           []api.Leap
		first, last int
	}{
		{nil, 0, 3},
		{[]api.Leap{up(1)}, 0, 4},
		{[]api.Leap{down(1)}, 0, 4},
		{[]api.Leap{up(1), up(3)}, 0, 5},
		{[]api.Leap{up(1), down(3)}, 0, 5},
		{[]api.Leap{down(1), up(3)}, 0, 5},
		{[]api.Leap{down(1), down(3)}, 0, 5},
		{[]api.Leap{up(5), down(8), up(12), up(14)}, 3, 17},
		{row(1, api.MaxLeaps, 0xfffff), 0, 42},
		{row(1, api.MaxLeaps, 0), 0, 42},
		{row(1, api.MaxLeaps, 0x5a96c), 0, 42},
		{row(lastDay-39, api.MaxLeaps, 0xfffff), lastDay - 41, lastDay},
		{row(lastDay-39, api.MaxLeaps, 0), lastDay - 41, lastDay},
		{row(lastDay-39, api.MaxLeaps, 0x31e57), lastDay - 41, lastDay},
		{[]api.Leap{up(788), down(790), up(800)}, 786, 803},
	} {
		end := 0
		tick(c.l, c.first, c.last, func(s second) {
			end = s.n + 1
			if isEdge(s.x) || s.n%4999 == 0 {
				wantSecond(t, c.l, s.n, s.x, s.ahead, s.smear)
			}
		})
		if c.last == lastDay {
			wantNoSecond(t, c.l, end, api.ErrRange)
		}
	}
}

// TestEachSecond: all of some days, so that no minute is passed over; and smeared time never goes back.
func TestEachSecond(t *testing.T) {
	l, before := []api.Leap{up(1), down(3)}, -1
	tick(l, 0, 4, func(s second) {
		wantSecond(t, l, s.n, s.x, s.ahead, s.smear)
		if s.smear <= before {
			t.Errorf("second %d: smeared %d is not behind %d", s.n, s.smear, before)
		}
		before = s.smear
	})
}

// TestWhichSeconds: of all labels in some hours, just those that are ticked have a number.
func TestWhichSeconds(t *testing.T) {
	l, there := []api.Leap{up(57), down(59), up(62)}, map[api.Label]int{}
	tick(l, 56, 63, func(s second) { there[s.x] = s.n })
	for number := 56; number <= 63; number++ {
		date, err := civil.Of(number)
		if err != nil {
			t.Fatal(err)
		}
		for _, h := range []int{0, 22, 23} {
			for m := range 60 {
				for s := range 61 {
					x := api.Label{Date: date, H: h, M: m, S: s}
					if n, ok := there[x]; ok {
						wantTai(t, l, x, n, api.OK)
					} else {
						wantTai(t, l, x, 0, api.ErrNone)
					}
				}
			}
		}
	}
}

// TestLastSeconds: with leaps, how many seconds there are is another number.
func TestLastSeconds(t *testing.T) {
	for _, c := range []struct {
		l    []api.Leap
		more int
	}{
		{nil, 0},
		{[]api.Leap{up(1)}, 1},
		{[]api.Leap{down(1)}, -1},
		{[]api.Leap{up(lastDay - 1)}, 1},
		{[]api.Leap{down(lastDay - 1)}, -1},
		{[]api.Leap{up(7), down(9)}, 0},
		{row(1, api.MaxLeaps, 0xfffff), api.MaxLeaps},
		{row(lastDay-39, api.MaxLeaps, 0), -api.MaxLeaps},
	} {
		end := 86400*days + c.more
		wantUtc(t, c.l, end-1, label(2199, 12, 31, 23, 59, 59), api.OK)
		wantTai(t, c.l, label(2199, 12, 31, 23, 59, 59), end-1, api.OK)
		wantTai(t, c.l, label(2199, 12, 31, 23, 59, 60), 0, api.ErrNone)
		wantAhead(t, c.l, end-1, c.more, api.OK)
		wantTai(t, c.l, label(1970, 1, 1, 0, 0, 0), 0, api.OK)
		wantUtc(t, c.l, 0, label(1970, 1, 1, 0, 0, 0), api.OK)
		for _, n := range []int{end, end + 1, -1, -86400, math.MinInt, math.MinInt + 1, math.MaxInt, 1 << 40, -1 << 40} {
			wantNoSecond(t, c.l, n, api.ErrRange)
		}
	}
}

func TestCheck(t *testing.T) {
	far := api.Leap{Day: 0}
	for _, c := range []struct {
		l    []api.Leap
		want api.Errno
	}{
		{nil, api.OK},
		{[]api.Leap{}, api.OK},
		{[]api.Leap{up(1)}, api.OK},
		{[]api.Leap{down(lastDay - 1)}, api.OK},
		{[]api.Leap{up(1), down(3)}, api.OK},
		{[]api.Leap{up(1), up(lastDay - 1)}, api.OK},
		{row(1, api.MaxLeaps, 0x2cafe), api.OK},
		{row(1, api.MaxLeaps+1, 0x2cafe), api.ErrFull},
		{make([]api.Leap, api.MaxLeaps+1), api.ErrFull},
		{make([]api.Leap, 1000), api.ErrFull},
		{make([]api.Leap, api.MaxLeaps), api.ErrRange},
		{[]api.Leap{up(0)}, api.ErrRange},
		{[]api.Leap{down(-1)}, api.ErrRange},
		{[]api.Leap{up(lastDay)}, api.ErrRange},
		{[]api.Leap{up(lastDay + 1)}, api.ErrRange},
		{[]api.Leap{up(math.MaxInt)}, api.ErrRange},
		{[]api.Leap{up(math.MinInt)}, api.ErrRange},
		{[]api.Leap{up(5), up(math.MaxInt)}, api.ErrRange},
		{[]api.Leap{up(math.MaxInt), up(math.MinInt)}, api.ErrRange},
		{[]api.Leap{up(5), up(5)}, api.ErrShape},
		{[]api.Leap{up(5), down(5)}, api.ErrShape},
		{[]api.Leap{up(5), up(6)}, api.ErrShape},
		{[]api.Leap{down(5), up(4)}, api.ErrShape},
		{[]api.Leap{down(5), up(3)}, api.ErrShape},
		{[]api.Leap{up(1), up(3), up(4)}, api.ErrShape},
		{[]api.Leap{up(lastDay - 2), up(lastDay - 1)}, api.ErrShape},
		// The first leap that has a fault is told of, and of it what is named first.
		{[]api.Leap{up(5), up(6), far}, api.ErrShape},
		{[]api.Leap{up(5), far, up(6)}, api.ErrRange},
		{[]api.Leap{far, up(5), up(6)}, api.ErrRange},
		{[]api.Leap{up(lastDay - 1), up(lastDay)}, api.ErrRange},
		{append(row(1, api.MaxLeaps-1, 0), up(38)), api.ErrShape},
		{append(row(1, api.MaxLeaps-1, 0), up(39)), api.OK},
	} {
		if got := plain.Told(leap.Check(c.l)); got != c.want {
			t.Errorf("Check(%v): got %v; want %v", c.l, got, c.want)
		}
		if c.want == api.OK {
			continue
		}
		// Leaps are asked ahead of seconds and labels, be these right or wrong.
		for _, n := range []int{0, 86400, -1, math.MaxInt} {
			wantNoSecond(t, c.l, n, c.want)
		}
		for _, x := range []api.Label{label(2024, 5, 7, 1, 2, 3), label(2024, 5, 7, 1, 2, 60), label(2024, 5, 7, 24, 0, 0), {}} {
			wantTai(t, c.l, x, 0, c.want)
		}
	}
}

func TestNoLabel(t *testing.T) {
	bad := []api.Label{
		{}, label(1969, 12, 31, 23, 59, 59), label(2200, 1, 1, 0, 0, 0), label(2024, 0, 7, 1, 2, 3), label(2024, 13, 7, 1, 2, 3),
		label(2024, 5, 0, 1, 2, 3), label(2024, 5, 32, 1, 2, 3), label(2023, 2, 29, 1, 2, 3), label(2100, 2, 29, 1, 2, 3),
		label(2024, 5, 7, 24, 0, 0), label(2024, 5, 7, 23, 60, 0), label(2024, 5, 7, 23, 59, 61),
		label(2024, 5, 7, -1, 2, 3), label(2024, 5, 7, 1, -1, 3), label(2024, 5, 7, 1, 2, -1),
		// What the numbers come to would be a second that there is.
		label(2024, 5, 7, 0, 60, 0), label(2024, 5, 7, 0, 0, 3600), label(2024, 5, 7, 1, -1, 0), label(2024, 5, 7, 24, -1, 0),
		// No such second either, but the range is named first.
		label(2024, 5, 7, 24, 0, 60), label(2024, 5, 7, 0, 60, 60), label(2024, 5, 32, 0, 0, 60),
	}
	for _, n := range []int{math.MinInt, math.MinInt + 1, -1 << 32, 1 << 32, math.MaxInt - 1, math.MaxInt} {
		bad = append(bad, label(n, 5, 7, 1, 2, 3), label(2024, n, 7, 1, 2, 3), label(2024, 5, n, 1, 2, 3),
			label(2024, 5, 7, n, 2, 3), label(2024, 5, 7, 1, n, 3), label(2024, 5, 7, 1, 2, n), label(n, n, n, n, n, n))
	}
	for _, x := range bad {
		wantPrint(t, x, "", api.ErrRange)
		for _, l := range [][]api.Leap{nil, {up(19850)}, row(1, api.MaxLeaps, 0)} {
			wantTai(t, l, x, 0, api.ErrRange)
		}
	}
}

// TestText: a second 60 may be written of any minute, as no leaps are asked.
func TestText(t *testing.T) {
	for _, c := range []struct {
		x    api.Label
		text string
	}{
		{label(1970, 1, 1, 0, 0, 0), "1970-01-01T00:00:00"},
		{label(2199, 12, 31, 23, 59, 59), "2199-12-31T23:59:59"},
		{label(2199, 12, 31, 23, 59, 60), "2199-12-31T23:59:60"},
		{label(2024, 5, 7, 1, 2, 3), "2024-05-07T01:02:03"},
		{label(2024, 5, 7, 12, 30, 60), "2024-05-07T12:30:60"},
		{label(2024, 11, 17, 9, 10, 0), "2024-11-17T09:10:00"},
		{label(2000, 2, 29, 10, 9, 10), "2000-02-29T10:09:10"},
	} {
		wantPrint(t, c.x, c.text, api.OK)
		wantParse(t, c.text, c.x, api.OK)
	}
}

// TestEachText: every second that a day's text may name, there and back.
func TestEachText(t *testing.T) {
	for h := range 24 {
		for m := range 60 {
			for s := range 61 {
				x, text := label(2024, 2, 29, h, m, s), fmt.Sprintf("2024-02-29T%02d:%02d:%02d", h, m, s)
				wantPrint(t, x, text, api.OK)
				wantParse(t, text, x, api.OK)
			}
		}
	}
	for number := range days {
		at := time.Unix(int64(number)*86400+int64(number), 0).UTC()
		x := label(at.Year(), int(at.Month()), at.Day(), at.Hour(), at.Minute(), at.Second())
		wantPrint(t, x, at.Format("2006-01-02T15:04:05"), api.OK)
		wantParse(t, at.Format("2006-01-02T15:04:05"), x, api.OK)
	}
}

// TestParseRange: texts of the form that are no label.
func TestParseRange(t *testing.T) {
	for _, text := range []string{
		"0000-00-00T00:00:00", "9999-99-99T99:99:99", "1969-12-31T23:59:59", "2200-01-01T00:00:00", "2024-00-07T01:02:03",
		"2024-13-07T01:02:03", "2024-05-00T01:02:03", "2024-05-32T01:02:03", "2023-02-29T01:02:03", "2024-05-07T24:00:00",
		"2024-05-07T23:60:00", "2024-05-07T23:59:61", "2024-05-07T99:02:03", "2024-05-07T01:99:03", "2024-05-07T01:02:99",
		"2024-05-07T24:00:60",
	} {
		wantParse(t, text, api.Label{}, api.ErrRange)
	}
}

func TestParseSyntax(t *testing.T) {
	for _, text := range []string{
		"", "T", "2024-05-07", "2024-05-07T", "T01:02:03", "01:02:03", "2024-05-07T01", "2024-05-07T01:02", "2024-05-07T01:02:",
		"2024-05-07T1:2:3", "2024-05-07T01:02:3", "2024-05-07T1:02:03", "2024-5-7T01:02:03", "02024-05-07T01:02:03",
		"2024-05-07t01:02:03", "2024-05-07 01:02:03", "2024-05-07T01:02:03Z", "2024-05-07T01:02:03.0", "2024-05-07T01:02:03\n",
		" 2024-05-07T01:02:03", "2024-05-07T01:02:03 ", "2024-05-07T010203", "20240507T01:02:03", "2024-05-07T01-02-03",
		"2024:05:07T01:02:03", "2024-05-07T+1:02:03", "2024-05-07T01:-2:03", "2024-05-07T01:02: 3", "2024-05-07T0x:02:03",
		"2024-05-07T01:02:0\xff", "2024-05-07T01:02:٣", "2024-05-07T01:02:03\x00", "0000-00-00X00:00:00", "YYYY-MM-DDTHH:MM:SS",
		// No label and not of the form: the form is told, as it is named first.
		"2024-13-07T01:02:3", "2024-13-07T01:02:0x", "1969-12-31T23:59:5", "2024-05-07T24:00:0", "2024-05-07T24:0x:00",
		strings.Repeat("2024-05-07T01:02:03", 2), strings.Repeat("0", 1<<16),
	} {
		wantParse(t, text, api.Label{}, api.ErrSyntax)
	}
}

// TestParseByteByByte: each byte of a text made each other byte, left out, and twice.
func TestParseByteByByte(t *testing.T) {
	for _, text := range []string{"2024-05-07T01:02:03", "1970-01-01T00:00:00", "2199-12-31T23:59:60", "2000-02-29T19:50:49"} {
		for i := range len(text) {
			wantParse(t, text[:i]+text[i+1:], api.Label{}, api.ErrSyntax)
			wantParse(t, text[:i+1]+text[i:], api.Label{}, api.ErrSyntax)
			for c := range 256 {
				wantAsModel(t, text[:i]+string([]byte{byte(c)})+text[i+1:])
			}
		}
	}
}

var form = regexp.MustCompile(`\A[0-9]{4}-[0-9]{2}-[0-9]{2}T[0-9]{2}:[0-9]{2}:[0-9]{2}\z`)

// wantAsModel holds Parse to what package time reads, which knows no second 60.
func wantAsModel(t *testing.T, text string) {
	t.Helper()
	if !form.MatchString(text) {
		wantParse(t, text, api.Label{}, api.ErrSyntax)
		return
	}
	s := 0
	if strings.HasSuffix(text, ":60") {
		s = 60
	}
	at, err := time.Parse("2006-01-02T15:04:05", strings.TrimSuffix(text, ":60")+map[bool]string{true: ":00"}[s == 60])
	if err != nil || at.Year() < api.FirstYear || at.Year() > api.LastYear {
		wantParse(t, text, api.Label{}, api.ErrRange)
		return
	}
	wantParse(t, text, label(at.Year(), int(at.Month()), at.Day(), at.Hour(), at.Minute(), at.Second()+s), api.OK)
}

// TestListsStay: leaps are read as far as they go, and stay as they are.
func TestListsStay(t *testing.T) {
	whole := append(row(1, 3, 5), up(2), down(math.MinInt), up(6))
	kept := slices.Clone(whole)
	l := whole[:3]
	if err := leap.Check(l); err != nil {
		t.Errorf("Check(%v): got %v; want nil", l, err)
	}
	tick(l, 0, 8, func(s second) {
		if isEdge(s.x) {
			wantSecond(t, l, s.n, s.x, s.ahead, s.smear)
		}
	})
	wantNoSecond(t, whole, 0, api.ErrShape)
	wantTai(t, whole, label(1970, 1, 1, 0, 0, 0), 0, api.ErrShape)
	if !slices.Equal(whole, kept) {
		t.Errorf("leaps were %v, and are %v", kept, whole)
	}
}
