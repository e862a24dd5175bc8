package span_test

import (
	"math"
	"strconv"
	"strings"
	"testing"

	"noonmark/api"
	"noonmark/plain"
	"noonmark/span"
)

const top = api.MaxTime

func sp(lo, hi int) api.Span { return api.Span{Lo: lo, Hi: hi} }

// edges are numbers at which bounds, or the machine's numbers, end.
var edges = []int{
	math.MinInt, math.MinInt + 1, -2*top - 1, -2 * top, -top - 1, -top, -top + 1,
	-1, 0, 1, top - 1, top, top + 1, 2 * top, 2*top + 1, math.MaxInt - 1, math.MaxInt,
}

func edgeSpans() (l []api.Span) {
	for _, lo := range edges {
		for _, hi := range edges {
			l = append(l, sp(lo, hi))
		}
	}
	return l
}

func smallSpans() (l []api.Span) {
	for lo := -4; lo <= 4; lo++ {
		for hi := lo; hi <= 4; hi++ {
			l = append(l, sp(lo, hi))
		}
	}
	return l
}

// least is the least span that has all numbers; false if there are none.
func least(numbers []int) (api.Span, bool) {
	if len(numbers) == 0 {
		return api.Span{}, false
	}
	s := sp(numbers[0], numbers[0])
	for _, n := range numbers {
		s.Lo, s.Hi = min(s.Lo, n), max(s.Hi, n)
	}
	return s, true
}

func numbersOf(s api.Span) (l []int) {
	for n := s.Lo; n <= s.Hi; n++ {
		l = append(l, n)
	}
	return l
}

func wantSpan(t *testing.T, what string, got api.Span, err error, want api.Span, errno api.Errno) {
	t.Helper()
	if got != want || plain.Told(err) != errno {
		t.Errorf("%s: got %v, %v; want %v, %v", what, got, plain.Told(err), want, errno)
	}
}

func wantBool(t *testing.T, what string, got bool, err error, want bool, errno api.Errno) {
	t.Helper()
	if got != want || plain.Told(err) != errno {
		t.Errorf("%s: got %v, %v; want %v, %v", what, got, plain.Told(err), want, errno)
	}
}

func TestCheck(t *testing.T) {
	for _, c := range []struct {
		s    api.Span
		want api.Errno
	}{
		{sp(0, 0), api.OK},
		{sp(-3, 8), api.OK},
		{sp(-top, top), api.OK},
		{sp(-top, -top), api.OK},
		{sp(top, top), api.OK},
		{sp(1, 0), api.ErrRange},
		{sp(top, -top), api.ErrRange},
		{sp(-top-1, 0), api.ErrRange},
		{sp(0, top+1), api.ErrRange},
		{sp(-top-1, -top-1), api.ErrRange},
		{sp(top+1, top+1), api.ErrRange},
		{sp(math.MinInt, math.MaxInt), api.ErrRange},
		{sp(math.MaxInt, math.MinInt), api.ErrRange},
	} {
		if got := plain.Told(span.Check(c.s)); got != c.want {
			t.Errorf("Check(%v): got %v, want %v", c.s, got, c.want)
		}
	}
}

// TestPairs holds the calls of two spans against the sets of their numbers.
func TestPairs(t *testing.T) {
	for _, a := range smallSpans() {
		for _, b := range smallSpans() {
			var both, sums []int
			ahead := true
			for _, n := range numbersOf(a) {
				for _, m := range numbersOf(b) {
					sums = append(sums, n+m)
					ahead = ahead && n < m
					if n == m {
						both = append(both, n)
					}
				}
			}
			checkMeet(t, a, b, both)
			hull, _ := least(append(numbersOf(a), numbersOf(b)...))
			got, err := span.Hull(a, b)
			wantSpan(t, "Hull", got, err, hull, api.OK)
			sum, _ := least(sums)
			got, err = span.Add(a, b)
			wantSpan(t, "Add", got, err, sum, api.OK)
			is, err := span.Before(a, b)
			wantBool(t, "Before", is, err, ahead, api.OK)
		}
	}
}

func checkMeet(t *testing.T, a, b api.Span, both []int) {
	t.Helper()
	want, any := least(both)
	errno := api.OK
	if !any {
		errno = api.ErrNone
	}
	got, err := span.Meet(a, b)
	wantSpan(t, "Meet", got, err, want, errno)
}

// TestSingles holds the calls of one span against the set of its numbers.
func TestSingles(t *testing.T) {
	for _, a := range smallSpans() {
		var turned []int
		for _, n := range numbersOf(a) {
			turned = append(turned, 0-n)
		}
		want, _ := least(turned)
		got, err := span.Turn(a)
		wantSpan(t, "Turn", got, err, want, api.OK)
		for n := range 6 {
			got, err = span.Widen(a, n)
			wantSpan(t, "Widen", got, err, sp(a.Lo-n, a.Hi+n), api.OK)
		}
		for n := -6; n <= 6; n++ {
			in := false
			for _, m := range numbersOf(a) {
				in = in || n == m
			}
			has, err := span.Has(a, n)
			wantBool(t, "Has", has, err, in, api.OK)
		}
	}
}

func TestMeetAndHullAtEdges(t *testing.T) {
	all := sp(-top, top)
	got, err := span.Meet(all, all)
	wantSpan(t, "Meet of all", got, err, all, api.OK)
	got, err = span.Meet(sp(-top, 0), sp(0, top))
	wantSpan(t, "Meet in one", got, err, sp(0, 0), api.OK)
	got, err = span.Meet(sp(-top, -1), sp(0, top))
	wantSpan(t, "Meet of neighbours", got, err, api.Span{}, api.ErrNone)
	got, err = span.Hull(sp(-top, -top), sp(top, top))
	wantSpan(t, "Hull of ends", got, err, all, api.OK)
	got, err = span.Hull(sp(top, top), sp(-top, -top))
	wantSpan(t, "Hull of ends, turned", got, err, all, api.OK)
}

func TestAddAtEdges(t *testing.T) {
	got, err := span.Add(sp(-top, top-1), sp(0, 1))
	wantSpan(t, "Add up to the top", got, err, sp(-top, top), api.OK)
	got, err = span.Add(sp(-top, top), sp(0, 1))
	wantSpan(t, "Add above", got, err, api.Span{}, api.ErrRange)
	got, err = span.Add(sp(-1, 0), sp(-top, top))
	wantSpan(t, "Add below", got, err, api.Span{}, api.ErrRange)
	got, err = span.Add(sp(top, top), sp(-top, -top))
	wantSpan(t, "Add of ends", got, err, sp(0, 0), api.OK)
	got, err = span.Add(sp(top, top), sp(top, top))
	wantSpan(t, "Add of tops", got, err, api.Span{}, api.ErrRange)
}

func TestTurnAndHasAtEdges(t *testing.T) {
	got, err := span.Turn(sp(-top, top))
	wantSpan(t, "Turn of all", got, err, sp(-top, top), api.OK)
	got, err = span.Turn(sp(-top, 2000))
	wantSpan(t, "Turn", got, err, sp(-2000, top), api.OK)
	for _, n := range edges {
		has, err := span.Has(sp(-top, top), n)
		wantBool(t, "Has "+strconv.Itoa(n), has, err, -top <= n && n <= top, api.OK)
	}
}

func TestWidenAtEdges(t *testing.T) {
	got, err := span.Widen(sp(0, 0), top)
	wantSpan(t, "Widen to all", got, err, sp(-top, top), api.OK)
	got, err = span.Widen(sp(-top, top), 0)
	wantSpan(t, "Widen by 0", got, err, sp(-top, top), api.OK)
	got, err = span.Widen(sp(-top, 0), 1)
	wantSpan(t, "Widen below", got, err, api.Span{}, api.ErrRange)
	got, err = span.Widen(sp(0, top), 1)
	wantSpan(t, "Widen above", got, err, api.Span{}, api.ErrRange)
	for _, n := range []int{-1, math.MinInt, top + 1, math.MaxInt} {
		got, err = span.Widen(sp(-5, 5), n)
		wantSpan(t, "Widen by "+strconv.Itoa(n), got, err, api.Span{}, api.ErrRange)
	}
}

// TestBadSpans: each call says ErrRange of what is no span, first or second, and answers nothing with it.
func TestBadSpans(t *testing.T) {
	good := sp(-1, 1)
	for _, a := range edgeSpans() {
		if -top <= a.Lo && a.Lo <= a.Hi && a.Hi <= top {
			continue
		}
		for _, pair := range [][2]api.Span{{a, good}, {good, a}, {a, a}} {
			wantPairRefused(t, pair[0], pair[1])
		}
		got, err := span.Turn(a)
		wantSpan(t, "Turn", got, err, api.Span{}, api.ErrRange)
		for _, n := range edges {
			got, err = span.Widen(a, n)
			wantSpan(t, "Widen", got, err, api.Span{}, api.ErrRange)
			has, err := span.Has(a, n)
			wantBool(t, "Has", has, err, false, api.ErrRange)
		}
		text, err := span.Print(a)
		if text != "" || plain.Told(err) != api.ErrRange {
			t.Errorf("Print(%v): got %q, %v", a, text, plain.Told(err))
		}
	}
}

func wantPairRefused(t *testing.T, a, b api.Span) {
	t.Helper()
	got, err := span.Meet(a, b)
	wantSpan(t, "Meet", got, err, api.Span{}, api.ErrRange)
	got, err = span.Hull(a, b)
	wantSpan(t, "Hull", got, err, api.Span{}, api.ErrRange)
	got, err = span.Add(a, b)
	wantSpan(t, "Add", got, err, api.Span{}, api.ErrRange)
	is, err := span.Before(a, b)
	wantBool(t, "Before", is, err, false, api.ErrRange)
}

func TestPrint(t *testing.T) {
	for _, c := range []struct {
		s    api.Span
		want string
	}{
		{sp(0, 0), "0..0"},
		{sp(-3, 8), "-3..8"},
		{sp(-17, -11), "-17..-11"},
		{sp(5, 2000), "5..2000"},
		{sp(-top, top), "-1000000000000..1000000000000"},
	} {
		got, err := span.Print(c.s)
		if got != c.want || err != nil {
			t.Errorf("Print(%v): got %q, %v; want %q", c.s, got, err, c.want)
		}
		back, err := span.Parse(c.want)
		wantSpan(t, "Parse "+c.want, back, err, c.s, api.OK)
	}
}

// TestPrintParse: what is written is read as it was.
func TestPrintParse(t *testing.T) {
	for _, s := range append(edgeSpans(), smallSpans()...) {
		text, err := span.Print(s)
		if err != nil {
			continue
		}
		back, err := span.Parse(text)
		wantSpan(t, "Parse "+text, back, err, s, api.OK)
	}
}

func TestParseSyntax(t *testing.T) {
	for _, text := range []string{
		"", ".", "..", "...", "....", "5", "-", "5..", "..5", "5.6", "5. .6",
		"1...2", "7....8", "1..2..3", "1..2..", "..1..2",
		"-0..1", "-1..-0", "00..1", "0..00", "01..2", "1..02", "-01..2", "1..-02",
		"+1..2", "1..+2", "--1..2", "1..--2", "-..1", "1..-", "-13..-.0",
		" 1..2", "1..2 ", "1 ..2", "1.. 2", "1..2\n", "1..2\x00", "6..6x", "x6..6",
		"1_0..20", "0x1..2", "1e2..1e3", "1,2", "\u0661..\u0662", "1\u20252", "\xff..\xff",
		"10000000000000..10000000000000", "0..10000000000000", "-10000000000000..0",
		"0..00000000000000", "99999999999999999999..1", "1..99999999999999999999",
		strings.Repeat("9", 5000) + ".." + strings.Repeat("9", 5000),
		strings.Repeat(".", 5000), strings.Repeat("-", 5000),
	} {
		got, err := span.Parse(text)
		wantSpan(t, "Parse "+strconv.Quote(text), got, err, api.Span{}, api.ErrSyntax)
	}
}

func TestParseRange(t *testing.T) {
	for _, text := range []string{
		"1..0", "918..24", "0..-1", "1000000000000..-1000000000000",
		"0..1000000000001", "-1000000000001..0", "167..1009000000000",
		"0..9999999999999", "-9999999999999..9999999999999", "9999999999999..0",
	} {
		got, err := span.Parse(text)
		wantSpan(t, "Parse "+text, got, err, api.Span{}, api.ErrRange)
	}
}

// TestParseSyntaxFirst: a text of no such form is ErrSyntax also where its other number is out of range.
func TestParseSyntaxFirst(t *testing.T) {
	for _, text := range []string{"9999999999999..01", "-01..9999999999999", "5..4 "} {
		got, err := span.Parse(text)
		wantSpan(t, "Parse "+text, got, err, api.Span{}, api.ErrSyntax)
	}
}

// TestParseShort: of all short texts of these bytes just those that Print writes are read.
func TestParseShort(t *testing.T) {
	const letters = "-.019 "
	written := map[string]api.Span{}
	for lo := -999; lo <= 999; lo++ {
		for hi := lo; hi <= 999; hi++ {
			text, err := span.Print(sp(lo, hi))
			if err == nil && len(text) <= 6 {
				written[text] = sp(lo, hi)
			}
		}
	}
	var walk func(text string)
	walk = func(text string) {
		got, err := span.Parse(text)
		want, is := written[text]
		if is != (err == nil) || got != want {
			t.Errorf("Parse(%q): got %v, %v; want %v, %v", text, got, err, want, is)
		}
		if len(text) == 6 {
			return
		}
		for i := range len(letters) {
			walk(text + letters[i:i+1])
		}
	}
	walk("")
}
