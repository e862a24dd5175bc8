package civil_test

import (
	"fmt"
	"math"
	"strings"
	"testing"
	"time"

	"noonmark/api"
	"noonmark/civil"
	"noonmark/plain"
)

const lastNumber = 84005

func date(year, month, day int) api.Date {
	return api.Date{Year: year, Month: month, Day: day}
}

func wantDays(t *testing.T, year, month, want int, errno api.Errno) {
	t.Helper()
	got, err := civil.Days(year, month)
	if got != want || plain.Told(err) != errno {
		t.Errorf("Days(%d, %d): got %d, %v; want %d, %v", year, month, got, plain.Told(err), want, errno)
	}
}

func wantOf(t *testing.T, n int, want api.Date, errno api.Errno) {
	t.Helper()
	got, err := civil.Of(n)
	if got != want || plain.Told(err) != errno {
		t.Errorf("Of(%d): got %v, %v; want %v, %v", n, got, plain.Told(err), want, errno)
	}
}

func wantParse(t *testing.T, text string, want api.Date, errno api.Errno) {
	t.Helper()
	got, err := civil.Parse(text)
	if got != want || plain.Told(err) != errno {
		t.Errorf("Parse(%q): got %v, %v; want %v, %v", text, got, plain.Told(err), want, errno)
	}
}

// wantDate: of a date that there is, its number and its text, there and back.
func wantDate(t *testing.T, d api.Date, number int, text string) {
	t.Helper()
	if err := civil.Check(d); err != nil {
		t.Errorf("Check(%v): got %v; want nil", d, err)
	}
	if n, err := civil.Number(d); n != number || err != nil {
		t.Errorf("Number(%v): got %d, %v; want %d", d, n, err, number)
	}
	if s, err := civil.Print(d); s != text || err != nil {
		t.Errorf("Print(%v): got %q, %v; want %q", d, s, err, text)
	}
	wantOf(t, number, d, api.OK)
	wantParse(t, text, d, api.OK)
}

// wantNone: of a date that there is not, all tell ErrRange, and nothing beside it.
func wantNone(t *testing.T, d api.Date) {
	t.Helper()
	if got := plain.Told(civil.Check(d)); got != api.ErrRange {
		t.Errorf("Check(%v): got %v; want ErrRange", d, got)
	}
	if n, err := civil.Number(d); n != 0 || plain.Told(err) != api.ErrRange {
		t.Errorf("Number(%v): got %d, %v; want 0, ErrRange", d, n, plain.Told(err))
	}
	if s, err := civil.Print(d); s != "" || plain.Told(err) != api.ErrRange {
		t.Errorf("Print(%v): got %q, %v; want nothing, ErrRange", d, s, plain.Told(err))
	}
}

func TestByHand(t *testing.T) {
	wantDate(t, date(1970, 1, 1), 0, "1970-01-01")
	wantDate(t, date(1970, 1, 31), 30, "1970-01-31")
	wantDate(t, date(1970, 2, 1), 31, "1970-02-01")
	wantDate(t, date(1970, 2, 28), 58, "1970-02-28")
	wantDate(t, date(1970, 3, 1), 59, "1970-03-01")
	wantDate(t, date(1970, 12, 31), 364, "1970-12-31")
	wantDate(t, date(1971, 1, 1), 365, "1971-01-01")
	wantDate(t, date(1972, 2, 28), 788, "1972-02-28")
	wantDate(t, date(1972, 2, 29), 789, "1972-02-29")
	wantDate(t, date(1972, 3, 1), 790, "1972-03-01")
	wantDate(t, date(1972, 12, 31), 1095, "1972-12-31")
	wantDate(t, date(1973, 1, 1), 1096, "1973-01-01")
	wantDate(t, date(2000, 2, 29), 11016, "2000-02-29")
	wantDate(t, date(2000, 3, 1), 11017, "2000-03-01")
	wantDate(t, date(2009, 10, 10), 14527, "2009-10-10")
	wantDate(t, date(2100, 2, 28), 47540, "2100-02-28")
	wantDate(t, date(2100, 3, 1), 47541, "2100-03-01")
	wantDate(t, date(2199, 12, 30), lastNumber-1, "2199-12-30")
	wantDate(t, date(2199, 12, 31), lastNumber, "2199-12-31")
}

func TestDays(t *testing.T) {
	for month, want := range map[int]int{1: 31, 2: 28, 3: 31, 4: 30, 5: 31, 6: 30, 7: 31, 8: 31, 9: 30, 10: 31, 11: 30, 12: 31} {
		wantDays(t, 2023, month, want, api.OK)
	}
	for year, want := range map[int]int{1970: 28, 1971: 28, 1972: 29, 1973: 28, 1999: 28, 2000: 29, 2004: 29, 2096: 29, 2100: 28, 2104: 29, 2196: 29, 2199: 28} {
		wantDays(t, year, 2, want, api.OK)
	}
	wantDays(t, 1970, 1, 31, api.OK)
	wantDays(t, 2199, 12, 31, api.OK)
}

func TestDaysWrong(t *testing.T) {
	for _, year := range []int{1969, 2200, 0, -1, -2000, 70, 20000, math.MinInt, math.MaxInt} {
		for month := 1; month <= 12; month++ {
			wantDays(t, year, month, 0, api.ErrRange)
		}
	}
	for _, month := range []int{0, 13, -1, -12, 100, math.MinInt, math.MaxInt} {
		for _, year := range []int{1970, 2000, 2199, 1969, math.MaxInt} {
			wantDays(t, year, month, 0, api.ErrRange)
		}
	}
}

// hasDayMore says of a year what Gregory's rule says, in its words.
func hasDayMore(year int) bool {
	return year%4 == 0 && (year%100 != 0 || year%400 == 0)
}

func length(year, month int) int {
	switch month {
	case 4, 6, 9, 11:
		return 30
	case 2:
		if hasDayMore(year) {
			return 29
		}
		return 28
	}
	return 31
}

// TestEachDay goes over all days that there are, and over those beside the ends of months, which are none.
func TestEachDay(t *testing.T) {
	n := 0
	for year := 1970; year <= 2199; year++ {
		for month := 1; month <= 12; month++ {
			last := length(year, month)
			wantDays(t, year, month, last, api.OK)
			wantNone(t, date(year, month, 0))
			wantNone(t, date(year, month, last+1))
			for day := 1; day <= last; day++ {
				wantDate(t, date(year, month, day), n, fmt.Sprintf("%04d-%02d-%02d", year, month, day))
				n++
			}
		}
	}
	if n != lastNumber+1 {
		t.Errorf("there are %d days; want %d", n, lastNumber+1)
	}
	if got := civil.Last(); got != lastNumber {
		t.Errorf("Last: got %d; want %d", got, lastNumber)
	}
}

// TestAsTime holds the numbers to a calendar that is not of this project.
func TestAsTime(t *testing.T) {
	for n := 0; n <= lastNumber; n++ {
		at := time.Unix(int64(n)*86400, 0).UTC()
		wantOf(t, n, date(at.Year(), int(at.Month()), at.Day()), api.OK)
	}
}

func TestNoDate(t *testing.T) {
	far := []int{math.MinInt, math.MinInt + 1, -1 << 32, -1, 0, 1 << 32, math.MaxInt - 1, math.MaxInt}
	for _, n := range far {
		wantNone(t, date(n, 6, 15))
		wantNone(t, date(2024, n, 15))
		wantNone(t, date(2024, 6, n))
		for _, m := range far {
			wantNone(t, date(n, m, 15))
			wantNone(t, date(2024, n, m))
			wantNone(t, date(n, n, m))
		}
	}
	wantNone(t, api.Date{})
	wantNone(t, date(1969, 12, 31))
	wantNone(t, date(2200, 1, 1))
	wantNone(t, date(2024, 0, 31))
	wantNone(t, date(2024, 13, 1))
	wantNone(t, date(1971, 2, 29))
	wantNone(t, date(2100, 2, 29))
	wantNone(t, date(2000, 2, 30))
	wantNone(t, date(2024, 4, 31))
	wantNone(t, date(2024, 12, 32))
}

func TestNoNumber(t *testing.T) {
	for _, n := range []int{-1, -365, lastNumber + 1, lastNumber + 366, 1 << 32, -1 << 32, math.MinInt, math.MinInt + 1, math.MaxInt} {
		wantOf(t, n, api.Date{}, api.ErrRange)
	}
}

// TestParseRange: texts of the form that are no date.
func TestParseRange(t *testing.T) {
	for _, text := range []string{
		"0000-00-00", "9999-99-99", "1969-12-31", "2200-01-01", "0970-01-01", "2024-00-10", "2024-13-10",
		"2024-01-00", "2024-01-32", "2023-02-29", "2100-02-29", "2024-02-30", "2024-04-31", "2024-99-01", "2024-01-99",
	} {
		wantParse(t, text, api.Date{}, api.ErrRange)
	}
}

func TestParseSyntax(t *testing.T) {
	for _, text := range []string{
		"", "-", "--", "2024", "2024-05", "2024-05-", "2024-5-7", "2024-05-7", "2024-5-07", "24-05-07", "02024-05-07",
		"2024-05-071", "2024-05-07 ", " 2024-05-07", "2024-05-07\n", "2024-05-07\x00", "2024-05-07T00:00:00",
		"20240507", "2024/05/07", "2024-0507", "202405-07", "2024--5-07", "2024-05--7", "2024-+5-07", "2024-05-+7",
		"+024-05-07", "-024-05-07", "-2024-05-07", "2024- 5-07", "2024-05- 7", "202a-05-07", "2024-0x-07", "2024-05-0x",
		"2024-05-0\xff", "2024−05-07", "٢٠٢٤-٠٥-٠٧", "٢٤-٠٥-٧", "2024-05-٧", "2_24-05-07", "YYYY-MM-DD", "----------", "0x7e-05-07",
		// No date and not of the form: the form is told, as it is named first.
		"2024-13-1", "1969-12-3x", "99999-01-01",
		strings.Repeat("2024-05-07", 3), strings.Repeat("0", 1<<16),
	} {
		wantParse(t, text, api.Date{}, api.ErrSyntax)
	}
}

// TestParseByteByByte: each byte of a text made each other byte, left out, and twice.
func TestParseByteByByte(t *testing.T) {
	for _, text := range []string{"2024-05-07", "1970-01-01", "2199-12-31", "2000-02-29"} {
		for i := range len(text) {
			wantParse(t, text[:i]+text[i+1:], api.Date{}, api.ErrSyntax)
			wantParse(t, text[:i+1]+text[i:], api.Date{}, api.ErrSyntax)
			for c := range 256 {
				wantAsTime(t, text[:i]+string([]byte{byte(c)})+text[i+1:])
			}
		}
	}
}

// wantAsTime holds Parse, of a text of 10 bytes, to what package time reads.
func wantAsTime(t *testing.T, text string) {
	t.Helper()
	dash := text[4] == '-' && text[7] == '-'
	digits := strings.Trim(text[:4]+text[5:7]+text[8:], "0123456789") == ""
	at, err := time.Parse("2006-01-02", text)
	switch {
	case !dash || !digits:
		wantParse(t, text, api.Date{}, api.ErrSyntax)
	case err != nil || at.Year() < api.FirstYear || at.Year() > api.LastYear:
		wantParse(t, text, api.Date{}, api.ErrRange)
	default:
		wantParse(t, text, date(at.Year(), int(at.Month()), at.Day()), api.OK)
	}
}
