package wire_test

import (
	"math"
	"math/rand"
	"strings"
	"testing"

	"noonmark/api"
	"noonmark/plain"
	"noonmark/wire"
)

const top = api.MaxTime

func sp(lo, hi int) api.Span { return api.Span{Lo: lo, Hi: hi} }

func asked(from, to, at int) api.Letter { return api.Letter{From: from, To: to, T: at} }

func answered(from, to, t1, t2, at int) api.Letter {
	return api.Letter{From: from, To: to, Answer: true, T1: t1, T2: t2, T: at}
}

func wantCheck(t *testing.T, l api.Letter, errno api.Errno) {
	t.Helper()
	if err := wire.Check(l); plain.Told(err) != errno {
		t.Errorf("Check(%v): got %v; want %v", l, plain.Told(err), errno)
	}
}

// wantLetter: that a letter is right, is written as these bytes, and these are read as it.
func wantLetter(t *testing.T, l api.Letter, want string) {
	t.Helper()
	wantCheck(t, l, api.OK)
	if got, err := wire.Letter(l); got != want || err != nil {
		t.Errorf("Letter(%v): got %x, %v; want %x", l, got, plain.Told(err), want)
	}
	wantRead(t, want, l)
}

func wantRead(t *testing.T, b string, want api.Letter) {
	t.Helper()
	if got, err := wire.ReadLetter(b); got != want || err != nil {
		t.Errorf("ReadLetter(%x): got %v, %v; want %v", b, got, plain.Told(err), want)
	}
}

// wantNoLetter: that Check tells it, and that it is not written.
func wantNoLetter(t *testing.T, l api.Letter, errno api.Errno) {
	t.Helper()
	wantCheck(t, l, errno)
	if got, err := wire.Letter(l); got != "" || plain.Told(err) != errno {
		t.Errorf("Letter(%v): got %x, %v; want none, %v", l, got, plain.Told(err), errno)
	}
}

func wantUnread(t *testing.T, b string) {
	t.Helper()
	if got, err := wire.ReadLetter(b); got != (api.Letter{}) || plain.Told(err) != api.ErrSyntax {
		t.Errorf("ReadLetter(%x): got %v, %v; want ErrSyntax", b, got, plain.Told(err))
	}
}

// wantSpan: that a span is written as these bytes, and these are read as it.
func wantSpan(t *testing.T, s api.Span, want string) {
	t.Helper()
	if got, err := wire.Span(s); got != want || err != nil {
		t.Errorf("Span(%v): got %x, %v; want %x", s, got, plain.Told(err), want)
	}
	if got, err := wire.ReadSpan(want); got != s || err != nil {
		t.Errorf("ReadSpan(%x): got %v, %v; want %v", want, got, plain.Told(err), s)
	}
}

func wantNoSpan(t *testing.T, s api.Span) {
	t.Helper()
	if got, err := wire.Span(s); got != "" || plain.Told(err) != api.ErrRange {
		t.Errorf("Span(%v): got %x, %v; want none, ErrRange", s, got, plain.Told(err))
	}
}

func wantUnreadSpan(t *testing.T, b string) {
	t.Helper()
	if got, err := wire.ReadSpan(b); got != (api.Span{}) || plain.Told(err) != api.ErrSyntax {
		t.Errorf("ReadSpan(%x): got %v, %v; want ErrSyntax", b, got, plain.Told(err))
	}
}

// six bytes of a number, by dividing.
func six(n int) string {
	b := [6]byte{}
	for i := range b {
		b[5-i] = byte(n % 256)
		n /= 256
	}
	return string(b[:])
}

// number of six bytes, by multiplying.
func number(b string) int {
	n := 0
	for i := range 6 {
		n = 256*n + int(b[i])
	}
	return n
}

// summed puts the sum of bytes behind them.
func summed(b string) string {
	n := 0
	for i := range len(b) {
		n = (n + int(b[i])) % 251
	}
	return b + string([]byte{byte(n)})
}

// written is what the document says that a letter's bytes are, right or not.
func written(l api.Letter) string {
	b := string([]byte{byte(l.From), byte(l.To)})
	if l.Answer {
		return summed(b + "\x01" + six(l.T) + six(l.T1) + six(l.T2))
	}
	return summed(b + "\x00" + six(l.T))
}

// read is what the document says that bytes are; false where they are no letter's.
func read(b string) (api.Letter, bool) {
	if len(b) != 10 && len(b) != 22 || summed(b[:len(b)-1]) != b {
		return api.Letter{}, false
	}
	l := asked(int(b[0]), int(b[1]), number(b[3:]))
	if len(b) == 22 {
		l = answered(l.From, l.To, number(b[9:]), number(b[15:]), l.T)
	}
	if l.Answer && b[2] != 1 || !l.Answer && b[2] != 0 {
		return api.Letter{}, false
	}
	nodes := l.From < 6 && l.To < 6 && l.From != l.To
	times := l.T <= top && l.T1 <= top && l.T2 <= top
	if !nodes || !times {
		return api.Letter{}, false
	}
	return l, true
}

// change one byte.
func change(b string, at int, to byte) string {
	return b[:at] + string([]byte{to}) + b[at+1:]
}

// times that may be: those that fill one byte of six, those about the bounds, and some between.
func times() []int {
	l := []int{0, 1, 250, 251, 252, 255, 256, 257, 65535, 65536, 1<<32 - 1, 1 << 32, 398099843039, 0xE8D4A50FFF, top - 1, top}
	for i := range 5 {
		for _, x := range []int{1, 2, 127, 128, 232, 255} {
			if n := x << (8 * i); n <= top {
				l = append(l, n)
			}
		}
	}
	return l
}

// noTimes are numbers that are none.
func noTimes() []int {
	return []int{math.MinInt, math.MinInt + 1, -top - 1, -top, -1 << 32, -256, -1, top + 1, 2 * top, 1 << 40, 1<<48 - 1, 1 << 48, 1<<48 + 7, math.MaxInt}
}

func noNodes() []int {
	return []int{math.MinInt, -256, -251, -1, 6, 7, 251, 255, 256, 257, 261, 1 << 32, math.MaxInt}
}

// letters that are right.
func letters() (l []api.Letter) {
	for from := range 6 {
		for to := range 6 {
			if from != to {
				l = append(l, asked(from, to, 0), asked(from, to, top), answered(from, to, 0, 0, 0), answered(from, to, top, top, top))
			}
		}
	}
	for _, n := range times() {
		l = append(l, asked(0, 1, n), asked(5, 2, n))
		l = append(l, answered(1, 0, n, 0, 0), answered(2, 5, 0, n, 0), answered(0, 3, 0, 0, n), answered(4, 3, 1, 2, n), answered(1, 2, n, n, n))
	}
	return l
}

func TestCheck(t *testing.T) {
	for _, l := range letters() {
		wantCheck(t, l, api.OK)
	}
	// How the times of a letter are to each other is not asked.
	wantCheck(t, answered(2, 4, top, 7, 3), api.OK)
	wantCheck(t, answered(2, 4, 7, top, 0), api.OK)
}

func TestCheckRange(t *testing.T) {
	for _, n := range noNodes() {
		for _, o := range []int{0, 5} {
			wantNoLetter(t, asked(n, o, 17), api.ErrRange)
			wantNoLetter(t, asked(o, n, 17), api.ErrRange)
			wantNoLetter(t, answered(n, o, 1, 2, 3), api.ErrRange)
			wantNoLetter(t, answered(o, n, 1, 2, 3), api.ErrRange)
		}
	}
	for _, n := range noTimes() {
		wantNoLetter(t, asked(0, 5, n), api.ErrRange)
		for _, o := range []int{0, top} {
			wantNoLetter(t, answered(5, 0, o, o, n), api.ErrRange)
			wantNoLetter(t, answered(5, 0, n, o, o), api.ErrRange)
			wantNoLetter(t, answered(5, 0, o, n, o), api.ErrRange)
		}
	}
}

func TestCheckShape(t *testing.T) {
	for n := range 6 {
		wantNoLetter(t, asked(n, n, 17), api.ErrShape)
		wantNoLetter(t, answered(n, n, 1, 2, 3), api.ErrShape)
	}
	for _, n := range []int{1, 255, top} {
		wantNoLetter(t, api.Letter{From: 0, To: 1, T: 9, T1: n}, api.ErrShape)
		wantNoLetter(t, api.Letter{From: 1, To: 0, T: 9, T2: n}, api.ErrShape)
		wantNoLetter(t, api.Letter{From: 5, To: 3, T: 9, T1: n, T2: n}, api.ErrShape)
		wantNoLetter(t, api.Letter{From: 3, To: 3, T: 9, T1: n}, api.ErrShape)
	}
}

// TestCheckRangeFirst: where a number is none that may be, it is no matter what does not go together.
func TestCheckRangeFirst(t *testing.T) {
	for _, n := range noNodes() {
		wantNoLetter(t, asked(n, n, 17), api.ErrRange)
		wantNoLetter(t, api.Letter{From: n, To: 1, T1: 4}, api.ErrRange)
		wantNoLetter(t, api.Letter{From: 1, To: n, T2: 4}, api.ErrRange)
	}
	for _, n := range noTimes() {
		wantNoLetter(t, asked(4, 4, n), api.ErrRange)
		wantNoLetter(t, answered(4, 4, n, 0, 0), api.ErrRange)
		wantNoLetter(t, answered(4, 4, 0, n, 0), api.ErrRange)
		wantNoLetter(t, api.Letter{From: 0, To: 1, T1: n}, api.ErrRange)
		wantNoLetter(t, api.Letter{From: 0, To: 1, T2: n}, api.ErrRange)
		wantNoLetter(t, api.Letter{From: 0, To: 1, T: n, T1: 8}, api.ErrRange)
		wantNoLetter(t, api.Letter{From: 0, To: 1, T1: 8, T2: n}, api.ErrRange)
	}
}

func TestLetterBytes(t *testing.T) {
	for _, c := range []struct {
		l    api.Letter
		want string
	}{
		{asked(0, 1, 0), "\x00\x01\x00" + "\x00\x00\x00\x00\x00\x00" + "\x01"},
		{asked(5, 0, 0), "\x05\x00\x00" + "\x00\x00\x00\x00\x00\x00" + "\x05"},
		{asked(4, 5, 258), "\x04\x05\x00" + "\x00\x00\x00\x00\x01\x02" + "\x0c"},
		{asked(2, 3, 0x0102030405), "\x02\x03\x00" + "\x00\x01\x02\x03\x04\x05" + "\x14"},
		// 1 and 0xE8 and 0xD4 and 0xA5 and 0x10 are 626: twice 251, and 124.
		{asked(0, 1, top), "\x00\x01\x00" + "\x00\xe8\xd4\xa5\x10\x00" + "\x7c"},
		{answered(1, 0, 0, 0, 0), "\x01\x00\x01" + "\x00\x00\x00\x00\x00\x00" + "\x00\x00\x00\x00\x00\x00" + "\x00\x00\x00\x00\x00\x00" + "\x02"},
		{answered(3, 2, 5, 600, 1), "\x03\x02\x01" + "\x00\x00\x00\x00\x00\x01" + "\x00\x00\x00\x00\x00\x05" + "\x00\x00\x00\x00\x02\x58" + "\x66"},
		{answered(0, 5, 1<<32, 1<<24, 1<<16), "\x00\x05\x01" + "\x00\x00\x00\x01\x00\x00" + "\x00\x01\x00\x00\x00\x00" + "\x00\x00\x01\x00\x00\x00" + "\x09"},
		// 6, and three times 625, are 1881: seven times 251, and 124.
		{answered(5, 0, top, top, top), "\x05\x00\x01" + "\x00\xe8\xd4\xa5\x10\x00" + "\x00\xe8\xd4\xa5\x10\x00" + "\x00\xe8\xd4\xa5\x10\x00" + "\x7c"},
		{answered(5, 4, 0, 0xFFFFFFFF, 0xFFFFFFFF), "\x05\x04\x01" + "\x00\x00\xff\xff\xff\xff" + "\x00\x00\x00\x00\x00\x00" + "\x00\x00\xff\xff\xff\xff" + "\x2a"},
	} {
		wantLetter(t, c.l, c.want)
	}
}

// TestLetterSum: of bytes the sum of which is about 251, and about more times 251.
func TestLetterSum(t *testing.T) {
	for _, c := range []struct {
		l    api.Letter
		want byte
	}{
		{asked(0, 1, 0), 1},
		{asked(0, 1, 248), 249},
		{asked(0, 1, 249), 250},
		{asked(0, 1, 250), 0},
		{asked(0, 1, 251), 1},
		{asked(0, 1, 255), 5},
		{asked(5, 4, 240), 249},
		{asked(5, 4, 241), 250},
		{asked(5, 4, 242), 0},
		{asked(5, 4, 243), 1},
		{answered(0, 1, 0, 0, 248), 250},
		{answered(0, 1, 0, 249, 0), 0},
		{answered(0, 1, 250, 0, 0), 1},
		{answered(0, 1, 249, 250, 0), 250},
		{answered(0, 1, 250, 250, 0), 0},
		{answered(0, 1, 250, 251, 0), 1},
		{answered(0, 1, 251, 251, 248), 250},
		{answered(0, 1, 251, 251, 249), 0},
	} {
		b, err := wire.Letter(c.l)
		if err != nil || b == "" || b[len(b)-1] != c.want {
			t.Errorf("Letter(%v): got %x, %v; want a sum of %d", c.l, b, plain.Told(err), c.want)
		}
	}
}

// TestLetterRead: what is read is what was written, and the bytes are those of the document.
func TestLetterRead(t *testing.T) {
	for _, l := range letters() {
		wantLetter(t, l, written(l))
	}
	r := rand.New(rand.NewSource(17))
	for range 20000 {
		l := asked(r.Intn(6), r.Intn(6), r.Intn(top+1)>>r.Intn(40))
		if r.Intn(2) == 0 {
			l = answered(l.From, l.To, r.Intn(top+1)>>r.Intn(40), r.Intn(top+1)>>r.Intn(40), l.T)
		}
		if l.From != l.To {
			wantLetter(t, l, written(l))
		}
	}
}

func TestReadLetterLength(t *testing.T) {
	for n := range 60 {
		for _, head := range []string{"\x00\x01\x00", "\x00\x01\x01"} {
			b := summed((head + strings.Repeat("\x00", n))[:n])
			if head == "\x00\x01\x00" && n+1 == 10 || head == "\x00\x01\x01" && n+1 == 22 {
				continue
			}
			wantUnread(t, b)
		}
	}
	for _, b := range []string{"", "\x00", "\x01", "\xff", strings.Repeat("\x00", 5000), strings.Repeat("\xff", 5000)} {
		wantUnread(t, b)
	}
	for _, l := range letters() {
		b := written(l)
		for n := range len(b) {
			wantUnread(t, b[:n])
			if n > 0 {
				wantUnread(t, b[n:])
			}
		}
		for _, more := range []string{"\x00", "\x01", "\xff", b} {
			wantUnread(t, b+more)
			wantUnread(t, more+b)
			wantUnread(t, summed(b+more))
		}
	}
}

// TestReadLetterAnswer: the byte for Answer, and how many bytes there are, go together.
func TestReadLetterAnswer(t *testing.T) {
	for x := range 256 {
		head := string([]byte{0, 1, byte(x)})
		if x != 0 {
			wantUnread(t, summed(head+six(17)))
			wantUnread(t, summed(head+six(0)))
		}
		if x != 1 {
			wantUnread(t, summed(head+six(17)+six(1)+six(2)))
			wantUnread(t, summed(head+six(17)+six(0)+six(0)))
		}
	}
	wantRead(t, summed("\x00\x01\x00"+six(17)), asked(0, 1, 17))
	wantRead(t, summed("\x00\x01\x01"+six(17)+six(1)+six(2)), answered(0, 1, 1, 2, 17))
}

func TestReadLetterNodes(t *testing.T) {
	for from := range 256 {
		for to := range 256 {
			short := summed(string([]byte{byte(from), byte(to), 0}) + six(17))
			long := summed(string([]byte{byte(from), byte(to), 1}) + six(17) + six(1) + six(2))
			if from < 6 && to < 6 && from != to {
				wantRead(t, short, asked(from, to, 17))
				wantRead(t, long, answered(from, to, 1, 2, 17))
				continue
			}
			wantUnread(t, short)
			wantUnread(t, long)
		}
	}
}

// TestReadLetterTimes: a number beyond MaxTime is none, also one that fills all six bytes.
func TestReadLetterTimes(t *testing.T) {
	for _, n := range []int{top + 1, top + 255, 0xE8D4A51100, 1 << 40, 1<<40 + 1, 2 * top, 0x010203040506, 1 << 47, 1<<48 - 1} {
		wantUnread(t, summed("\x02\x03\x00"+six(n)))
		wantUnread(t, summed("\x02\x03\x01"+six(n)+six(1)+six(2)))
		wantUnread(t, summed("\x02\x03\x01"+six(1)+six(n)+six(2)))
		wantUnread(t, summed("\x02\x03\x01"+six(1)+six(2)+six(n)))
	}
	wantUnread(t, summed("\x02\x03\x00\xff\xff\xff\xff\xff\xff"))
	wantUnread(t, summed("\x02\x03\x00\x00\xe8\xd4\xa5\x10\x01"))
	wantUnread(t, summed("\x02\x03\x00\x01\x00\x00\x00\x00\x00"))
	wantRead(t, summed("\x02\x03\x00\x00\xe8\xd4\xa5\x10\x00"), asked(2, 3, top))
}

// TestReadLetterSum: of all bytes that may stand there just one is the sum; one that is 251 more is not.
func TestReadLetterSum(t *testing.T) {
	for _, l := range append(letters(), asked(0, 1, 250), asked(0, 1, 251), asked(0, 1, 254), answered(0, 1, 250, 250, 0)) {
		b := written(l)
		for x := range 256 {
			if c := change(b, len(b)-1, byte(x)); c != b {
				wantUnread(t, c)
			}
		}
	}
}

// TestReadLetterChanged: one byte changed of a right letter is told, unless it is one of a time and is 251 more or less: then the sum is as it was, and these are the bytes of another letter.
func TestReadLetterChanged(t *testing.T) {
	for _, l := range []api.Letter{
		asked(0, 1, 0), asked(1, 2, 0x0607080910), asked(5, 0, top), asked(0, 5, 255),
		answered(1, 0, 0, 0, 0), answered(3, 4, 0x0607080910, 0x1020304050, 0x2122232425), answered(5, 0, top, top, top), answered(0, 1, 1, 254, 251),
	} {
		b := written(l)
		for at := range len(b) {
			for x := range 256 {
				wantChanged(t, b, at, byte(x))
			}
		}
	}
	wantRead(t, change(written(asked(0, 1, 2)), 8, 253), asked(0, 1, 253))
	wantRead(t, change(written(answered(0, 1, 7, 252, 9)), 20, 1), answered(0, 1, 7, 1, 9))
	wantUnread(t, change(written(asked(0, 1, 2)), 8, 252))
	wantUnread(t, change(written(asked(0, 1, 2)), 3, 251))
	wantUnread(t, change(written(asked(0, 1, 2)), 0, 251))
	wantUnread(t, change(written(asked(0, 1, 2)), 2, 251))
}

func wantChanged(t *testing.T, b string, at int, to byte) {
	t.Helper()
	by := int(to) - int(b[at])
	if by == 0 {
		return
	}
	c := change(b, at, to)
	same := at >= 3 && at < len(b)-1 && (by == 251 || by == -251)
	want, is := read(c)
	if is && !same {
		t.Errorf("the sum of %x is told to be right", c)
	}
	if !is {
		wantUnread(t, c)
		return
	}
	wantRead(t, c, want)
}

// TestReadLetterAny: of any bytes just those of a letter are read, and what is read is written as it was.
func TestReadLetterAny(t *testing.T) {
	r := rand.New(rand.NewSource(18))
	l, found := letters(), 0
	for range 200000 {
		b := written(l[r.Intn(len(l))])
		for range r.Intn(4) {
			b = change(b, r.Intn(len(b)), byte(r.Intn(256)>>r.Intn(8)))
		}
		if r.Intn(4) > 0 {
			b = summed(b[:len(b)-1])
		}
		want, is := read(b)
		if !is {
			wantUnread(t, b)
			continue
		}
		found++
		wantLetter(t, want, b)
	}
	if found < 1000 || found > 199000 {
		t.Errorf("of all tries %d were right: they ask too little", found)
	}
}

func TestSpanBytes(t *testing.T) {
	for _, c := range []struct {
		s    api.Span
		want string
	}{
		{sp(-top, -top), "\x00\x00\x00\x00\x00\x00" + "\x00\x00\x00\x00\x00\x00"},
		{sp(-top, -top+1), "\x00\x00\x00\x00\x00\x00" + "\x00\x00\x00\x00\x00\x01"},
		{sp(-top+258, 0), "\x00\x00\x00\x00\x01\x02" + "\x00\xe8\xd4\xa5\x10\x00"},
		{sp(0, 0), "\x00\xe8\xd4\xa5\x10\x00" + "\x00\xe8\xd4\xa5\x10\x00"},
		{sp(-1, 1), "\x00\xe8\xd4\xa5\x0f\xff" + "\x00\xe8\xd4\xa5\x10\x01"},
		{sp(-3, 8), "\x00\xe8\xd4\xa5\x0f\xfd" + "\x00\xe8\xd4\xa5\x10\x08"},
		{sp(-top, top), "\x00\x00\x00\x00\x00\x00" + "\x01\xd1\xa9\x4a\x20\x00"},
		{sp(top-1, top), "\x01\xd1\xa9\x4a\x1f\xff" + "\x01\xd1\xa9\x4a\x20\x00"},
		{sp(top, top), "\x01\xd1\xa9\x4a\x20\x00" + "\x01\xd1\xa9\x4a\x20\x00"},
	} {
		wantSpan(t, c.s, c.want)
	}
}

// edges are numbers at which bounds, or the machine's numbers, end.
func edges() []int {
	return []int{
		math.MinInt, math.MinInt + 1, -2*top - 1, -2 * top, -top - 1, -top, -top + 1, -top + 255, -top + 256,
		-256, -255, -1, 0, 1, 255, 256, top - 1, top, top + 1, 2 * top, 2*top + 1, 1<<48 - 1 - top, 1<<48 - top, 1 << 48, math.MaxInt - 1, math.MaxInt,
	}
}

func isSpan(s api.Span) bool {
	return -top <= s.Lo && s.Lo <= s.Hi && s.Hi <= top
}

func TestSpanEdges(t *testing.T) {
	for _, lo := range edges() {
		for _, hi := range edges() {
			if s := sp(lo, hi); isSpan(s) {
				wantSpan(t, s, six(lo+top)+six(hi+top))
			} else {
				wantNoSpan(t, s)
			}
		}
	}
}

// TestSpanRead: what is read is what was written.
func TestSpanRead(t *testing.T) {
	r := rand.New(rand.NewSource(19))
	for range 20000 {
		lo, hi := r.Intn(2*top+1)-top, r.Intn(2*top+1)-top
		if r.Intn(2) == 0 {
			hi = min(top, lo+r.Intn(1000))
		}
		wantSpan(t, sp(min(lo, hi), max(lo, hi)), six(min(lo, hi)+top)+six(max(lo, hi)+top))
	}
}

func TestReadSpanLength(t *testing.T) {
	for n := range 60 {
		if n != 12 {
			wantUnreadSpan(t, strings.Repeat("\x00", n))
		}
	}
	for _, b := range []string{"", "\xff", "0..0", strings.Repeat("\x00", 5000), strings.Repeat("\xff", 5000)} {
		wantUnreadSpan(t, b)
	}
	for _, s := range []api.Span{sp(0, 0), sp(-3, 8), sp(-top, top)} {
		b := six(s.Lo+top) + six(s.Hi+top)
		for n := range len(b) {
			wantUnreadSpan(t, b[:n])
		}
		wantUnreadSpan(t, b[1:])
		wantUnreadSpan(t, b+"\x00")
		wantUnreadSpan(t, "\x00"+b)
		// No sum stands behind a span.
		wantUnreadSpan(t, summed(b))
		wantUnreadSpan(t, b+b)
	}
}

// TestReadSpanNone: bytes of numbers that are no span.
func TestReadSpanNone(t *testing.T) {
	l := []int{0, 1, 255, 256, top - 1, top, top + 1, 2*top - 1, 2 * top, 2*top + 1, 2*top + 256, 3 * top, 1 << 47, 1<<48 - 2, 1<<48 - 1}
	for _, lo := range l {
		for _, hi := range l {
			b := six(lo) + six(hi)
			if s := sp(lo-top, hi-top); isSpan(s) {
				wantSpan(t, s, b)
			} else {
				wantUnreadSpan(t, b)
			}
		}
	}
	wantUnreadSpan(t, strings.Repeat("\xff", 12))
	wantUnreadSpan(t, "\x00\xe8\xd4\xa5\x10\x01"+"\x00\xe8\xd4\xa5\x10\x00")
	wantUnreadSpan(t, "\x00\x00\x00\x00\x00\x00"+"\x01\xd1\xa9\x4a\x20\x01")
	wantUnreadSpan(t, "\x01\xd1\xa9\x4a\x20\x01"+"\x01\xd1\xa9\x4a\x20\x01")
}

// TestReadSpanChanged: with one byte changed it is what the bytes then say, a span or none: that it was another one no byte tells.
func TestReadSpanChanged(t *testing.T) {
	for _, s := range []api.Span{sp(0, 0), sp(-3, 8), sp(-top, -top), sp(-top, top), sp(top, top), sp(-123456789, 987654321)} {
		b := six(s.Lo+top) + six(s.Hi+top)
		for at := range len(b) {
			for x := range 256 {
				c := change(b, at, byte(x))
				if want := sp(number(c)-top, number(c[6:])-top); isSpan(want) {
					wantSpan(t, want, c)
				} else {
					wantUnreadSpan(t, c)
				}
			}
		}
	}
	wantSpan(t, sp(0, 1), change("\x00\xe8\xd4\xa5\x10\x00"+"\x00\xe8\xd4\xa5\x10\x00", 11, 1))
	wantUnreadSpan(t, change("\x00\xe8\xd4\xa5\x10\x00"+"\x00\xe8\xd4\xa5\x10\x00", 5, 1))
	wantUnreadSpan(t, change("\x00\xe8\xd4\xa5\x10\x00"+"\x00\xe8\xd4\xa5\x10\x00", 6, 255))
}
