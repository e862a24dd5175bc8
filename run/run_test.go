package run_test

import (
	"fmt"
	"math/rand"
	"regexp"
	"strconv"
	"strings"
	"testing"
	"time"

	"noonmark/api"
	"noonmark/net"
	"noonmark/plain"
	"noonmark/run"
)

const tooLong = "too long\n"

func wantRun(t *testing.T, text, want string) {
	t.Helper()
	if got := run.Run(text); got != want {
		t.Errorf("Run(%q): got %q; want %q", text, got, want)
	}
}

// cut a session, of which each row is a line and its answer.
func cut(session []string) (lines, answers []string) {
	for _, row := range session {
		line, answer, _ := strings.Cut(row, " = ")
		lines, answers = append(lines, line), append(answers, answer)
	}
	return lines, answers
}

// joined: each with byte 10 behind it.
func joined(l []string) string {
	var b strings.Builder
	for _, one := range l {
		b.WriteString(one + "\n")
	}
	return b.String()
}

// Ordinary sessions, worked out by hand.
var (
	// There and back while time goes on, and what is known behind it.
	probed = []string{
		"offset 0 1 = ErrNone",
		"wide = 0",
		"ask 0 1 = ok",
		"go 10000 = ok",
		"show 0 = 10001",
		"show 1 = 10999",
		"show 2 = 10050",
		"deliver 0 = ok",
		"offset 0 1 = ErrNone",
		"go 10000 = ok",
		"deliver 0 = ok",
		"deliver 0 = ErrNone",
		// From 10999 - 20002 to 10999 + 2 + 7, and 2 on either side.
		"offset 0 1 = -9005..11010",
		"offset 1 0 = -11010..9005",
		"offset 0 2 = ErrNone",
		"offset 1 2 = ErrNone",
		"wide = 20015",
		"go 100000 = ok",
		// By the clock of node 0 100010 more: 31 more on either side.
		"offset 0 1 = -9036..11041",
		"wide = 20077",
		"ask 0 1 = ok",
		"deliver 0 = ok",
		"deliver 0 = ok",
		"offset 0 1 = 974..980",
		"wide = 6",
		"show 0 = 120012",
		"show 1 = 120988",
		"show 2 = 120050",
		"date 120012 = 1970-01-02T09:20:12",
	}

	// Letters that are under way for long, and come in another order than they went.
	late = []string{
		"ask 0 2 = ok",
		"ask 2 0 = ok",
		"go 1000000 = ok",
		"deliver 1 = ok",
		"deliver 1 = ok",
		"offset 2 0 = 48..1000354",
		"deliver 0 = ok",
		"go 999999 = ok",
		"show 0 = 2000198",
		"show 1 = 2000799",
		"show 2 = 2000049",
		"offset 2 0 = -252..1000654",
		"deliver 0 = ok",
		"offset 0 2 = -1000150..252",
		"offset 2 0 = -252..1000150",
		"wide = 1000402",
		"deliver 0 = ErrNone",
	}

	lost = []string{
		"ask 0 1 = ok",
		"lose 0 = ok",
		"deliver 0 = ErrNone",
		"offset 0 1 = ErrNone",
		"ask 0 1 = ok",
		"deliver 0 = ok",
		"lose 0 = ok",
		"lose 0 = ErrNone",
		"offset 0 1 = ErrNone",
		"wide = 0",
		// Of two the one that is not lost comes.
		"ask 0 1 = ok",
		"ask 2 1 = ok",
		"lose 0 = ok",
		"deliver 0 = ok",
		"deliver 0 = ok",
		"offset 2 1 = 948..954",
		"offset 0 1 = ErrNone",
		"wide = 6",
	}

	doubled = []string{
		"ask 1 2 = ok",
		"repeat 0 = ok",
		"go 5000 = ok",
		"show 0 = 5000",
		"show 1 = 5999",
		"show 2 = 5050",
		"repeat 0 = ok",
		// The Answer that went last comes first.
		"deliver 2 = ok",
		"offset 1 2 = -951..4056",
		"repeat 1 = ok",
		"offset 1 2 = -953..-944",
		// It tells nothing that is new, but what was known is kept anew.
		"repeat 1 = ok",
		"offset 1 2 = -955..-944",
		"deliver 1 = ok",
		"offset 1 2 = -957..-944",
		"deliver 0 = ok",
		"deliver 0 = ok",
		"offset 1 2 = -951..-942",
		"offset 2 1 = 942..951",
		"repeat 0 = ErrNone",
		"wide = 9",
	}

	// Two of which nobody asked the other one, but both know of a third.
	around = []string{
		"ask 0 1 = ok",
		"deliver 0 = ok",
		"deliver 0 = ok",
		"ask 1 2 = ok",
		"deliver 0 = ok",
		"deliver 0 = ok",
		"offset 0 1 = 998..1004",
		"offset 1 2 = -952..-946",
		"offset 0 2 = 46..58",
		"offset 2 0 = -58..-46",
		"wide = 24",
		"ask 2 0 = ok",
		"deliver 0 = ok",
		"deliver 0 = ok",
		"offset 0 2 = 46..52",
		"offset 1 2 = -952..-946",
		"wide = 18",
	}

	// Each error that each line can tell but ErrFull, beside where it does not.
	wrong = []string{
		"go 1000000 = ok",
		"go 1000001 = ErrRange",
		"go 9999999 = ErrRange",
		"show 0 = 1000100",
		"ask 0 3 = ErrRange",
		"ask 3 0 = ErrRange",
		"ask 3 3 = ErrRange",
		"ask 9999999 0 = ErrRange",
		"ask 0 9999999 = ErrRange",
		"ask 0 0 = ErrShape",
		"ask 1 1 = ErrShape",
		"ask 2 2 = ErrShape",
		"deliver 0 = ErrNone",
		"lose 0 = ErrNone",
		"repeat 0 = ErrNone",
		"ask 2 1 = ok",
		"deliver 1 = ErrNone",
		"lose 1 = ErrNone",
		"repeat 1 = ErrNone",
		"deliver 9999999 = ErrNone",
		"lose 9999999 = ErrNone",
		"repeat 9999999 = ErrNone",
		"show 1 = 1000900",
		"show 2 = 1000050",
		"show 3 = ErrRange",
		"show 9999999 = ErrRange",
		"offset 2 1 = ErrNone",
		"offset 0 3 = ErrRange",
		"offset 3 0 = ErrRange",
		"offset 3 3 = ErrRange",
		"offset 9999999 9999999 = ErrRange",
		"offset 2 2 = 0..0",
		"deliver 0 = ok",
		"deliver 0 = ok",
		"offset 2 1 = 848..854",
		"offset 2 0 = ErrNone",
		"wide = 6",
	}
)

func sessions() [][]string {
	return [][]string{probed, late, lost, doubled, around, wrong, full()}
}

// full: as many Letters as may be are under way.
func full() []string {
	rows := []string{}
	for range api.MaxUnder {
		rows = append(rows, "ask 0 1 = ok")
	}
	return append(rows,
		"ask 0 1 = ErrFull",
		"ask 0 0 = ErrShape",
		"ask 0 3 = ErrRange",
		// What comes and stays makes no room for its Answer; what is delivered does.
		"repeat 0 = ErrFull",
		"repeat 39 = ErrFull",
		"repeat 40 = ErrNone",
		"deliver 40 = ErrNone",
		"deliver 0 = ok",
		"repeat 0 = ErrFull",
		"offset 0 1 = ErrNone",
		// An Answer is not answered: it wants no room.
		"repeat 39 = ok",
		"offset 0 1 = 998..1004",
		"ask 1 2 = ErrFull",
		"lose 7 = ok",
		"ask 1 2 = ok",
		"ask 1 2 = ErrFull",
		"deliver 38 = ok",
		"repeat 38 = ok",
		"repeat 38 = ErrFull",
		"show 0 = 0",
	)
}

func TestSessions(t *testing.T) {
	for _, session := range sessions() {
		lines, answers := cut(session)
		got := strings.SplitAfter(run.Run(joined(lines)), "\n")
		if len(got) != len(lines)+1 || got[len(lines)] != "" {
			t.Errorf("%q: got %q", lines, got)
			continue
		}
		for i, answer := range answers {
			if got[i] != answer+"\n" {
				t.Errorf("line %d of %q: got %q; want %q", i, lines, got[i], answer)
			}
		}
	}
}

// TestNew: what each line answers ahead of all others.
func TestNew(t *testing.T) {
	for _, row := range []string{
		"go 0 = ok", "go 1 = ok", "ask 0 1 = ok", "ask 1 0 = ok", "ask 2 0 = ok", "ask 1 2 = ok",
		"deliver 0 = ErrNone", "lose 0 = ErrNone", "repeat 0 = ErrNone",
		"show 0 = 0", "show 1 = 1000", "show 2 = 50", "show 3 = ErrRange",
		"offset 0 0 = 0..0", "offset 1 1 = 0..0", "offset 2 2 = 0..0", "offset 0 1 = ErrNone", "offset 2 1 = ErrNone", "offset 0 3 = ErrRange",
		"wide = 0",
	} {
		line, answer, _ := strings.Cut(row, " = ")
		wantRun(t, line+"\n", answer+"\n")
		wantRun(t, line, answer+"\n")
	}
}

// TestRates: what clocks show when the bound of what is 100 millionths is come to, and just ahead of it.
func TestRates(t *testing.T) {
	for _, c := range []struct{ by, a, b, c int }{
		{0, 0, 1000, 50},
		{1, 1, 1000, 51},
		{9_999, 9_999, 10_998, 10_049},
		{10_000, 10_001, 10_999, 10_050},
		{10_001, 10_002, 10_999, 10_051},
		{1_000_000, 1_000_100, 1_000_900, 1_000_050},
	} {
		wantRun(t, fmt.Sprintf("go %d\nshow 0\nshow 1\nshow 2", c.by), fmt.Sprintf("ok\n%d\n%d\n%d\n", c.a, c.b, c.c))
	}
}

func TestDate(t *testing.T) {
	for _, row := range []string{
		"0 = 1970-01-01T00:00:00", "1 = 1970-01-01T00:00:01", "59 = 1970-01-01T00:00:59", "60 = 1970-01-01T00:01:00",
		"3599 = 1970-01-01T00:59:59", "3600 = 1970-01-01T01:00:00", "86399 = 1970-01-01T23:59:59", "86400 = 1970-01-02T00:00:00",
		"2678399 = 1970-01-31T23:59:59", "2678400 = 1970-02-01T00:00:00", "5097600 = 1970-03-01T00:00:00",
		"9999998 = 1970-04-26T17:46:38", "9999999 = 1970-04-26T17:46:39",
	} {
		n, label, _ := strings.Cut(row, " = ")
		wantRun(t, "date "+n, label+"\n")
		// It is no clock's time: what went on before does not tell.
		wantRun(t, "go 777\nask 0 1\ndate "+n+"\n", "ok\nok\n"+label+"\n")
	}
}

// right has each line of the table once.
var right = []string{"go 5", "ask 0 1", "deliver 0", "lose 0", "repeat 0", "show 2", "offset 0 1", "wide", "date 7"}

// wrongNumbers cannot be read, each of them without a blank.
var wrongNumbers = []string{
	"00", "01", "007", "0000000", "00000000", "00000001", "0123456",
	"-1", "-0", "+0", "+1", "--1", "-", "+", "-9999999",
	"10000000", "12345678", "99999999", "4294967296", "9223372036854775807", "9223372036854775808", "18446744073709551616", "100000000000000000000000",
	"x", "x1", "1x", "1x1", "0x1", "0b1", "0o1", "1_0", "1,0", "1.0", "1.", ".1", "1e1", "1/", ":1", "0/", ":",
	"1\t", "\t1", "1\r", "\v1", "1\f", "1\x00", "\x00", "\xff", "\xb1", "１", "1\u00a0", "٣", "½", "N",
}

// badLines are none that there are: each is a line of the table with one fault.
func badLines() []string {
	bad := []string{"", " ", "  ", "\t", "\r", "\x00", "0", "7", "0 1", "fly", "fly 1", "ok", "bad", "too long", "ErrNone", "#", "go5", "go,5", "go=5", "go\t5", "\xef\xbb\xbfwide", "wide;", "wide wide", "go 1 go 1", "go 1;go 1", "go 1\rgo 1", "Answer 0", "under", "edges", "time", "read 0", "do 1 1", "exit"}
	for _, line := range right {
		word, rest, _ := strings.Cut(line, " ")
		parts := strings.Split(line, " ")
		bad = append(bad, " "+line, line+" ", "\t"+line, line+"\t", line+"\r", "\r"+line, line+"\x00", line+"\v", "\x00"+line, "\""+line+"\"", line+".")
		bad = append(bad, strings.ToUpper(line), strings.ToUpper(line[:1])+line[1:], strings.Replace(line, word[1:], strings.ToUpper(word[1:]), 1))
		bad = append(bad, strings.TrimSpace(word[:len(word)-1]+" "+rest), word[1:]+" "+rest, word[:1], word+"s "+rest, strings.TrimSpace(word+"x "+rest), "x"+line)
		bad = append(bad, line+" 0", line+" 0 0", line+" x", line+" "+line)
		for i := range parts[1:] {
			ahead, behind := joinedBy(parts[:i+1]), joinedBy(parts[i+1:])
			// One word too few, two blanks, and other bytes in the place of a blank.
			bad = append(bad, joinedBy(append(parts[:i+1:i+1], parts[i+2:]...)), ahead, ahead+" ")
			for _, between := range []string{"  ", "   ", "\t", " \t", "\t ", "\r", "\v", "\x00", "\u00a0", "", ",", "-", "_", "="} {
				bad = append(bad, ahead+between+behind)
			}
			for _, n := range wrongNumbers {
				changed := append([]string{}, parts...)
				changed[i+1] = n
				bad = append(bad, joinedBy(changed))
			}
		}
	}
	return bad
}

func joinedBy(parts []string) string { return strings.Join(parts, " ") }

// TestBad: what is none of the table's lines, as the only line there is, with and without byte 10.
func TestBad(t *testing.T) {
	for _, line := range badLines() {
		wantRun(t, line+"\n", "bad\n")
		if line != "" {
			wantRun(t, line, "bad\n")
		}
	}
	for b := range 256 {
		if b != '\n' {
			wantRun(t, "wide"+string([]byte{byte(b)}), "bad\n")
			wantRun(t, string([]byte{byte(b)})+"wide", "bad\n")
			wantRun(t, string([]byte{byte(b)}), "bad\n")
		}
	}
}

// TestBytes: of each number each byte alone, and behind another one: digits alone are read.
func TestBytes(t *testing.T) {
	for b := range 256 {
		one := string([]byte{byte(b)})
		if b == '\n' {
			continue
		}
		first, second := "bad\n", "bad\n"
		if b >= '0' && b <= '9' {
			first = fmt.Sprintf("1970-01-01T00:00:0%s\n", one)
			second = fmt.Sprintf("1970-01-01T00:00:1%s\n", one)
		}
		wantRun(t, "date "+one, first)
		wantRun(t, "date 1"+one, second)
		want := "ErrRange\n"
		if first == "bad\n" {
			want = first
		} else if b <= '2' {
			want = "ErrNone\n"
		}
		if b == '1' {
			want = "0..0\n"
		}
		wantRun(t, "offset 1 "+one, want)
		wantRun(t, "offset "+one+" 1", want)
	}
}

// TestNumbers: of one digit up to seven they are read, in each place; eight are too many, whatever they are.
func TestNumbers(t *testing.T) {
	for _, n := range []string{"0", "1", "9", "10", "99", "100", "12345", "999999", "1000000", "1234567", "9999999"} {
		number, _ := strconv.Atoi(n)
		goes, clock := "ok\n", "ErrRange\n"
		if number > 1_000_000 {
			goes = "ErrRange\n"
		}
		wantRun(t, "go "+n, goes)
		for _, word := range []string{"deliver ", "lose ", "repeat "} {
			wantRun(t, word+n, "ErrNone\n")
		}
		if number > 2 {
			wantRun(t, "show "+n, clock)
			for _, word := range []string{"ask ", "offset "} {
				wantRun(t, word+n+" 0", clock)
				wantRun(t, word+"0 "+n, clock)
				wantRun(t, word+n+" "+n, clock)
			}
		}
		wantRun(t, "date "+n, time.Unix(int64(number), 0).UTC().Format("2006-01-02T15:04:05")+"\n")
	}
	wantRun(t, "go 10000000", "bad\n")
	wantRun(t, "date 10000000", "bad\n")
	wantRun(t, "date 00000000", "bad\n")
	wantRun(t, "show 00000001", "bad\n")
}

// TestCut: no text, byte 10 alone, several of them, and a last piece with and without one behind it.
func TestCut(t *testing.T) {
	wantRun(t, "", "")
	for n := 1; n <= 20; n++ {
		wantRun(t, strings.Repeat("\n", n), strings.Repeat("bad\n", n))
	}
	wantRun(t, "wide", "0\n")
	wantRun(t, "wide\n", "0\n")
	wantRun(t, "wide\n\n", "0\nbad\n")
	wantRun(t, "\nwide", "bad\n0\n")
	wantRun(t, "\n\nwide\n", "bad\nbad\n0\n")
	wantRun(t, "wide\n\nwide", "0\nbad\n0\n")
	wantRun(t, "wide\n ", "0\nbad\n")
	wantRun(t, "wide\nwide", "0\n0\n")
	// Only byte 10 cuts.
	wantRun(t, "wide\rwide", "bad\n")
	wantRun(t, "wide\r\nwide\r\n", "bad\nbad\n")
	wantRun(t, "wide\n\rwide\n", "0\nbad\n")
	wantRun(t, "wide\x00wide", "bad\n")
	wantRun(t, "wide\u0085wide\u2028wide", "bad\n")
	wantRun(t, "go 1\\ngo 1", "bad\n")
}

// TestTooLong: just MaxRun bytes are answered line by line, one more is too long, whatever the bytes are.
func TestTooLong(t *testing.T) {
	wides := strings.Repeat("wide\n", api.MaxRun/5)
	wantRun(t, wides, strings.Repeat("0\n", api.MaxRun/5))
	wantRun(t, wides[:api.MaxRun-1], strings.Repeat("0\n", api.MaxRun/5))
	wantRun(t, wides+"\n", tooLong)
	wantRun(t, wides+"w", tooLong)
	wantRun(t, strings.Repeat("\n", api.MaxRun), strings.Repeat("bad\n", api.MaxRun))
	wantRun(t, strings.Repeat("\n", api.MaxRun-1), strings.Repeat("bad\n", api.MaxRun-1))
	for _, one := range []string{"\n", "x", " ", "\x00", "\xff"} {
		for _, more := range []int{1, 2, 1000, api.MaxRun, 100 * api.MaxRun} {
			wantRun(t, strings.Repeat(one, api.MaxRun+more), tooLong)
		}
		if one != "\n" {
			wantRun(t, strings.Repeat(one, api.MaxRun), "bad\n")
		}
	}
	// Bytes are counted, not runes.
	wantRun(t, strings.Repeat("é", api.MaxRun/2), "bad\n")
	wantRun(t, strings.Repeat("é", api.MaxRun/2)+"x", tooLong)
	// A line that is taken is not done where all are too long.
	wantRun(t, "show 1\n"+strings.Repeat("x", api.MaxRun-7), "1000\nbad\n")
	wantRun(t, "show 1\n"+strings.Repeat("x", api.MaxRun-6), tooLong)
	// Time that goes on by all that a text has room for.
	goes := strings.Repeat("go 1000000\n", 272)
	wantRun(t, goes+"show 0", strings.Repeat("ok\n", 272)+"272027200\n")
}

// inserted at each place of a session, a line changes nothing of what the others tell.
func inserted(t *testing.T, session []string, line, answer string) {
	t.Helper()
	lines, answers := cut(session)
	for i := range len(lines) + 1 {
		text := joined(lines[:i]) + line + "\n" + joined(lines[i:])
		wantRun(t, text, joined(answers[:i])+answer+"\n"+joined(answers[i:]))
	}
}

// TestBadChangesNothing, and neither does what tells an error, or only tells.
func TestBadChangesNothing(t *testing.T) {
	for _, line := range badLines() {
		inserted(t, doubled, line, "bad")
	}
	for _, session := range sessions() {
		for _, line := range []string{"", "go", "go -1", "ask 0", "ask 0 1 2", "deliver x", "lose 00", " repeat 0", "REPEAT 0", "deliver 0\r", "fly"} {
			inserted(t, session, line, "bad")
		}
		for _, line := range []string{"go 1000001", "ask 0 3", "ask 3 3", "show 3", "offset 3 0"} {
			inserted(t, session, line, "ErrRange")
		}
		for _, line := range []string{"deliver 40", "lose 40", "repeat 40"} {
			inserted(t, session, line, "ErrNone")
		}
		inserted(t, session, "ask 1 1", "ErrShape")
		inserted(t, session, "offset 1 1", "0..0")
		inserted(t, session, "go 0", "ok")
		inserted(t, session, "date 86400", "1970-01-02T00:00:00")
	}
}

// firstLines of a text: for each number of them the answers are the beginning of those to all, and one more line's end is told, with byte 10 behind the last one and without.
func firstLines(t *testing.T, lines []string) {
	t.Helper()
	all := run.Run(joined(lines))
	answers := strings.SplitAfter(all, "\n")
	if len(answers) != len(lines)+1 {
		t.Fatalf("%q: got %q", lines, answers)
	}
	for k := range len(lines) + 1 {
		text, want := joined(lines[:k]), strings.Join(answers[:k], "")
		wantRun(t, text, want)
		if k > 0 && lines[k-1] != "" {
			wantRun(t, strings.TrimSuffix(text, "\n"), want)
		}
	}
}

func TestFirstLines(t *testing.T) {
	for _, session := range sessions() {
		lines, _ := cut(session)
		firstLines(t, lines)
	}
	firstLines(t, badLines()[:200])
	r := rand.New(rand.NewSource(201))
	for range 100 {
		firstLines(t, anyLines(r, 1+r.Intn(120)))
	}
}

// TestFirstLinesTooLong: of a text that is too long its first lines are answered as far as they are not.
func TestFirstLinesTooLong(t *testing.T) {
	lines, answers := cut(probed)
	text, want := joined(lines), joined(answers)
	for len(text) <= api.MaxRun {
		wantRun(t, text, want)
		text, want = text+"date 1234567\n", want+"1970-01-15T06:56:07\n"
	}
	wantRun(t, text, tooLong)
}

// TestApart: no session leaves anything to another one.
func TestApart(t *testing.T) {
	for _, session := range sessions() {
		lines, answers := cut(session)
		for _, other := range append(right, strings.Repeat("ask 0 1\n", 50), "\n", "go 1000000\ngo 1000000") {
			run.Run(other)
			wantRun(t, joined(lines), joined(answers))
		}
	}
}

// Each N of a line of the table.
const number = `(0|[1-9][0-9]{0,6})`

var (
	oneNumber  = regexp.MustCompile(`\A(go|deliver|lose|repeat|show|date) ` + number + `\z`)
	twoNumbers = regexp.MustCompile(`\A(ask|offset) ` + number + ` ` + number + `\z`)
)

// asTable answers a line by a Net, and seen counts by word what was answered.
func asTable(n *net.Net, line string, seen map[string]int) string {
	if line == "wide" {
		wide, err := n.Wide()
		return answered(line, strconv.Itoa(wide), err, seen)
	}
	m := oneNumber.FindStringSubmatch(line)
	if m == nil {
		m = twoNumbers.FindStringSubmatch(line)
	}
	if m == nil {
		seen["bad"]++
		return "bad"
	}
	var a, b int
	fmt.Sscan(m[2], &a)
	if len(m) > 3 {
		fmt.Sscan(m[3], &b)
	}
	switch m[1] {
	case "show":
		shown, err := n.Show(a)
		return answered(m[1], strconv.Itoa(shown), err, seen)
	case "offset":
		s, err := n.Offset(a, b)
		return answered(m[1], fmt.Sprintf("%d..%d", s.Lo, s.Hi), err, seen)
	case "date":
		return answered(m[1], time.Unix(int64(a), 0).UTC().Format("2006-01-02T15:04:05"), nil, seen)
	}
	what := map[string]int{"go": api.Go, "ask": api.Ask, "deliver": api.Deliver, "lose": api.Lose, "repeat": api.Repeat}[m[1]]
	return answered(m[1], "ok", n.Do(api.Act{What: what, A: a, B: b}), seen)
}

func answered(word, answer string, err error, seen map[string]int) string {
	seen[word+" "+plain.Told(err).Error()]++
	if err != nil {
		return plain.Told(err).Error()
	}
	return answer
}

// anyLine: mostly one that may be.
func anyLine(r *rand.Rand) string {
	pick := func(l ...string) string { return l[r.Intn(len(l))] }
	clock := func() string { return pick("0", "1", "2", "0", "1", "2", "0", "1", "2", "3") }
	letter := func() string { return pick("0", "0", "0", "1", "2", "5", "39") }
	switch r.Intn(16) {
	case 0, 1:
		return "go " + strconv.Itoa(r.Intn([]int{10, 1000, 100_000, 1_100_000}[r.Intn(4)]))
	case 2, 3, 4:
		return "ask " + clock() + " " + clock()
	case 5, 6, 7, 8:
		return "deliver " + letter()
	case 9:
		return "lose " + letter()
	case 10:
		return "repeat " + letter()
	case 11:
		return "show " + clock()
	case 12, 13:
		return "offset " + clock() + " " + clock()
	case 14:
		return "wide"
	}
	return "date " + strconv.Itoa(r.Intn(10_500_000))
}

// changed by a byte that is another one, is left out, or comes in.
func changed(r *rand.Rand, line string) string {
	i := r.Intn(len(line))
	one := string(" 0123456789-+x\t\rgs"[r.Intn(18)])
	switch r.Intn(3) {
	case 0:
		return line[:i] + line[i+1:]
	case 1:
		return line[:i] + one + line[i:]
	}
	return line[:i] + one + line[i+1:]
}

func anyLines(r *rand.Rand, n int) []string {
	lines := []string{}
	for range n {
		line := anyLine(r)
		if r.Intn(6) == 0 {
			line = changed(r, line)
		}
		lines = append(lines, line)
	}
	return lines
}

// TestAsTable: long sessions of any lines, each answered by a Net as the table says.
func TestAsTable(t *testing.T) {
	r := rand.New(rand.NewSource(202))
	seen := map[string]int{}
	for range 1_000 {
		n, err := net.New([]int{0, 1000, 50}, []int{100, -100, 0}, 100)
		if err != nil {
			t.Fatal(err)
		}
		lines := []string{}
		if r.Intn(4) == 0 {
			lines = strings.Split(strings.Repeat("ask 1 0,", api.MaxUnder-3)+"ask 2 1", ",")
		}
		lines = append(lines, anyLines(r, 200)...)
		answers := []string{}
		for _, line := range lines {
			answers = append(answers, asTable(n, line, seen))
		}
		wantRun(t, joined(lines), joined(answers))
		if t.Failed() {
			t.FailNow()
		}
	}
	for _, what := range []string{"bad", "go OK", "go ErrRange", "ask OK", "ask ErrRange", "ask ErrShape", "ask ErrFull", "deliver OK", "deliver ErrNone", "lose OK", "lose ErrNone", "repeat OK", "repeat ErrNone", "repeat ErrFull", "show OK", "show ErrRange", "offset OK", "offset ErrRange", "offset ErrNone", "wide OK", "date OK"} {
		if seen[what] < 30 {
			t.Errorf("%s was seen %d times alone", what, seen[what])
		}
	}
	if len(seen) != 21 {
		t.Errorf("other answers, too: %v", seen)
	}
}
