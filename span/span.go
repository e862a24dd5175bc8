// Package span has times from when to when.
package span

import (
	"strconv"
	"strings"

	"noonmark/api"
)

const (
	between   = ".."
	maxDigits = 13
)

// Check tells what is wrong with a span.
func Check(s api.Span) error {
	if s.Lo > s.Hi || s.Lo < -api.MaxTime || s.Hi > api.MaxTime {
		return api.ErrRange
	}
	return nil
}

// Meet of two.
func Meet(a, b api.Span) (api.Span, error) {
	if err := checkBoth(a, b); err != nil {
		return api.Span{}, err
	}
	m := api.Span{Lo: max(a.Lo, b.Lo), Hi: min(a.Hi, b.Hi)}
	if m.Lo > m.Hi {
		return api.Span{}, api.ErrNone
	}
	return m, nil
}

// Hull of two.
func Hull(a, b api.Span) (api.Span, error) {
	if err := checkBoth(a, b); err != nil {
		return api.Span{}, err
	}
	return api.Span{Lo: min(a.Lo, b.Lo), Hi: max(a.Hi, b.Hi)}, nil
}

// Add two.
func Add(a, b api.Span) (api.Span, error) {
	if err := checkBoth(a, b); err != nil {
		return api.Span{}, err
	}
	return checked(api.Span{Lo: a.Lo + b.Lo, Hi: a.Hi + b.Hi})
}

// Turn one.
func Turn(a api.Span) (api.Span, error) {
	if err := Check(a); err != nil {
		return api.Span{}, err
	}
	return api.Span{Lo: -a.Hi, Hi: -a.Lo}, nil
}

// Widen one.
func Widen(a api.Span, n int) (api.Span, error) {
	if err := Check(a); err != nil {
		return api.Span{}, err
	}
	// Asked ahead of any sum, so that none can wrap round.
	if n < 0 || n > api.MaxTime {
		return api.Span{}, api.ErrRange
	}
	return checked(api.Span{Lo: a.Lo - n, Hi: a.Hi + n})
}

// Has it a number?
func Has(a api.Span, n int) (bool, error) {
	if err := Check(a); err != nil {
		return false, err
	}
	return a.Lo <= n && n <= a.Hi, nil
}

// Before: is one surely?
func Before(a, b api.Span) (bool, error) {
	if err := checkBoth(a, b); err != nil {
		return false, err
	}
	return a.Hi < b.Lo, nil
}

// Print a span.
func Print(a api.Span) (string, error) {
	if err := Check(a); err != nil {
		return "", err
	}
	return strconv.Itoa(a.Lo) + between + strconv.Itoa(a.Hi), nil
}

// Parse a span.
func Parse(text string) (api.Span, error) {
	// No number has a dot, so the first cut is the only one that can be right.
	first, second, found := strings.Cut(text, between)
	if !found {
		return api.Span{}, api.ErrSyntax
	}
	lo, loOk := readNumber(first)
	hi, hiOk := readNumber(second)
	if !loOk || !hiOk {
		return api.Span{}, api.ErrSyntax
	}
	return checked(api.Span{Lo: lo, Hi: hi})
}

// checked hands a span on only if it is one: with an error goes the zero span.
func checked(s api.Span) (api.Span, error) {
	if err := Check(s); err != nil {
		return api.Span{}, err
	}
	return s, nil
}

func checkBoth(a, b api.Span) error {
	if err := Check(a); err != nil {
		return err
	}
	return Check(b)
}

// readNumber takes just what Print writes of a number, which strconv alone does not: it also takes "+1", "007" and "-0".
func readNumber(text string) (int, bool) {
	digits := strings.TrimPrefix(text, "-")
	if len(digits) < 1 || len(digits) > maxDigits || !allDigits(digits) {
		return 0, false
	}
	if digits[0] == '0' && text != "0" {
		return 0, false
	}
	n, err := strconv.Atoi(text)
	return n, err == nil
}

func allDigits(text string) bool {
	for i := range len(text) {
		if text[i] < '0' || text[i] > '9' {
			return false
		}
	}
	return true
}
