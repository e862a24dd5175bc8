package digits_test

import (
	"fmt"
	"testing"

	"noonmark/digits"
)

func TestTwo(t *testing.T) {
	for n := range 100 {
		if got, want := digits.Two(n), fmt.Sprintf("%02d", n); got != want {
			t.Errorf("Two(%d): got %q; want %q", n, got, want)
		}
	}
}

func TestFits(t *testing.T) {
	for _, c := range []struct {
		text, form string
		want       bool
	}{
		{"", "", true}, {"", "0", false}, {"7", "", false},
		{"0", "0", true}, {"9", "0", true}, {"/", "0", false}, {":", "0", false}, {"-", "0", false}, {"+", "0", false},
		{"12:34", "00:00", true}, {"12:3", "00:00", false}, {"12:345", "00:00", false}, {"12-34", "00:00", false},
		{"12:34", "00-00", false}, {"1234", "0000", true}, {"1a34", "0000", false}, {"1T3", "0T0", true}, {"1t3", "0T0", false},
		{"٧", "00", false}, {"\xff", "0", false}, {"\x00", "0", false},
	} {
		if got := digits.Fits(c.text, c.form); got != c.want {
			t.Errorf("Fits(%q, %q): got %v; want %v", c.text, c.form, got, c.want)
		}
	}
}

func TestValue(t *testing.T) {
	for text, want := range map[string]int{"": 0, "0": 0, "00": 0, "07": 7, "60": 60, "99": 99, "1970": 1970, "0012": 12} {
		if got := digits.Value(text); got != want {
			t.Errorf("Value(%q): got %d; want %d", text, got, want)
		}
	}
}
