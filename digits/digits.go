// Package digits writes and reads numbers of a set width, as dates have them: strconv would take signs, and any width.
package digits

import (
	"strconv"
)

// Two writes a number from 0 to 99.
func Two(n int) string {
	if n < 10 {
		return "0" + strconv.Itoa(n)
	}
	return strconv.Itoa(n)
}

// Fits tells whether a text is just a form, in which each 0 stands for any digit.
func Fits(text, form string) bool {
	if len(text) != len(form) {
		return false
	}
	for i := range len(form) {
		if form[i] != '0' && text[i] != form[i] {
			return false
		}
		if form[i] == '0' && (text[i] < '0' || text[i] > '9') {
			return false
		}
	}
	return true
}

// Value of a text that is digits alone.
func Value(text string) int {
	n := 0
	for i := range len(text) {
		n = 10*n + int(text[i]-'0')
	}
	return n
}
