package money

import (
	"strconv"
	"strings"

	"quarterday/api"
)

// maxDigits is how many digits fit into 64 bits without a sign, whatever they are.
const maxDigits = 19

// Show writes an amount.
func Show(a, places int) (string, error) {
	if !arePlaces(places) {
		return "", api.ErrRange
	}
	digits := strconv.FormatUint(size(a), 10)
	digits = strings.Repeat("0", max(0, places+1-len(digits))) + digits
	text := withPoint(digits, places)
	if a < 0 {
		text = "-" + text
	}
	return text, nil
}

// Read reads an amount.
func Read(s string, places int) (int, error) {
	if !arePlaces(places) {
		return 0, api.ErrRange
	}
	text, below := strings.CutPrefix(s, "-")
	digits, ok := withoutPoint(text, places)
	if !ok || !isShown(digits, places) {
		return 0, api.ErrSyntax
	}
	if len(digits) > maxDigits { // so many do not begin with 0: it is 10^19 at least
		return 0, api.ErrOver
	}
	n, err := strconv.ParseUint(digits, 10, 64)
	if err != nil || below && n == 0 {
		return 0, api.ErrSyntax
	}
	return signed(n, 0, below)
}

// arePlaces tells whether an amount may have so many places.
func arePlaces(places int) bool {
	return places >= 0 && places <= api.MaxPlaces
}

// withPoint sets the point of so many places, of which there is none of 0.
func withPoint(digits string, places int) string {
	if places == 0 {
		return digits
	}
	point := len(digits) - places
	return digits[:point] + "." + digits[point:]
}

// withoutPoint takes out the point that withPoint sets; ok tells whether it is there.
func withoutPoint(text string, places int) (digits string, ok bool) {
	if places == 0 {
		return text, true
	}
	point := len(text) - places - 1
	if point < 0 || text[point] != '.' {
		return "", false
	}
	return text[:point] + text[point+1:], true
}

// isShown tells whether Show writes such digits: one at least ahead of the places, and no needless 0 there.
func isShown(digits string, places int) bool {
	ahead := len(digits) - places
	if ahead < 1 || ahead > 1 && digits[0] == '0' {
		return false
	}
	return !strings.ContainsFunc(digits, func(r rune) bool { return r < '0' || r > '9' })
}
