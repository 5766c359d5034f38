package ratio

import (
	"strconv"
	"strings"

	"heartwood/api"
)

// Text returns the text of a fraction.
func Text(a api.Frac) (string, api.Errno) {
	if !Valid(a) {
		return "", api.ErrArg
	}
	num := strconv.Itoa(a.Num)
	if a.Den == 1 {
		return num, api.OK
	}
	return num + "/" + strconv.Itoa(a.Den), api.OK
}

// Parse returns the fraction with a text.
func Parse(s string) (api.Frac, api.Errno) {
	before, after, divided := strings.Cut(s, "/")
	if !divided {
		after = "1"
	}
	num, err := strconv.Atoi(before)
	if err != nil {
		return api.Frac{}, api.ErrForm
	}
	den, err := strconv.Atoi(after)
	if err != nil {
		return api.Frac{}, api.ErrForm
	}
	// Numbers may be written in several ways, of which a text has one alone.
	a := api.Frac{Num: num, Den: den}
	if text, wrong := Text(a); wrong != api.OK || text != s {
		return api.Frac{}, api.ErrForm
	}
	return a, api.OK
}
