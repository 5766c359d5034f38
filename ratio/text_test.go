package ratio_test

import (
	"math/big"
	"regexp"
	"strconv"
	"strings"
	"testing"

	"heartwood/api"
	"heartwood/ratio"
)

// P4.4

func TestText(t *testing.T) {
	for _, a := range rightFracs() {
		wanted := valueOf(a).RatString()
		if s, err := ratio.Text(a); s != wanted || err != api.OK {
			t.Errorf("Text(%v) = %q %v, want %q", a, s, err, wanted)
		}
		if got, err := ratio.Parse(wanted); got != a || err != api.OK {
			t.Errorf("Parse(%q) = %v %v, want %v", wanted, got, err, a)
		}
	}
	for a, wanted := range map[api.Frac]string{
		frac(-3, 2): "-3/2", frac(0, 1): "0", frac(7, 1): "7", frac(-7, 1): "-7", frac(10, 3): "10/3", frac(1, 10): "1/10",
		frac(most, 1): "1073741824", frac(-most, 1): "-1073741824", frac(-1, most): "-1/1073741824", frac(most-1, most): "1073741823/1073741824",
	} {
		if s, err := ratio.Text(a); s != wanted || err != api.OK {
			t.Errorf("Text(%v) = %q %v, want %q", a, s, err, wanted)
		}
	}
	for _, a := range wrongFracs() {
		if s, err := ratio.Text(a); s != "" || err != api.ErrArg {
			t.Errorf("Text(%v) = %q %v", a, s, err)
		}
	}
}

func TestParseOfWrongTexts(t *testing.T) {
	for _, s := range []string{
		"", " ", "/", "-", "+", "a", "-/", "1/", "/1", "/2", "-/2", "1/-2", "-1/-2", "1/+2", "+1", "+1/2", "--1", "-0", "-0/1", "0/1", "0/2", "00", "01", "-01", "1/02", "01/2", "1/01", "1/1", "3/1", "-3/1", "2/2", "2/4", "6/3", "15/21", "1/0", "0/0", "1/00",
		" 1", "1 ", "1 /2", "1/ 2", "1/2 ", " 1/2", "1\n", "1/2\n", "\t1", "1/2\x00", "1//2", "1/2/3", "1/2/", "/1/2", "1.0", "1e3", "0x1", "1_0", "1_000", "0b1", "1,5", "½", "１", "−1",
		"1073741825", "-1073741825", "1/1073741825", "1073741825/1073741824", "1/2147483648", "4294967297", "18446744073709551617", "1/18446744073709551618", "-9223372036854775808", "1/9223372036854775807", "1/-9223372036854775808",
		strings.Repeat("1", 1<<20), strings.Repeat("/", 1<<20), "1/" + strings.Repeat("3", 1<<20), strings.Repeat("0", 100) + "1",
	} {
		if a, err := ratio.Parse(s); a != (api.Frac{}) || err != api.ErrForm {
			t.Errorf("Parse(%.60q) = %v %v", s, a, err)
		}
	}
}

// shaped returns the fraction with a text without the help of the package, for short texts.
func shaped(s string) (api.Frac, bool) {
	if !regexp.MustCompile(`^(0|-?[1-9][0-9]*)(/[1-9][0-9]*)?$`).MatchString(s) {
		return api.Frac{}, false
	}
	x, ok := new(big.Rat).SetString(s)
	if !ok || x.RatString() != s {
		return api.Frac{}, false
	}
	return frac(int(x.Num().Int64()), int(x.Denom().Int64())), true
}

// All texts of up to five of some characters are read.
func TestParseOfAllShortTexts(t *testing.T) {
	texts := []string{""}
	for i := 0; i < len(texts); i++ {
		s := texts[i]
		wanted, ok := shaped(s)
		if a, err := ratio.Parse(s); a != wanted || (err == api.OK) != ok || !ok && err != api.ErrForm {
			t.Errorf("Parse(%q) = %v %v, want %v", s, a, err, wanted)
		}
		if len(s) < 5 {
			for _, c := range "0126-/+ " {
				texts = append(texts, s+string(c))
			}
		}
	}
}

func TestParseOfAllSmallFracs(t *testing.T) {
	for num := -30; num <= 30; num++ {
		for den := 1; den <= 30; den++ {
			s := strconv.Itoa(num) + "/" + strconv.Itoa(den)
			wanted, ok := shaped(s)
			if a, err := ratio.Parse(s); a != wanted || (err == api.OK) != ok {
				t.Errorf("Parse(%q) = %v %v", s, a, err)
			}
		}
	}
}
