package money_test

import (
	"math/rand/v2"
	"strings"
	"testing"

	"quarterday/api"
	"quarterday/money"
)

// shown are amounts, places, and the text of both.
var shown = []struct {
	a, places int
	text      string
}{
	{0, 0, "0"},
	{0, 1, "0.0"},
	{0, 6, "0.000000"},
	{5, 0, "5"},
	{-5, 0, "-5"},
	{-5, 2, "-0.05"},
	{5, 2, "0.05"},
	{50, 2, "0.50"},
	{-99, 2, "-0.99"},
	{100, 2, "1.00"},
	{-100, 2, "-1.00"},
	{12345, 2, "123.45"},
	{10, 0, "10"},
	{10, 1, "1.0"},
	{1, 6, "0.000001"},
	{-1, 6, "-0.000001"},
	{1000000, 6, "1.000000"},
	{999999, 6, "0.999999"},
	{most, 0, "9223372036854775807"},
	{least, 0, "-9223372036854775808"},
	{most, 2, "92233720368547758.07"},
	{least, 2, "-92233720368547758.08"},
	{most, 6, "9223372036854.775807"},
	{least, 6, "-9223372036854.775808"},
}

func TestM3Show(t *testing.T) {
	for _, c := range shown {
		got, err := money.Show(c.a, c.places)
		told(t, "Show", err, api.OK)
		if got != c.text {
			t.Errorf("Show(%d, %d) = %q, want %q", c.a, c.places, got, c.text)
		}
	}
}

func TestM3Read(t *testing.T) {
	for _, c := range shown {
		got, err := money.Read(c.text, c.places)
		told(t, "Read of "+c.text, err, api.OK)
		if got != c.a {
			t.Errorf("Read(%q, %d) = %d, want %d", c.text, c.places, got, c.a)
		}
	}
}

func TestM3PlacesRange(t *testing.T) {
	for _, places := range []int{-1, api.MaxPlaces + 1, most, least} {
		text, err := money.Show(5, places)
		told(t, "Show", err, api.ErrRange)
		if text != "" {
			t.Errorf("Show(5, %d) = %q with an error", places, text)
		}
		for _, s := range []string{"5", "0.0000005", "", "x", "99999999999999999999"} {
			got, err := money.Read(s, places)
			told(t, "Read of "+s, err, api.ErrRange)
			if got != 0 {
				t.Errorf("Read(%q, %d) = %d with an error", s, places, got)
			}
		}
	}
}

func TestM3ReadSyntax(t *testing.T) {
	huge := strings.Repeat("9", 30)
	for places, texts := range map[int][]string{
		0: {"", "-", "--1", "+1", "-0", "00", "01", "-01", "0.", ".0", "1.", "1.0", ".", "-.", " 1", "1 ", "1-", "1_0", "0x1", "1e3",
			"a", "/", ":", "\x00", "\xff", "1\xff", "٣", "1\n", huge + "x", "x" + huge, "0" + huge, huge + ".0", "-0" + huge},
		1: {"", "-", ".", "-.", "0", "-0.0", "00.0", "01.5", "-01.5", ".5", "-.5", "5.", "0.55", "0..5", "1.-5", "1.x", "x.1", "1,5", "-", "1.5 ",
			"+1.5", "--1.5", huge, huge + ".", huge + ".55", "0" + huge + ".5", huge + ".x", "1.5.5", "1.5\n"},
		2: {"", "0", "0.0", "-0.00", "0.000", "00.00", ".00", "-.05", "0.-5", "0.5-", "1.2 ", "..00", "0...", "12.3", "1.234", "123", "-5",
			"1_0.00", "0. 5", "٣.00", huge, huge + ".0", huge + ".000", huge + "..00"},
		6: {"-0.000000", "0.00000", "0.0000000", ".000000", "-.000001", "1", "1000000", "00.000000", huge},
	} {
		for _, s := range texts {
			got, err := money.Read(s, places)
			told(t, "Read of "+s, err, api.ErrSyntax)
			if got != 0 {
				t.Errorf("Read(%q, %d) = %d with an error", s, places, got)
			}
		}
	}
}

func TestM3ReadOver(t *testing.T) {
	huge := "1" + strings.Repeat("0", 1000)
	for places, texts := range map[int][]string{
		0: {"9223372036854775808", "-9223372036854775809", "9999999999999999999", "-9999999999999999999", "10000000000000000000",
			"18446744073709551615", "18446744073709551616", "18446744073709551617", "-18446744073709551616", "36893488147419103233", huge, "-" + huge},
		2: {"92233720368547758.08", "-92233720368547758.09", "184467440737095516.17", "99999999999999999.99", huge + ".00", "-" + huge + ".01"},
		6: {"9223372036854.775808", "-9223372036854.775809", "18446744073709.551616", huge + ".000000"},
	} {
		for _, s := range texts {
			got, err := money.Read(s, places)
			told(t, "Read of "+s, err, api.ErrOver)
			if got != 0 {
				t.Errorf("Read(%q, %d) = %d with an error", s, places, got)
			}
		}
	}
}

func TestM3ReadOfShow(t *testing.T) {
	r := rand.New(rand.NewPCG(5, 6))
	for _, a := range edges(r) {
		for places := range api.MaxPlaces + 1 {
			text, err := money.Show(a, places)
			told(t, "Show", err, api.OK)
			got, err := money.Read(text, places)
			told(t, "Read of "+text, err, api.OK)
			if got != a {
				t.Errorf("Read(%q, %d) = %d, want %d", text, places, got, a)
			}
		}
	}
}

// TestM3ReadTakesShownOnly: of all short texts of some bytes just those are read that Show writes.
func TestM3ReadTakesShownOnly(t *testing.T) {
	texts := []string{""}
	for range 5 {
		for _, s := range texts {
			for _, b := range []byte("-.012x") {
				texts = append(texts, s+string(b))
			}
		}
	}
	for _, s := range texts {
		for places := range 4 {
			a, err := money.Read(s, places)
			if err != nil {
				told(t, "Read of "+s, err, api.ErrSyntax)
				continue
			}
			if text, _ := money.Show(a, places); text != s {
				t.Errorf("Read(%q, %d) = %d, which is shown as %q", s, places, a, text)
			}
		}
	}
}
