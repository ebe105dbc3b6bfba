package chart_test

import (
	"fmt"
	"math/rand/v2"
	"regexp"
	"slices"
	"strings"
	"testing"

	"quarterday/api"
	"quarterday/chart"
	"quarterday/plain"
)

const houseText = `1 assets A - -
10 Cash A m 1
100 till-1 A m 10
101 till-2 A - 10
11 owed A - 1
2 debts L m -
3 kept E - -
4 sales I - -
5 costs X - -
500000 rent X - 5
`

// fullText is n lines in which nothing is wrong but how many they may be.
func fullText(n int) string {
	var text strings.Builder
	for i := range n {
		fmt.Fprintf(&text, "%d x A - -\n", 100+i)
	}
	return text.String()
}

// parsed checks Parse.
func parsed(t *testing.T, text string, want []api.Account, line int, bad api.Errno) {
	t.Helper()
	got, at, err := chart.Parse(text)
	if !slices.Equal(got, want) || at != line || plain.Told(err) != bad {
		t.Errorf("Parse(%.900q) = %v, %d, %v, want %v, %d, %v", text, got, at, err, want, line, bad)
	}
}

func TestC2Print(t *testing.T) {
	for _, c := range []struct {
		l    []api.Account
		want string
	}{
		{nil, ""},
		{[]api.Account{}, ""},
		{house(), houseText},
		{full(api.MaxChart), fullText(api.MaxChart)},
		{[]api.Account{acc("000000", "-", api.Expense, "")}, "000000 - X - -\n"},
		{[]api.Account{acc("0", strings.Repeat("Z", api.MaxName), api.Liability, "")}, "0 " + strings.Repeat("Z", api.MaxName) + " L - -\n"},
		{[]api.Account{{Code: "7", Name: "m", Kind: api.Equity, Money: true}}, "7 m E m -\n"},
	} {
		got, err := chart.Print(c.l)
		told(t, "Print", err, api.OK)
		if got != c.want {
			t.Errorf("Print(%v) = %q, want %q", c.l, got, c.want)
		}
		parsed(t, c.want, c.l, 0, api.OK)
	}
}

// TestC2ParseWords: what is wrong with the words of a line, as the first line and behind others.
func TestC2ParseWords(t *testing.T) {
	for _, line := range []string{
		"", " ", "    ", "9", "9 a A -", "9 a A - ", "9 a A -  -", "9 a A - - ", "9 a A - - -", " 9 a A - -", "9  a A - -", "9 a  A - -",
		"9\ta A - -", "9 a A - -\r", "9 a A - -\x00", "9 a A - -x", "9 a A --", "9,a,A,-,-", "9 a b A - -",
		"9 a  - -", "9 a a - -", "9 a B - -", "9 a AL - -", "9 a ALEIX - -", "9 a 1 - -", "9 a - - -", "9 a \xff - -",
		"9 a A  -", "9 a A M -", "9 a A mm -", "9 a A m- -", "9 a A x -", "9 a A 1 -",
		"9 a A - --", "9 a A - -0", "9 a A - 0-", "9 a A - a", "9 a A - 1000000", "9 a A - 1234567", "9 a A - 1x", "9 a A - +1", "9 a A - ٣",
		"x a A - -", "- a A - -", "1234567 a A - -", " a A - -", "9  A - -", "9 a.b A - -", "9 " + strings.Repeat("a", 25) + " A - -",
		strings.Repeat(" ", 100000), strings.Repeat("9", 100000),
	} {
		for _, behind := range []string{"\n", "\n9 a A - -\n", "\nx\n"} {
			parsed(t, line+behind, nil, 0, api.ErrSyntax)
			parsed(t, "1 a A - -\n"+line+behind, nil, 1, api.ErrSyntax)
			parsed(t, houseText+line+behind, nil, 10, api.ErrSyntax)
		}
	}
	for _, c := range codes {
		parsed(t, c.s+" a A - -\n", wantIf(c.ok, acc(c.s, "a", api.Asset, "")), 0, errIf(c.ok))
	}
	for _, c := range names {
		parsed(t, "1 "+c.s+" A - -\n", wantIf(c.ok, acc("1", c.s, api.Asset, "")), 0, errIf(c.ok))
	}
}

func wantIf(ok bool, a api.Account) []api.Account {
	if ok {
		return []api.Account{a}
	}
	return nil
}

func errIf(ok bool) api.Errno {
	if ok {
		return api.OK
	}
	return api.ErrSyntax
}

// TestC2ParseEnd: a last line without its byte 10 is wrong, whatever else it has.
func TestC2ParseEnd(t *testing.T) {
	parsed(t, "", nil, 0, api.OK)
	parsed(t, "\n", nil, 0, api.ErrSyntax)
	parsed(t, "1 a A - -", nil, 0, api.ErrSyntax)
	parsed(t, "1 a A - 7", nil, 0, api.ErrSyntax)
	parsed(t, "1 a A - -\n\n", nil, 1, api.ErrSyntax)
	parsed(t, "1 a A - -\n2 a A - -", nil, 1, api.ErrSyntax)
	parsed(t, "1 a A - -\n1 a A - -", nil, 1, api.ErrSyntax)
	parsed(t, "1 a A - -\n2 a L - 1", nil, 1, api.ErrSyntax)
	parsed(t, "1 a A - -\r\n", nil, 0, api.ErrSyntax)
	parsed(t, strings.TrimSuffix(houseText, "\n"), nil, 9, api.ErrSyntax)
	parsed(t, strings.TrimSuffix(fullText(60), "\n"), nil, 59, api.ErrSyntax)
}

func TestC2ParseFull(t *testing.T) {
	ahead := fullText(api.MaxChart)
	parsed(t, ahead, full(api.MaxChart), 0, api.OK)
	for _, c := range []struct {
		line string
		err  api.Errno
	}{
		{"9 a A - -\n", api.ErrFull},
		{"9 a A - -\nx\n", api.ErrFull},
		{"100 a A - -\n", api.ErrFull}, // does not rise
		{"9 a A - 7\n", api.ErrFull},   // no such Parent
		{"9 a L - 100\n", api.ErrFull}, // of another kind
		{"x a A - -\n", api.ErrFull},   // five words still: Code and Name are Check's
		{"9 a.b A - -\n", api.ErrFull},
		{"9 a A - -", api.ErrSyntax},
		{"\n", api.ErrSyntax},
		{"9 a A -\n", api.ErrSyntax},
		{"9 a A - - -\n", api.ErrSyntax},
		{"9 a B - -\n", api.ErrSyntax},
		{"9 a A x -\n", api.ErrSyntax},
		{"9 a A - x\n", api.ErrSyntax},
	} {
		parsed(t, ahead+c.line, nil, 60, c.err)
	}
	parsed(t, fullText(1000), nil, 60, api.ErrFull)
	// the first line that is wrong, of however many
	parsed(t, strings.Replace(fullText(61), "107 x", "106 x", 1), nil, 7, api.ErrOrder)
	parsed(t, strings.Replace(fullText(61), "159 x A", "159 x Q", 1), nil, 59, api.ErrSyntax)
}

func TestC2ParseCheck(t *testing.T) {
	for _, c := range []struct {
		text string
		line int
		err  api.Errno
	}{
		{"1 a A - 1\n", 0, api.ErrNone},
		{"1 a A - 0\n", 0, api.ErrNone},
		{"1 a A - 999999\n", 0, api.ErrNone},
		{"1 a A - 2\n2 a A - -\n", 0, api.ErrNone},
		{"1 a A - -\n2 a A - 01\n", 1, api.ErrNone},
		{"1 a A - -\n1 a A - -\n", 1, api.ErrOrder},
		{"2 a A - -\n10 a A - -\n", 1, api.ErrOrder},
		{"2 a A - -\n10 a L - 2\n", 1, api.ErrOrder},
		{"2 a A - -\n1 a. L - 2\n", 1, api.ErrSyntax},
		{"1 a A - -\n2 a L - 1\n", 1, api.ErrKind},
		{"1 a A - -\n2 a L - -\n3 a X - 2\n4 a X\n", 2, api.ErrKind},
		{"1 a A - -\n2 a L - 3\nx\n", 1, api.ErrNone},
		{houseText + "500001 a X - 4\n", 10, api.ErrKind},
		{houseText + "500001 a X - 500001\n", 10, api.ErrNone},
		{houseText + "500000 a X - 5\n", 10, api.ErrOrder},
	} {
		parsed(t, c.text, nil, c.line, c.err)
	}
}

// TestC2ParseIsFresh: two answers share nothing.
func TestC2ParseIsFresh(t *testing.T) {
	one, _, err := chart.Parse(houseText)
	told(t, "Parse", err, api.OK)
	other, _, err := chart.Parse(houseText)
	told(t, "Parse", err, api.OK)
	clear(other)
	if !slices.Equal(one, house()) {
		t.Errorf("chart became %v", one)
	}
}

// TestC2ParseAgainstSlow breaks texts of charts at random.
func TestC2ParseAgainstSlow(t *testing.T) {
	r := rand.New(rand.NewPCG(9, 10))
	seen := map[api.Errno]int{}
	for range 15000 {
		text := someText(r)
		want, line, bad := slowParse(text)
		seen[bad]++
		parsed(t, text, want, line, bad)
		if bad != api.OK {
			continue
		}
		again, err := chart.Print(want)
		if again != text || err != nil {
			t.Errorf("Print(%v) = %q, %v, want %q", want, again, err, text)
		}
	}
	for _, e := range []api.Errno{api.OK, api.ErrSyntax, api.ErrFull, api.ErrOrder, api.ErrNone, api.ErrKind} {
		if seen[e] < 50 {
			t.Errorf("only %d of %v", seen[e], e)
		}
	}
}

// someText is a text of a chart, most times with a byte or a line changed.
func someText(r *rand.Rand) string {
	text := []string{houseText, fullText(3), fullText(60), fullText(61), fullText(62), ""}[r.IntN(6)]
	if len(text) == 0 {
		return text
	}
	i, j := r.IntN(len(text)), r.IntN(len(text))
	more := []string{"\n", " ", "-", "0", "1", "5", "9", "A", "X", "m", "x", "é", "\xff"}[r.IntN(13)]
	lines := strings.SplitAfter(text, "\n")
	a, b := r.IntN(len(lines)), r.IntN(len(lines))
	switch r.IntN(8) {
	case 0:
		return text[:i] + text[i+1:]
	case 1:
		return text[:i] + more + text[i:]
	case 2:
		return text[:i] + more + text[i+1:]
	case 3:
		return text[:i]
	case 4:
		lines[a], lines[b] = lines[b], lines[a]
		return strings.Join(lines, "")
	case 5:
		lines[a] = fmt.Sprintf("%d x %c - %d\n", r.IntN(200), "ALEIX"[r.IntN(5)], r.IntN(200))
		return strings.Join(lines, "")
	case 6:
		return text[:max(i, j)] + text[min(i, j):]
	}
	return text
}

// What a line has, and what a Code and a Name are.
var (
	lineForm = regexp.MustCompile(`\A([^ \n]*) ([^ \n]*) ([ALEIX]) ([m-]) (-|[0-9]{1,6})\n\z`)
	codeForm = regexp.MustCompile(`\A[0-9]{1,6}\z`)
	nameForm = regexp.MustCompile(`\A[-0-9A-Za-z]{1,24}\z`)
)

// slowParse holds each line against the forms, and asks its account against all ahead.
func slowParse(text string) (l []api.Account, line int, err api.Errno) {
	for i, s := range strings.SplitAfter(text, "\n") {
		if s == "" { // what is behind the last byte 10
			break
		}
		w := lineForm.FindStringSubmatch(s)
		if w == nil {
			return nil, i, api.ErrSyntax
		}
		a := api.Account{Code: w[1], Name: w[2], Money: w[4] == "m"}
		a.Kind = map[string]int{"A": 1, "L": 2, "E": 3, "I": 4, "X": 5}[w[3]]
		kinds := map[string]int{"-": a.Kind}
		for _, b := range l {
			kinds[b.Code] = b.Kind
		}
		switch {
		case i >= 60:
			return nil, i, api.ErrFull
		case !codeForm.MatchString(a.Code) || !nameForm.MatchString(a.Name):
			return nil, i, api.ErrSyntax
		case i > 0 && strings.Compare(l[i-1].Code, a.Code) >= 0:
			return nil, i, api.ErrOrder
		case kinds[w[5]] == 0:
			return nil, i, api.ErrNone
		case kinds[w[5]] != a.Kind:
			return nil, i, api.ErrKind
		}
		if w[5] != "-" {
			a.Parent = w[5]
		}
		l = append(l, a)
	}
	return l, 0, api.OK
}
