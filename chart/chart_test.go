package chart_test

import (
	"fmt"
	"math"
	"regexp"
	"slices"
	"strings"
	"testing"

	"quarterday/api"
	"quarterday/chart"
	"quarterday/plain"
)

const (
	most  = math.MaxInt
	least = math.MinInt
)

// told fails the test where an error is not the one that is wanted.
func told(t *testing.T, what string, err error, want api.Errno) {
	t.Helper()
	if got := plain.Told(err); got != want {
		t.Errorf("%s: error %v, want %v", what, got, want)
	}
}

// acc makes an account without Money.
func acc(code, name string, kind int, parent string) api.Account {
	return api.Account{Code: code, Name: name, Kind: kind, Parent: parent}
}

// full makes n accounts in which nothing is wrong but how many they may be.
func full(n int) (l []api.Account) {
	for i := range n {
		l = append(l, acc(fmt.Sprint(100+i), "x", api.Asset, ""))
	}
	return l
}

// house is a chart with all kinds, Money and none, and accounts three deep.
func house() []api.Account {
	return []api.Account{
		acc("1", "assets", api.Asset, ""),
		{Code: "10", Name: "Cash", Kind: api.Asset, Parent: "1", Money: true},
		{Code: "100", Name: "till-1", Kind: api.Asset, Parent: "10", Money: true},
		acc("101", "till-2", api.Asset, "10"),
		acc("11", "owed", api.Asset, "1"),
		{Code: "2", Name: "debts", Kind: api.Liability, Money: true},
		acc("3", "kept", api.Equity, ""),
		acc("4", "sales", api.Income, ""),
		acc("5", "costs", api.Expense, ""),
		acc("500000", "rent", api.Expense, "5"),
	}
}

// names are texts, and whether they may be a Name.
var names = []struct {
	s  string
	ok bool
}{
	{"a", true}, {"Z", true}, {"0", true}, {"9", true}, {"-", true}, {"--", true}, {"-a", true}, {"azAZ09-", true},
	{strings.Repeat("n", api.MaxName), true},
	{"", false}, {strings.Repeat("n", api.MaxName+1), false}, {strings.Repeat("n", 100000), false},
	{" ", false}, {"a b", false}, {"a ", false}, {" a", false}, {"a_b", false}, {"a.b", false}, {"a\n", false}, {"a\x00", false},
	{"é", false}, {"a\xff", false}, {"\x80", false}, {"ａ", false}, {"٣", false},
}

// codes are texts, and whether they may be a Code.
var codes = []struct {
	s  string
	ok bool
}{
	{"0", true}, {"9", true}, {"1", true}, {"000000", true}, {"999999", true}, {"012345", true}, {"00", true},
	{"", false}, {"1234567", false}, {"0000000", false}, {strings.Repeat("1", 100000), false},
	{"a", false}, {"1a", false}, {"-", false}, {"-1", false}, {"+1", false}, {" 1", false}, {"1 ", false}, {"1.0", false},
	{"1\n", false}, {"\x00", false}, {"1\xff", false}, {"٣", false}, {"１", false}, {"/", false}, {":", false},
}

func TestC1CheckTakes(t *testing.T) {
	for _, l := range [][]api.Account{
		nil,
		{},
		{acc("0", "a", api.Asset, "")},
		{acc("10", "a", api.Expense, ""), acc("1010", "a", api.Expense, "10"), acc("2", "a", api.Income, "")}, // by bytes, not numbers
		{acc("0", "a", api.Equity, ""), acc("00", "a", api.Equity, "0"), acc("000000", "a", api.Equity, "00"), acc("1", "a", api.Equity, "00")},
		house(),
		full(api.MaxChart),
	} {
		told(t, fmt.Sprint("Check of ", l), chart.Check(l), api.OK)
	}
}

func TestC1CheckWords(t *testing.T) {
	for _, c := range codes {
		want := api.ErrSyntax
		if c.ok {
			want = api.OK
		}
		told(t, fmt.Sprintf("Check of code %.20q", c.s), chart.Check([]api.Account{acc(c.s, "a", api.Asset, "")}), want)
	}
	for _, c := range names {
		want := api.ErrSyntax
		if c.ok {
			want = api.OK
		}
		told(t, fmt.Sprintf("Check of name %.30q", c.s), chart.Check([]api.Account{acc("1", c.s, api.Asset, "")}), want)
	}
}

// TestC1CheckAllBytes: at each place of a Code and a Name just the bytes of the chapter will do.
func TestC1CheckAllBytes(t *testing.T) {
	digit, letter := regexp.MustCompile(`\A[0-9]\z`), regexp.MustCompile(`\A[-0-9A-Za-z]\z`)
	for b := range 256 {
		one := string([]byte{byte(b)})
		for _, frame := range [][2]string{{"", ""}, {"", "1"}, {"1", ""}, {"1", "1"}} {
			word := frame[0] + one + frame[1]
			if got := chart.Check([]api.Account{acc(word, "a", api.Asset, "")}) == nil; got != digit.MatchString(one) {
				t.Errorf("code %q: taken: %v", word, got)
			}
			if got := chart.Check([]api.Account{acc("1", word, api.Asset, "")}) == nil; got != letter.MatchString(one) {
				t.Errorf("name %q: taken: %v", word, got)
			}
		}
	}
}

func TestC1CheckKinds(t *testing.T) {
	for kind := -3; kind <= 8; kind++ {
		want := api.ErrRange
		if kind >= 1 && kind <= 5 {
			want = api.OK
		}
		told(t, fmt.Sprint("Check of kind ", kind), chart.Check([]api.Account{acc("1", "a", kind, "")}), want)
	}
	for _, kind := range []int{most, least} {
		told(t, "Check", chart.Check([]api.Account{acc("1", "a", kind, "")}), api.ErrRange)
	}
}

// wrong are charts, and what Check tells of them.
var wrong = []struct {
	l   []api.Account
	err api.Errno
}{
	{[]api.Account{{}}, api.ErrSyntax},
	{[]api.Account{acc("", "a", api.Asset, "")}, api.ErrSyntax},
	{[]api.Account{acc("1234567", "a", api.Asset, "")}, api.ErrSyntax},
	{[]api.Account{acc("1", "", api.Asset, "")}, api.ErrSyntax},
	{[]api.Account{acc("1", strings.Repeat("a", 25), api.Asset, "")}, api.ErrSyntax},
	{[]api.Account{acc("1", "a", 0, "")}, api.ErrRange},
	{[]api.Account{acc("1", "a", 6, "")}, api.ErrRange},
	// codes that do not rise
	{[]api.Account{acc("1", "a", 1, ""), acc("1", "b", 1, "")}, api.ErrOrder},
	{[]api.Account{acc("2", "a", 1, ""), acc("1", "b", 1, "")}, api.ErrOrder},
	{[]api.Account{acc("2", "a", 1, ""), acc("10", "b", 1, "")}, api.ErrOrder},
	{[]api.Account{acc("10", "a", 1, ""), acc("1", "b", 1, "")}, api.ErrOrder},
	{[]api.Account{acc("1", "a", 1, ""), acc("01", "b", 1, "")}, api.ErrOrder},
	{[]api.Account{acc("1", "a", 1, ""), acc("3", "b", 1, ""), acc("2", "c", 1, "")}, api.ErrOrder},
	// a Parent that does not stand ahead
	{[]api.Account{acc("1", "a", 1, "1")}, api.ErrNone},
	{[]api.Account{acc("1", "a", 1, "2"), acc("2", "a", 1, "")}, api.ErrNone},
	{[]api.Account{acc("1", "a", 1, ""), acc("2", "a", 1, "3")}, api.ErrNone},
	{[]api.Account{acc("1", "a", 1, ""), acc("2", "a", 1, "01")}, api.ErrNone},
	{[]api.Account{acc("1", "a", 1, ""), acc("2", "a", 1, "a")}, api.ErrNone},
	{[]api.Account{acc("1", "a", 1, ""), acc("2", "a", 1, "-")}, api.ErrNone},
	{[]api.Account{acc("1", "a", 1, ""), acc("2", "a", 1, "1 ")}, api.ErrNone},
	// a Parent of another kind
	{[]api.Account{acc("1", "a", 1, ""), acc("2", "a", 2, "1")}, api.ErrKind},
	{[]api.Account{acc("1", "a", 5, ""), acc("2", "a", 4, ""), acc("3", "a", 4, "1")}, api.ErrKind},
	// of one account the fault that is named first
	{[]api.Account{acc("2", "a", 1, ""), acc("x", "a", 9, "9")}, api.ErrSyntax},
	{[]api.Account{acc("2", "a", 1, ""), acc("1", "", 9, "9")}, api.ErrSyntax},
	{[]api.Account{acc("2", "a", 1, ""), acc("1", "a", 9, "9")}, api.ErrRange},
	{[]api.Account{acc("2", "a", 1, ""), acc("1", "a", 1, "9")}, api.ErrOrder},
	{[]api.Account{acc("2", "a", 1, ""), acc("1", "a", 2, "2")}, api.ErrOrder},
	{[]api.Account{acc("2", "a", 1, ""), acc("3", "a", 0, "2")}, api.ErrRange},
	{[]api.Account{acc("2", "a", 1, ""), acc("3", "a", 2, "9")}, api.ErrNone},
	// of several accounts the first
	{[]api.Account{acc("1", "a", 1, "9"), acc("x", "a", 1, "")}, api.ErrNone},
	{[]api.Account{acc("1", "a", 1, ""), acc("2", "a", 2, "1"), acc("1", "a", 1, ""), acc("3", "", 1, "")}, api.ErrKind},
	{[]api.Account{acc("1", "a", 7, ""), acc("", "", 1, "")}, api.ErrRange},
	{append(full(api.MaxChart-1), acc("10", "a", 1, "")), api.ErrOrder},
	{append(full(api.MaxChart-1), acc("9", "a", 2, "100")), api.ErrKind},
	// too many, whatever else they have
	{full(api.MaxChart + 1), api.ErrFull},
	{make([]api.Account, api.MaxChart+1), api.ErrFull},
	{append([]api.Account{acc("x", "", 0, "")}, full(api.MaxChart)...), api.ErrFull},
}

func TestC1CheckWrong(t *testing.T) {
	for i, c := range wrong {
		told(t, fmt.Sprintf("%d: Check of %v", i, c.l), chart.Check(c.l), c.err)
	}
}

// TestC1AllSayCheckFirst: whatever else is wrong, and with nothing else in the answer.
func TestC1AllSayCheckFirst(t *testing.T) {
	for i, c := range wrong {
		text, err := chart.Print(c.l)
		told(t, fmt.Sprint(i, ": Print"), err, c.err)
		leaves, err := chart.Leaves(c.l)
		told(t, fmt.Sprint(i, ": Leaves"), err, c.err)
		if text != "" || len(leaves) != 0 {
			t.Errorf("%d: Print, Leaves = %q, %q with an error", i, text, leaves)
		}
		for _, code := range []string{"", "1", "2", "x", "77"} {
			a, err := chart.Find(c.l, code)
			told(t, fmt.Sprint(i, ": Find"), err, c.err)
			under, err := chart.Under(c.l, code)
			told(t, fmt.Sprint(i, ": Under"), err, c.err)
			if a != (api.Account{}) || len(under) != 0 {
				t.Errorf("%d: Find, Under of %q = %v, %q with an error", i, code, a, under)
			}
		}
		for _, n := range []int{0, len(c.l), len(c.l) + 1} {
			sums, err := chart.Roll(c.l, slices.Repeat([]int{most}, n))
			told(t, fmt.Sprint(i, ": Roll"), err, c.err)
			if len(sums) != 0 {
				t.Errorf("%d: Roll = %v with an error", i, sums)
			}
		}
	}
}

func TestC1Find(t *testing.T) {
	for _, l := range [][]api.Account{house(), full(api.MaxChart)} {
		for _, want := range l {
			got, err := chart.Find(l, want.Code)
			told(t, "Find", err, api.OK)
			if got != want {
				t.Errorf("Find(%q) = %v, want %v", want.Code, got, want)
			}
		}
	}
	for _, code := range []string{"", "-", "0", "01", "1 ", "12", "1000", "6", "till-1", "x", "1\x00"} {
		for _, l := range [][]api.Account{nil, house()} {
			got, err := chart.Find(l, code)
			told(t, fmt.Sprintf("Find of %q", code), err, api.ErrNone)
			if got != (api.Account{}) {
				t.Errorf("Find(%q) = %v with an error", code, got)
			}
		}
	}
}

// TestC1ChartStays: no call writes into a chart, or reads what lies behind it.
func TestC1ChartStays(t *testing.T) {
	memory := append(house(), acc("x", "", 0, "9"), acc("501", "a", api.Expense, "5"))
	l, was := memory[:len(house())], slices.Clone(memory)
	told(t, "Check", chart.Check(l), api.OK)
	_, err := chart.Find(l, "501")
	told(t, "Find", err, api.ErrNone)
	text, err := chart.Print(l)
	told(t, "Print", err, api.OK)
	again, err := chart.Print(l)
	told(t, "Print", err, api.OK)
	under, err := chart.Under(l, "5")
	told(t, "Under", err, api.OK)
	amounts := slices.Repeat([]int{1}, len(memory))
	sums, err := chart.Roll(l, amounts[:len(l)])
	told(t, "Roll", err, api.OK)
	leaves, err := chart.Leaves(l)
	told(t, "Leaves", err, api.OK)
	if text != again || strings.Contains(text, "501") || !slices.Equal(under, []string{"5", "500000"}) {
		t.Errorf("Print, Under = %q, %q", text, under)
	}
	clear(under)
	clear(sums)
	clear(leaves)
	if !slices.Equal(memory, was) || !slices.Equal(amounts, slices.Repeat([]int{1}, len(memory))) {
		t.Errorf("chart is %v now, was %v; amounts are %v", memory, was, amounts)
	}
}
