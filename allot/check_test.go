package allot_test

import (
	"fmt"
	"math"
	"slices"
	"strings"
	"testing"

	"quarterday/allot"
	"quarterday/api"
	"quarterday/plain"
)

const (
	most  = math.MaxInt
	least = math.MinInt
	big15 = api.MaxAmount
	big18 = 1_000_000_000_000_000_000
)

// house is a chart of 33 accounts, in which 1, 10 and 5 are no leaves; 600 to 622 are 23 of the leaves.
func house() []api.Account {
	l := []api.Account{
		{Code: "1", Name: "assets", Kind: api.Asset},
		{Code: "10", Name: "cash", Kind: api.Asset, Parent: "1", Money: true},
		{Code: "100", Name: "till-1", Kind: api.Asset, Parent: "10", Money: true},
		{Code: "101", Name: "till-2", Kind: api.Asset, Parent: "10"},
		{Code: "11", Name: "owed", Kind: api.Asset, Parent: "1"},
		{Code: "2", Name: "debts", Kind: api.Liability, Money: true},
		{Code: "3", Name: "kept", Kind: api.Equity},
		{Code: "4", Name: "sales", Kind: api.Income},
		{Code: "5", Name: "costs", Kind: api.Expense},
		{Code: "500000", Name: "rent", Kind: api.Expense, Parent: "5"},
	}
	for i := range 23 {
		l = append(l, api.Account{Code: fmt.Sprint(600 + i), Name: "more", Kind: api.Expense})
	}
	return l
}

// leaves are n codes, from 600 on.
func leaves(n int) (l []string) {
	for i := range n {
		l = append(l, fmt.Sprint(600+i))
	}
	return l
}

// pool makes one of euros.
func pool(account string, to []string, weights ...int) api.Pool {
	return api.Pool{Account: account, Cur: "EUR", To: to, Weights: weights}
}

// good is a pool with which nothing is wrong.
func good() api.Pool {
	return pool("100", []string{"11", "2", "3"}, 1, 2, 3)
}

// bal makes a balance.
func bal(entity int, account, cur string, amount int) api.Balance {
	return api.Balance{Entity: entity, Account: account, Cur: cur, Amount: amount}
}

// short is as much of a list as is worth telling.
func short(l any) string {
	return fmt.Sprintf("%.300s", fmt.Sprint(l))
}

// told fails the test where Check does not say that of pools, or where Entries, with nothing else or all else wrong, does not.
func told(t *testing.T, c []api.Account, l []api.Pool, want api.Errno) {
	t.Helper()
	if got := plain.Told(allot.Check(c, l)); got != want {
		t.Errorf("Check of %s = %v, want %v", short(l), got, want)
	}
	got, err := allot.Entries(c, l, nil, 1, 1)
	if plain.Told(err) != want || len(got) != 0 {
		t.Errorf("Entries of %s = %s, %v, want %v", short(l), short(got), err, want)
	}
	if want == api.OK {
		return
	}
	got, err = allot.Entries(c, l, []api.Balance{bal(1, "100", "EUR", 0), bal(0, "", "", least)}, 0, 121)
	if plain.Told(err) != want || len(got) != 0 {
		t.Errorf("Entries of %s, and of what is wrong behind, = %s, %v, want %v", short(l), short(got), err, want)
	}
}

func TestA1CheckTakes(t *testing.T) {
	for _, l := range [][]api.Pool{
		nil,
		{},
		{good()},
		{good(), good(), good()}, // pools may be alike
		{pool("2", []string{"3"}, 1)},
		{pool("2", []string{"3"}, api.MaxRatio)},
		{pool("2", []string{"3", "4"}, 0, 1)},
		{pool("2", []string{"3", "4"}, 1, 0)},
		{pool("2", []string{"3", "4"}, api.MaxRatio, api.MaxRatio)},
		{pool("2", []string{"3"}, 1), pool("3", []string{"2"}, 1)}, // to each other
		{pool("500000", []string{"101", "4"}, 5, 5)},               // of all kinds
		{{Account: "2", Cur: "AZZ", To: []string{"3"}, Weights: []int{1}}, {Account: "2", Cur: "ZAA", To: []string{"3"}, Weights: []int{1}}},
	} {
		told(t, house(), l, api.OK)
	}
	told(t, nil, nil, api.OK)
	told(t, []api.Account{}, []api.Pool{}, api.OK)
}

// wrongCharts are charts, and what is wrong with them.
func wrongCharts() []wrongChart {
	other := func(at int, change func(a *api.Account)) []api.Account {
		l := house()
		change(&l[at])
		return l
	}
	long := make([]api.Account, api.MaxChart+1)
	for i := range long {
		long[i] = api.Account{Code: fmt.Sprint(100 + i), Name: "a", Kind: api.Asset}
	}
	return []wrongChart{
		{long, api.ErrFull},
		{other(0, func(a *api.Account) { a.Code = "" }), api.ErrSyntax},
		{other(5, func(a *api.Account) { a.Code = "2000000" }), api.ErrSyntax},
		{other(32, func(a *api.Account) { a.Name = "" }), api.ErrSyntax},
		{other(6, func(a *api.Account) { a.Name = "a b" }), api.ErrSyntax},
		{other(6, func(a *api.Account) { a.Name = strings.Repeat("a", 25) }), api.ErrSyntax},
		{other(32, func(a *api.Account) { a.Kind = 6 }), api.ErrRange},
		{other(0, func(a *api.Account) { a.Kind = 0 }), api.ErrRange},
		{other(6, func(a *api.Account) { a.Code = "2" }), api.ErrOrder},
		{other(2, func(a *api.Account) { a.Parent = "9" }), api.ErrNone},
		{other(32, func(a *api.Account) { a.Parent = "2" }), api.ErrKind},
	}
}

type wrongChart struct {
	c   []api.Account
	err api.Errno
}

// TestA1Chart: what is wrong with a chart is told ahead of all, whatever the pools are.
func TestA1Chart(t *testing.T) {
	for _, w := range wrongCharts() {
		for _, l := range [][]api.Pool{nil, {good()}, {{}}, {pool("9", nil)}, {pool("1", []string{"1"}, -1)}, make([]api.Pool, api.MaxRules+1)} {
			told(t, w.c, l, w.err)
		}
	}
}

// TestA1MaxRules: as many pools as may be, and one more, ahead of what is wrong with one.
func TestA1MaxRules(t *testing.T) {
	for _, n := range []int{1, 19, api.MaxRules} {
		told(t, house(), slices.Repeat([]api.Pool{good()}, n), api.OK)
		told(t, house(), append(slices.Repeat([]api.Pool{good()}, n-1), api.Pool{}), api.ErrNone) // the last one counts
		told(t, nil, make([]api.Pool, n), api.ErrNone)
	}
	for _, n := range []int{api.MaxRules + 1, api.MaxRules + 2, 1000, 100_000} {
		told(t, house(), slices.Repeat([]api.Pool{good()}, n), api.ErrFull)
		told(t, house(), make([]api.Pool, n), api.ErrFull)
		told(t, nil, make([]api.Pool, n), api.ErrFull)
	}
}

// noAccounts are texts that are no account of house.
var noAccounts = []string{"", "0", "9", "99", "01", "12", "1000", "50", "50000", "5000000", "623", "599", " 2", "2 ", "2\n", "2\x00", "-", "-2", "+2", "debts", "\xff", "٢"}

// TestA1Account: one that is none, and one that is no leaf.
func TestA1Account(t *testing.T) {
	for _, a := range house() {
		want := api.OK
		if a.Code == "1" || a.Code == "10" || a.Code == "5" {
			want = api.ErrKind
		}
		to := "101"
		if a.Code == to {
			to = "11"
		}
		told(t, house(), []api.Pool{pool(a.Code, []string{to}, 1)}, want)
		told(t, house(), []api.Pool{good(), pool(a.Code, []string{to}, 1), good()}, want)
	}
	for _, code := range noAccounts {
		told(t, house(), []api.Pool{pool(code, []string{"3"}, 1)}, api.ErrNone)
		told(t, house(), []api.Pool{good(), pool(code, []string{"3"}, 1), good()}, api.ErrNone)
	}
	told(t, nil, []api.Pool{good()}, api.ErrNone)
	told(t, nil, []api.Pool{{}}, api.ErrNone)
	// Whether it is a leaf hangs on the chart alone.
	told(t, house()[:1], []api.Pool{pool("1", []string{"1"}, 1)}, api.ErrClash)
	told(t, house()[:2], []api.Pool{pool("1", []string{"10"}, 1)}, api.ErrKind)
	told(t, house()[:2], []api.Pool{pool("10", []string{"1"}, 1)}, api.ErrKind)
	told(t, house()[:2], []api.Pool{pool("10", []string{"10"}, 1)}, api.ErrClash)
}

func TestA1Cur(t *testing.T) {
	p := good()
	for _, cur := range []string{"EUR", "AAA", "ZZZ", "AZM"} {
		p.Cur = cur
		told(t, house(), []api.Pool{p}, api.OK)
	}
	for _, cur := range []string{"", "E", "EU", "EURO", "eur", "EUr", "eUR", "E R", " EU", "EU ", "EU1", "EU-", "E\x00R", "@AA", "AA[", "ÄU", "\xff\xff\xff", "EU\n", "EUR\n"} {
		p.Cur = cur
		told(t, house(), []api.Pool{p}, api.ErrSyntax)
		told(t, house(), []api.Pool{good(), p}, api.ErrSyntax)
	}
}

// TestA1Shape: To empty, and longer or shorter than Weights.
func TestA1Shape(t *testing.T) {
	for _, p := range []api.Pool{
		pool("100", nil),
		pool("100", []string{}, []int{}...),
		pool("100", nil, 1),
		pool("100", []string{"2"}),
		pool("100", []string{"2"}, 1, 1),
		pool("100", []string{"2", "3"}, 1),
		pool("100", []string{"2", "3"}, 1, 1, 1),
		pool("100", leaves(19), slices.Repeat([]int{1}, 18)...),
		pool("100", leaves(19), slices.Repeat([]int{1}, 20)...),
		pool("100", leaves(20), slices.Repeat([]int{1}, 19)...), // ahead of more than may be
		pool("100", leaves(20), slices.Repeat([]int{1}, 21)...),
		pool("100", nil, slices.Repeat([]int{1}, 41)...),
		pool("100", make([]string, 100_000), 1),
		pool("100", []string{"2"}, make([]int, 100_000)...),
	} {
		told(t, house(), []api.Pool{p}, api.ErrShape)
		told(t, house(), []api.Pool{good(), p, good()}, api.ErrShape)
	}
}

// TestA1MaxTo: 19 of To, and one more, ahead of what is wrong with one of them or with weights.
func TestA1MaxTo(t *testing.T) {
	for _, n := range []int{1, 2, 18, 19} {
		told(t, house(), []api.Pool{pool("100", leaves(n), slices.Repeat([]int{1}, n)...)}, api.OK)
	}
	for _, n := range []int{20, 21, 23} {
		told(t, house(), []api.Pool{pool("100", leaves(n), slices.Repeat([]int{1}, n)...)}, api.ErrFull)
		told(t, house(), []api.Pool{pool("100", leaves(n), slices.Repeat([]int{-1}, n)...)}, api.ErrFull)
		told(t, house(), []api.Pool{pool("100", leaves(n), make([]int, n)...)}, api.ErrFull)
	}
	for _, n := range []int{20, 40, 41, 100_000} {
		told(t, house(), []api.Pool{pool("100", make([]string, n), make([]int, n)...)}, api.ErrFull)
	}
}

// TestA1To: each of To, at whatever place, is an account, and a leaf.
func TestA1To(t *testing.T) {
	codes := map[string]api.Errno{"1": api.ErrKind, "10": api.ErrKind, "5": api.ErrKind}
	for _, code := range noAccounts {
		codes[code] = api.ErrNone
	}
	for code, want := range codes {
		for at := range 19 {
			p := pool("100", leaves(19), slices.Repeat([]int{1}, 19)...)
			p.To[at] = code
			told(t, house(), []api.Pool{p}, want)
			p.Weights[at] = 0 // though it would get nothing
			told(t, house(), []api.Pool{good(), p}, want)
		}
	}
}

// TestA1Clash: one of To that is Account, and one that stands there twice.
func TestA1Clash(t *testing.T) {
	for at := range 19 {
		p := pool("100", leaves(19), slices.Repeat([]int{1}, 19)...)
		p.To[at] = "100"
		told(t, house(), []api.Pool{p}, api.ErrClash)
		for ahead := range at {
			p.To[at] = p.To[ahead]
			told(t, house(), []api.Pool{p}, api.ErrClash)
		}
	}
	told(t, house(), []api.Pool{pool("2", []string{"2"}, 1)}, api.ErrClash)
	told(t, house(), []api.Pool{pool("2", []string{"3", "3"}, 1, 0)}, api.ErrClash)
	told(t, house(), []api.Pool{pool("2", []string{"3", "2"}, 1, 0)}, api.ErrClash)
}

// TestA1Weights: the errors of Shares. ErrFull is none of them here, because To is bounded.
func TestA1Weights(t *testing.T) {
	for _, w := range []int{-1, api.MaxRatio + 1, most, least} {
		for at := range 3 {
			p := good()
			p.Weights[at] = w
			told(t, house(), []api.Pool{p}, api.ErrRange)
			told(t, house(), []api.Pool{good(), p}, api.ErrRange)
			p.Weights = make([]int, 3) // ahead of that all others are 0
			p.Weights[at] = w
			told(t, house(), []api.Pool{p}, api.ErrRange)
		}
	}
	told(t, house(), []api.Pool{pool("100", []string{"2", "3"}, -1, 1)}, api.ErrRange) // 0 together
	for n := 1; n <= 19; n++ {
		told(t, house(), []api.Pool{pool("100", leaves(n), make([]int, n)...)}, api.ErrNone)
		one := make([]int, n)
		one[n-1] = 1
		told(t, house(), []api.Pool{pool("100", leaves(n), one...)}, api.OK)
	}
}

// faults are what may be wrong with a pool, in the document's order. Where two are made, the later one comes first, so that the earlier one is there still.
var faults = []struct {
	make func(p *api.Pool)
	err  api.Errno
}{
	{func(p *api.Pool) { p.Account = "9" }, api.ErrNone},
	{func(p *api.Pool) { p.Account = "10" }, api.ErrKind},
	{func(p *api.Pool) { p.Cur = "eur" }, api.ErrSyntax},
	{func(p *api.Pool) { p.Weights = append(p.Weights, 1) }, api.ErrShape},
	{func(p *api.Pool) {
		p.To, p.Weights = append(p.To, leaves(20)...), append(p.Weights, make([]int, 20)...)
	}, api.ErrFull},
	{func(p *api.Pool) { p.To[0] = "9" }, api.ErrNone},
	{func(p *api.Pool) { p.To[0] = "10" }, api.ErrKind},
	{func(p *api.Pool) { p.To[0] = p.Account }, api.ErrClash},
	{func(p *api.Pool) { p.To[1] = "9" }, api.ErrNone},
	{func(p *api.Pool) { p.To[1] = "10" }, api.ErrKind},
	{func(p *api.Pool) { p.To[1] = p.To[0] }, api.ErrClash},
	{func(p *api.Pool) { p.Weights[0] = -1 }, api.ErrRange},
	{func(p *api.Pool) { clear(p.Weights) }, api.ErrNone},
}

// TestA1Which: of a pool's faults the one that is named first is told, of pools the first that has one.
func TestA1Which(t *testing.T) {
	for i, first := range faults {
		one := good()
		first.make(&one)
		told(t, house(), []api.Pool{one}, first.err)
		for _, later := range faults[i:] {
			both, other := good(), good()
			later.make(&both)
			first.make(&both)
			later.make(&other)
			told(t, house(), []api.Pool{both}, first.err)
			told(t, house(), []api.Pool{good(), both, {}}, first.err)
			told(t, house(), []api.Pool{other, one}, later.err)
			told(t, house(), []api.Pool{one, other}, first.err)
			told(t, house(), []api.Pool{good(), other, good(), one, both}, later.err)
		}
	}
}
