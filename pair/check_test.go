package pair_test

import (
	"fmt"
	"math"
	"slices"
	"strings"
	"testing"

	"quarterday/api"
	"quarterday/pair"
	"quarterday/plain"
)

const (
	most  = math.MaxInt
	least = math.MinInt
	big15 = api.MaxAmount
	big18 = 1_000_000_000_000_000_000 // of a balance
)

// house is a chart in which 1, 10 and 5 are no leaves.
func house() []api.Account {
	return []api.Account{
		{Code: "1", Name: "assets", Kind: api.Asset},
		{Code: "10", Name: "cash", Kind: api.Asset, Parent: "1", Money: true},
		{Code: "100", Name: "till-1", Kind: api.Asset, Parent: "10", Money: true},
		{Code: "101", Name: "till-2", Kind: api.Asset, Parent: "10"},
		{Code: "11", Name: "owed", Kind: api.Asset, Parent: "1"},
		{Code: "2", Name: "debts", Kind: api.Liability, Money: true},
		{Code: "3", Name: "kept", Kind: api.Equity},
		{Code: "4", Name: "sales", Kind: api.Income},
		{Code: "5", Name: "costs", Kind: api.Expense},
		{Code: "500000", Name: "rent", Kind: api.Expense, Parent: "5"},
	}
}

// of makes a pair.
func of(a int, one string, b int, other, diff string) api.Pair {
	return api.Pair{A: a, B: b, One: one, Other: other, Diff: diff}
}

// good is a pair with which nothing is wrong.
func good() api.Pair {
	return of(1, "11", 2, "2", "4")
}

// goods are n of them, up to MaxRules of which no two have the entity and account of one of both, nor those of good.
func goods(n int) (l []api.Pair) {
	codes := []string{"100", "101", "3", "500000"}
	for i := range n {
		code := codes[i/6%len(codes)]
		l = append(l, of(1+i%6, code, 7+i%6, code, "4"))
	}
	return l
}

// with is a good pair that is changed.
func with(change func(p *api.Pair)) api.Pair {
	p := good()
	change(&p)
	return p
}

// short is as much of a list as is worth telling.
func short(l any) string {
	return fmt.Sprintf("%.300s", fmt.Sprint(l))
}

// told fails the test where Check does not say that of pairs, or where Entries, with nothing else or all else wrong, does not.
func told(t *testing.T, c []api.Account, l []api.Pair, want api.Errno) {
	t.Helper()
	if got := plain.Told(pair.Check(c, l)); got != want {
		t.Errorf("Check of %s = %v, want %v", short(l), got, want)
	}
	got, err := pair.Entries(c, l, nil, "EUR", 1)
	if plain.Told(err) != want || len(got) != 0 {
		t.Errorf("Entries of %s = %s, %v, want %v", short(l), short(got), err, want)
	}
	if want == api.OK {
		return
	}
	for _, b := range append(wrongBalances(), nil) {
		for _, cur := range []string{"EUR", ""} {
			for _, period := range []int{0, 1} {
				got, err := pair.Entries(c, l, b, cur, period)
				if plain.Told(err) != want || len(got) != 0 {
					t.Errorf("Entries of %s by %s in %q, %d = %s, %v, want %v", short(b), short(l), cur, period, short(got), err, want)
				}
			}
		}
	}
}

// alone fails the test where Check does not say that of a pair by itself, and among others.
func alone(t *testing.T, p api.Pair, want api.Errno) {
	t.Helper()
	told(t, house(), []api.Pair{p}, want)
	told(t, house(), append(goods(3), p), want)
	told(t, house(), append([]api.Pair{p}, goods(3)...), want)
}

func TestN1CheckTakes(t *testing.T) {
	for _, l := range [][]api.Pair{
		nil,
		{},
		{good()},
		goods(3),
		{of(2, "2", 1, "11", "4")},
		{of(1, "2", 2, "2", "4")}, // one account of both
		{of(1, "4", 2, "500000", "3")},
		{of(1, "100", 2, "101", "500000")},
		{of(12, "3", 1, "4", "11")},
	} {
		told(t, house(), l, api.OK)
	}
	told(t, nil, nil, api.OK)
	told(t, []api.Account{}, []api.Pair{}, api.OK)
}

// wrongCharts are charts, and what is wrong with them.
func wrongCharts() []wrongChart {
	other := func(at int, change func(a *api.Account)) []api.Account {
		l := house()
		change(&l[at])
		return l
	}
	long := make([]api.Account, api.MaxChart+1)
	for i := range long {
		long[i] = api.Account{Code: fmt.Sprint(100 + i), Name: "a", Kind: api.Asset}
	}
	return []wrongChart{
		{long, api.ErrFull},
		{other(0, func(a *api.Account) { a.Code = "" }), api.ErrSyntax},
		{other(5, func(a *api.Account) { a.Code = "2000000" }), api.ErrSyntax},
		{other(9, func(a *api.Account) { a.Name = "" }), api.ErrSyntax},
		{other(6, func(a *api.Account) { a.Name = strings.Repeat("a", 25) }), api.ErrSyntax},
		{other(9, func(a *api.Account) { a.Kind = 6 }), api.ErrRange},
		{other(0, func(a *api.Account) { a.Kind = 0 }), api.ErrRange},
		{other(6, func(a *api.Account) { a.Code = "2" }), api.ErrOrder},
		{other(2, func(a *api.Account) { a.Parent = "9" }), api.ErrNone},
		{other(9, func(a *api.Account) { a.Parent = "2" }), api.ErrKind},
	}
}

type wrongChart struct {
	c   []api.Account
	err api.Errno
}

// TestN1Chart: what is wrong with a chart is told ahead of all, whatever the pairs are.
func TestN1Chart(t *testing.T) {
	for _, w := range wrongCharts() {
		for _, l := range [][]api.Pair{nil, {good()}, {{}}, {good(), good()}, make([]api.Pair, api.MaxRules+1)} {
			told(t, w.c, l, w.err)
		}
	}
}

// TestN1MaxRules: as many pairs as may be, and one more, ahead of what is wrong with one.
func TestN1MaxRules(t *testing.T) {
	for _, n := range []int{1, 19, api.MaxRules} {
		told(t, house(), goods(n), api.OK)
		told(t, house(), append(goods(n-1), api.Pair{}), api.ErrRange) // the last one counts
		told(t, nil, make([]api.Pair, n), api.ErrRange)
	}
	for _, n := range []int{api.MaxRules + 1, api.MaxRules + 2, 1000, 100_000} {
		told(t, house(), goods(n), api.ErrFull)
		told(t, house(), make([]api.Pair, n), api.ErrFull)
		told(t, nil, make([]api.Pair, n), api.ErrFull)
	}
}

// TestN1Bounds: A and B just at and just past their bounds.
func TestN1Bounds(t *testing.T) {
	for a := 1; a <= 12; a++ {
		for b := 1; b <= 12; b++ {
			want := api.OK
			if a == b {
				want = api.ErrClash
			}
			alone(t, of(a, "11", b, "2", "4"), want)
		}
	}
	for _, n := range []int{0, -1, -12, 13, 14, 120, most, least} {
		for _, right := range []int{1, 2, 12} {
			alone(t, with(func(p *api.Pair) { p.A, p.B = n, right }), api.ErrRange)
			alone(t, with(func(p *api.Pair) { p.A, p.B = right, n }), api.ErrRange)
		}
		alone(t, with(func(p *api.Pair) { p.A, p.B = n, n }), api.ErrRange) // ahead of that they are one
	}
}

// noAccounts are texts that are no account of house.
var noAccounts = []string{"", "0", "9", "01", "12", "1000", "50", "50000", "5000000", " 2", "2 ", "2\n", "2\x00", "-", "-2", "debts", "\xff", "٢"}

// TestN1Accounts: One, Other and Diff that are no account, and no leaf.
func TestN1Accounts(t *testing.T) {
	set := func(code string, want api.Errno) {
		t.Helper()
		alone(t, with(func(p *api.Pair) { p.One = code }), want)
		alone(t, with(func(p *api.Pair) { p.Other = code }), want)
		alone(t, with(func(p *api.Pair) { p.Diff = code }), want)
	}
	for _, code := range noAccounts {
		set(code, api.ErrNone)
	}
	for _, code := range []string{"1", "10", "5"} {
		set(code, api.ErrKind)
	}
	for _, code := range []string{"100", "101", "3", "500000"} { // leaves, of each kind
		told(t, house(), []api.Pair{with(func(p *api.Pair) { p.One = code })}, api.OK)
		told(t, house(), []api.Pair{with(func(p *api.Pair) { p.Other = code })}, api.OK)
		told(t, house(), []api.Pair{with(func(p *api.Pair) { p.Diff = code })}, api.OK)
	}
	told(t, nil, []api.Pair{good()}, api.ErrNone) // of a chart without accounts
}

// TestN1AccountsWhich: One's fault is told ahead of Other's, Other's ahead of Diff's.
func TestN1AccountsWhich(t *testing.T) {
	fault := func(code string) api.Errno {
		switch code {
		case "9":
			return api.ErrNone
		case "5":
			return api.ErrKind
		}
		return api.OK
	}
	for _, one := range []string{"11", "9", "5"} {
		for _, other := range []string{"2", "9", "5"} {
			for _, diff := range []string{"4", "9", "5"} {
				want := api.OK
				for _, code := range []string{one, other, diff} {
					if want == api.OK {
						want = fault(code)
					}
				}
				alone(t, of(1, one, 2, other, diff), want)
			}
		}
	}
}

// TestN1Diff: it is neither One nor Other, of whichever entity.
func TestN1Diff(t *testing.T) {
	alone(t, of(1, "11", 2, "2", "11"), api.ErrClash)
	alone(t, of(1, "11", 2, "2", "2"), api.ErrClash)
	alone(t, of(1, "2", 2, "2", "2"), api.ErrClash)
	alone(t, of(1, "9", 2, "2", "2"), api.ErrNone) // what is no leaf is told first
	alone(t, of(1, "5", 2, "5", "5"), api.ErrKind)
	alone(t, of(1, "11", 2, "9", "11"), api.ErrNone)
	// Diff may be what it will of other pairs.
	told(t, house(), []api.Pair{of(1, "11", 2, "2", "4"), of(1, "4", 2, "3", "11"), of(2, "4", 3, "4", "11")}, api.OK)
	told(t, house(), []api.Pair{of(1, "11", 2, "2", "4"), of(3, "11", 4, "2", "4"), of(1, "3", 2, "3", "4")}, api.OK)
}

// TestN1Ahead: a pair ahead has the entity and account of one of both, in each of the four ways.
func TestN1Ahead(t *testing.T) {
	ahead := of(1, "11", 2, "2", "4")
	for _, p := range []api.Pair{
		of(1, "11", 3, "3", "4"),
		of(2, "2", 3, "3", "4"),
		of(3, "3", 1, "11", "4"),
		of(3, "3", 2, "2", "4"),
		of(1, "11", 2, "2", "4"),
		of(2, "2", 1, "11", "4"),
		of(1, "11", 3, "11", "500000"),
		of(3, "2", 2, "2", "3"),
	} {
		told(t, house(), []api.Pair{ahead, p}, api.ErrClash)
		told(t, house(), []api.Pair{p, ahead}, api.ErrClash)
		told(t, house(), append(append([]api.Pair{ahead}, goods(18)...), p), api.ErrClash)
		told(t, house(), append(goods(18), ahead, p), api.ErrClash)
		told(t, house(), append([]api.Pair{ahead, p}, goods(18)...), api.ErrClash)
	}
	for _, p := range []api.Pair{ // the same account of another entity, and another account of the same
		of(3, "11", 4, "2", "4"),
		of(2, "11", 1, "2", "4"),
		of(1, "2", 2, "11", "4"),
		of(1, "3", 2, "3", "4"),
		of(12, "11", 11, "11", "4"),
		of(3, "2", 12, "2", "4"),
	} {
		told(t, house(), []api.Pair{ahead, p}, api.OK)
		told(t, house(), []api.Pair{p, ahead}, api.OK)
	}
}

// TestN1AheadOfAll: any pair with any ahead.
func TestN1AheadOfAll(t *testing.T) {
	for at := range api.MaxRules {
		for ahead := range at {
			for way := range 4 {
				l := goods(api.MaxRules)
				a, p := l[ahead], &l[at]
				*p = of(p.A, "11", p.B, "2", "4")
				told(t, house(), l, api.OK)
				sides := [2]api.Pair{{A: a.A, One: a.One}, {A: a.B, One: a.Other}}
				side := sides[way%2]
				switch {
				case way < 2:
					p.A, p.One = side.A, side.One
					p.B = 1 + p.A%12
				default:
					p.B, p.Other = side.A, side.One
					p.A = 1 + p.B%12
				}
				if got := plain.Told(pair.Check(house(), l)); got != api.ErrClash {
					t.Errorf("Check of %v = %v", l, got)
				}
			}
		}
	}
}

// TestN1Which: of one pair what the chapter names first, of several pairs what is wrong with the first.
func TestN1Which(t *testing.T) {
	told(t, house(), []api.Pair{of(0, "9", 2, "5", "5")}, api.ErrRange)
	told(t, house(), []api.Pair{of(2, "9", 2, "5", "5")}, api.ErrClash)
	told(t, house(), []api.Pair{of(2, "5", 2, "9", "5")}, api.ErrClash)
	told(t, house(), []api.Pair{good(), of(1, "11", 2, "9", "4")}, api.ErrNone) // ahead of that one ahead has it
	told(t, house(), []api.Pair{good(), of(1, "11", 2, "2", "5")}, api.ErrKind)
	told(t, house(), []api.Pair{good(), of(1, "11", 13, "2", "4")}, api.ErrRange)
	wrong := map[api.Errno]api.Pair{
		api.ErrRange: of(13, "11", 2, "2", "4"),
		api.ErrClash: of(5, "11", 5, "2", "4"),
		api.ErrNone:  of(1, "11", 2, "9", "4"),
		api.ErrKind:  of(1, "11", 2, "2", "5"),
	}
	for first, p := range wrong {
		for _, q := range wrong {
			told(t, house(), []api.Pair{p, q}, first)
			told(t, house(), append(goods(5), p, q), first)
			told(t, house(), slices.Concat([]api.Pair{good(), p}, goods(5), []api.Pair{q}), first)
		}
		told(t, house(), []api.Pair{good(), good(), p}, api.ErrClash)
		told(t, house(), []api.Pair{p, good(), good()}, first)
	}
}
