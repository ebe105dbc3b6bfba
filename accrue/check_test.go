package accrue_test

import (
	"fmt"
	"math"
	"strings"
	"testing"

	"quarterday/accrue"
	"quarterday/api"
	"quarterday/plain"
)

const (
	most  = math.MaxInt
	least = math.MinInt
	big15 = api.MaxAmount
)

// house is a chart in which 1, 10 and 5 are no leaves.
func house() []api.Account {
	return []api.Account{
		{Code: "1", Name: "assets", Kind: api.Asset},
		{Code: "10", Name: "cash", Kind: api.Asset, Parent: "1", Money: true},
		{Code: "100", Name: "till-1", Kind: api.Asset, Parent: "10", Money: true},
		{Code: "101", Name: "till-2", Kind: api.Asset, Parent: "10"},
		{Code: "11", Name: "owed", Kind: api.Asset, Parent: "1"},
		{Code: "2", Name: "debts", Kind: api.Liability, Money: true},
		{Code: "3", Name: "kept", Kind: api.Equity},
		{Code: "4", Name: "sales", Kind: api.Income},
		{Code: "5", Name: "costs", Kind: api.Expense},
		{Code: "500000", Name: "rent", Kind: api.Expense, Parent: "5"},
	}
}

// good is a plan with which nothing is wrong.
func good() api.Plan {
	return api.Plan{Ref: "rent", Entity: 1, From: "500000", To: "2", Cur: "EUR", Amount: 10, First: 2, Periods: 3}
}

// goods are n of them, each with a Ref of its own.
func goods(n int) (l []api.Plan) {
	for i := range n {
		p := good()
		p.Ref = fmt.Sprint("p", i)
		l = append(l, p)
	}
	return l
}

// with is a good plan that is changed.
func with(change func(p *api.Plan)) api.Plan {
	p := good()
	change(&p)
	return p
}

// short is as much of a list as is worth telling.
func short(l any) string {
	return fmt.Sprintf("%.300s", fmt.Sprint(l))
}

// told fails the test where Check does not say that of plans, or where Entries, with nothing else or all else wrong, does not.
func told(t *testing.T, c []api.Account, l []api.Plan, want api.Errno) {
	t.Helper()
	if got := plain.Told(accrue.Check(c, l)); got != want {
		t.Errorf("Check of %s = %v, want %v", short(l), got, want)
	}
	got, err := accrue.Entries(c, l, 1, 1)
	if plain.Told(err) != want || want != api.OK && len(got) != 0 {
		t.Errorf("Entries of %s = %s, %v, want %v", short(l), short(got), err, want)
	}
	if want == api.OK {
		return
	}
	for _, n := range [][2]int{{0, 1}, {13, 1}, {1, 0}, {1, 121}, {least, most}} {
		got, err := accrue.Entries(c, l, n[0], n[1])
		if plain.Told(err) != want || len(got) != 0 {
			t.Errorf("Entries of %s of %d in %d = %s, %v, want %v", short(l), n[0], n[1], short(got), err, want)
		}
	}
}

// alone fails the test where Check does not say that of a plan by itself, and among others.
func alone(t *testing.T, p api.Plan, want api.Errno) {
	t.Helper()
	told(t, house(), []api.Plan{p}, want)
	told(t, house(), append(goods(3), p), want)
	told(t, house(), append([]api.Plan{p}, goods(3)...), want)
}

func TestP2CheckTakes(t *testing.T) {
	for _, l := range [][]api.Plan{
		nil,
		{},
		{good()},
		goods(3), // alike but for their Ref
		{with(func(p *api.Plan) { p.From, p.To = "2", "500000" })},
		{with(func(p *api.Plan) { p.From, p.To = "100", "101" })},
		{with(func(p *api.Plan) { p.Amount, p.Periods, p.First = 1, 120, 120 })},
		{with(func(p *api.Plan) { p.Amount, p.Periods, p.First = -1, 1, 1 })},
	} {
		told(t, house(), l, api.OK)
	}
	told(t, nil, nil, api.OK)
	told(t, []api.Account{}, []api.Plan{}, api.OK)
}

// wrongCharts are charts, and what is wrong with them.
func wrongCharts() []wrongChart {
	other := func(at int, change func(a *api.Account)) []api.Account {
		l := house()
		change(&l[at])
		return l
	}
	long := make([]api.Account, api.MaxChart+1)
	for i := range long {
		long[i] = api.Account{Code: fmt.Sprint(100 + i), Name: "a", Kind: api.Asset}
	}
	return []wrongChart{
		{long, api.ErrFull},
		{other(0, func(a *api.Account) { a.Code = "" }), api.ErrSyntax},
		{other(5, func(a *api.Account) { a.Code = "2000000" }), api.ErrSyntax},
		{other(9, func(a *api.Account) { a.Name = "" }), api.ErrSyntax},
		{other(6, func(a *api.Account) { a.Name = strings.Repeat("a", 25) }), api.ErrSyntax},
		{other(9, func(a *api.Account) { a.Kind = 6 }), api.ErrRange},
		{other(0, func(a *api.Account) { a.Kind = 0 }), api.ErrRange},
		{other(6, func(a *api.Account) { a.Code = "2" }), api.ErrOrder},
		{other(2, func(a *api.Account) { a.Parent = "9" }), api.ErrNone},
		{other(9, func(a *api.Account) { a.Parent = "2" }), api.ErrKind},
	}
}

type wrongChart struct {
	c   []api.Account
	err api.Errno
}

// TestP2Chart: what is wrong with a chart is told ahead of all, whatever the plans are.
func TestP2Chart(t *testing.T) {
	for _, w := range wrongCharts() {
		for _, l := range [][]api.Plan{nil, {good()}, {{}}, {good(), good()}, make([]api.Plan, api.MaxRules+1)} {
			told(t, w.c, l, w.err)
		}
	}
}

// TestP2MaxRules: as many plans as may be, and one more, ahead of what is wrong with one.
func TestP2MaxRules(t *testing.T) {
	for _, n := range []int{1, 19, api.MaxRules} {
		told(t, house(), goods(n), api.OK)
		told(t, house(), append(goods(n-1), api.Plan{}), api.ErrSyntax) // the last one counts
		told(t, nil, make([]api.Plan, n), api.ErrSyntax)
	}
	for _, n := range []int{api.MaxRules + 1, api.MaxRules + 2, 1000, 100_000} {
		told(t, house(), goods(n), api.ErrFull)
		told(t, house(), make([]api.Plan, n), api.ErrFull)
		told(t, nil, make([]api.Plan, n), api.ErrFull)
	}
}

func TestP2Ref(t *testing.T) {
	for _, ref := range []string{"a", "z", "0", "9", "az09", "12345678", "abcdefgh", "zzzzzzzz", "00000000", "rent"} {
		alone(t, with(func(p *api.Plan) { p.Ref = ref }), api.OK)
	}
	for _, ref := range []string{"", "123456789", "abcdefghi", strings.Repeat("a", 100_000), "-", "-a", "a-", "a-b", "A", "aB", "a b", " a", "a ", "a\n", "a\x00", "\x00", "ä", "a\xff", "٣", "a_b", "a.b"} {
		alone(t, with(func(p *api.Plan) { p.Ref = ref }), api.ErrSyntax)
	}
}

// TestP2RefOfAllBytes: each byte, by itself and as the last of 8.
func TestP2RefOfAllBytes(t *testing.T) {
	for b := range 256 {
		want := api.ErrSyntax
		if b >= 'a' && b <= 'z' || b >= '0' && b <= '9' {
			want = api.OK
		}
		for _, ahead := range []string{"", "abcdefg"} {
			told(t, house(), []api.Plan{with(func(p *api.Plan) { p.Ref = ahead + string([]byte{byte(b)}) })}, want)
		}
	}
}

// TestP2RefClash: one that any ahead has, whatever else the plans have.
func TestP2RefClash(t *testing.T) {
	for at := range api.MaxRules {
		for ahead := range at {
			l := goods(api.MaxRules)
			l[at].Ref = l[ahead].Ref
			told(t, house(), l, api.ErrClash)
			l[at] = api.Plan{Ref: l[ahead].Ref, Entity: 2, From: "11", To: "3", Cur: "USD", Amount: -5, First: 9, Periods: 1}
			told(t, house(), l, api.ErrClash)
			l[at].Entity, l[at].From = 0, "9" // ahead of what else is wrong with it
			told(t, house(), l, api.ErrClash)
		}
	}
	l := goods(2)
	l[0].Ref, l[1].Ref = "ab", "a"
	told(t, house(), l, api.OK)
	l[0].Ref, l[1].Ref = "a", "ab"
	told(t, house(), l, api.OK)
}

// TestP2Bounds: Entity, and what Part says of a plan.
func TestP2Bounds(t *testing.T) {
	set := func(change func(p *api.Plan, n int), right, wrong []int) {
		t.Helper()
		for _, n := range right {
			alone(t, with(func(p *api.Plan) { change(p, n) }), api.OK)
		}
		for _, n := range wrong {
			alone(t, with(func(p *api.Plan) { change(p, n) }), api.ErrRange)
		}
	}
	set(func(p *api.Plan, n int) { p.Entity = n }, []int{1, 2, 11, 12}, []int{0, -1, 13, most, least})
	set(func(p *api.Plan, n int) { p.Amount = n }, []int{1, -1, big15, -big15}, []int{0, big15 + 1, -big15 - 1, most, least})
	set(func(p *api.Plan, n int) { p.First = n }, []int{1, 2, 119, 120}, []int{0, -1, 121, most, least})
	set(func(p *api.Plan, n int) { p.Periods = n }, []int{1, 2, 119, 120}, []int{0, -1, 121, most, least})
}

// noAccounts are texts that are no account of house.
var noAccounts = []string{"", "0", "9", "01", "12", "1000", "50", "50000", "5000000", " 2", "2 ", "2\n", "2\x00", "-", "-2", "debts", "\xff", "٢"}

// TestP2Accounts: From, and To, that is none, and that is no leaf.
func TestP2Accounts(t *testing.T) {
	for _, a := range house() {
		want := api.OK
		if a.Code == "1" || a.Code == "10" || a.Code == "5" {
			want = api.ErrKind
		}
		if a.Code != "2" {
			alone(t, with(func(p *api.Plan) { p.From = a.Code }), want)
		}
		if a.Code != "500000" {
			alone(t, with(func(p *api.Plan) { p.To = a.Code }), want)
		}
	}
	for _, code := range noAccounts {
		alone(t, with(func(p *api.Plan) { p.From = code }), api.ErrNone)
		alone(t, with(func(p *api.Plan) { p.To = code }), api.ErrNone)
		alone(t, with(func(p *api.Plan) { p.From, p.To = code, "1" }), api.ErrNone)
		alone(t, with(func(p *api.Plan) { p.From, p.To = "1", code }), api.ErrKind) // From is told first
	}
	told(t, nil, []api.Plan{good()}, api.ErrNone)
	// Whether it is a leaf hangs on the chart alone.
	told(t, house()[:1], []api.Plan{with(func(p *api.Plan) { p.From, p.To = "1", "1" })}, api.ErrClash)
	told(t, house()[:2], []api.Plan{with(func(p *api.Plan) { p.From, p.To = "1", "10" })}, api.ErrKind)
	told(t, house()[:2], []api.Plan{with(func(p *api.Plan) { p.From, p.To = "10", "1" })}, api.ErrKind)
}

// TestP2OneAccount: From and To that are one. One that is none, or no leaf, is told as that.
func TestP2OneAccount(t *testing.T) {
	for _, code := range []string{"100", "101", "11", "2", "3", "4", "500000"} {
		alone(t, with(func(p *api.Plan) { p.From, p.To = code, code }), api.ErrClash)
	}
	alone(t, with(func(p *api.Plan) { p.From, p.To = "10", "10" }), api.ErrKind)
	alone(t, with(func(p *api.Plan) { p.From, p.To = "9", "9" }), api.ErrNone)
	alone(t, with(func(p *api.Plan) { p.From, p.To = "", "" }), api.ErrNone)
}

func TestP2Cur(t *testing.T) {
	for _, cur := range []string{"EUR", "AAA", "ZZZ", "AZM"} {
		alone(t, with(func(p *api.Plan) { p.Cur = cur }), api.OK)
	}
	for _, cur := range []string{"", "E", "EU", "EURO", "eur", "EUr", "eUR", "E R", " EU", "EU ", "EU1", "EU-", "E\x00R", "@AA", "AA[", "ÄU", "\xff\xff\xff", "EU\n", "EUR\n"} {
		alone(t, with(func(p *api.Plan) { p.Cur = cur }), api.ErrSyntax)
	}
}

// faults are what may be wrong with a plan, in the document's order. Where two are made, the later one comes first, so that the earlier one is there still.
var faults = []struct {
	make func(p *api.Plan)
	err  api.Errno
}{
	{func(p *api.Plan) { p.Ref = "Rent" }, api.ErrSyntax},
	{func(p *api.Plan) { p.Ref = "p0" }, api.ErrClash},
	{func(p *api.Plan) { p.Entity = 13 }, api.ErrRange},
	{func(p *api.Plan) { p.Amount = 0 }, api.ErrRange},
	{func(p *api.Plan) { p.Periods = 0 }, api.ErrRange},
	{func(p *api.Plan) { p.First = 121 }, api.ErrRange},
	{func(p *api.Plan) { p.From = "9" }, api.ErrNone},
	{func(p *api.Plan) { p.From = "10" }, api.ErrKind},
	{func(p *api.Plan) { p.To = "9" }, api.ErrNone},
	{func(p *api.Plan) { p.To = "10" }, api.ErrKind},
	{func(p *api.Plan) { p.To = p.From }, api.ErrClash},
	{func(p *api.Plan) { p.Cur = "eur" }, api.ErrSyntax},
}

// TestP2Which: of a plan's faults the one that is named first is told, of plans the first that has one.
func TestP2Which(t *testing.T) {
	for i, first := range faults {
		one := with(first.make)
		told(t, house(), append(goods(1), one), first.err)
		for _, later := range faults[i:] {
			other := with(later.make)
			both := other
			first.make(&both)
			told(t, house(), append(goods(1), both), first.err)
			told(t, house(), append(goods(3), both, api.Plan{}), first.err)
			told(t, house(), append(goods(1), one, other), first.err)
			told(t, house(), append(goods(2), other, one, both), later.err)
		}
	}
}
