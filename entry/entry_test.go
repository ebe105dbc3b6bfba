package entry_test

import (
	"fmt"
	"math"
	"math/big"
	"math/rand/v2"
	"regexp"
	"slices"
	"strings"
	"testing"

	"quarterday/api"
	"quarterday/chart"
	"quarterday/entry"
	"quarterday/plain"
)

const (
	most  = math.MaxInt
	least = math.MinInt
	big15 = api.MaxAmount
)

// told fails the test where an error is not the one that is wanted.
func told(t *testing.T, what string, err error, want api.Errno) {
	t.Helper()
	if got := plain.Told(err); got != want {
		t.Errorf("%s: error %v, want %v", what, got, want)
	}
}

// house is a chart with accounts three deep; its leaves are 100, 101, 11, 2, 3, 4, 500000.
func house() []api.Account {
	return []api.Account{
		{Code: "1", Name: "assets", Kind: api.Asset},
		{Code: "10", Name: "cash", Kind: api.Asset, Parent: "1", Money: true},
		{Code: "100", Name: "till-1", Kind: api.Asset, Parent: "10", Money: true},
		{Code: "101", Name: "till-2", Kind: api.Asset, Parent: "10"},
		{Code: "11", Name: "owed", Kind: api.Asset, Parent: "1"},
		{Code: "2", Name: "debts", Kind: api.Liability, Money: true},
		{Code: "3", Name: "kept", Kind: api.Equity},
		{Code: "4", Name: "sales", Kind: api.Income},
		{Code: "5", Name: "costs", Kind: api.Expense},
		{Code: "500000", Name: "rent", Kind: api.Expense, Parent: "5"},
	}
}

// ent makes an entry with which nothing is wrong ahead of its Lines.
func ent(l ...api.Line) api.Entry {
	return api.Entry{Ref: "r-1", Entity: 1, Period: 1, Lines: l}
}

// eur makes a line of euros.
func eur(account string, amount int) api.Line {
	return api.Line{Account: account, Cur: "EUR", Amount: amount}
}

// two are lines with which nothing is wrong.
func two() []api.Line {
	return []api.Line{eur("100", 7), eur("4", -7)}
}

// many makes n lines, from 2 on, with which nothing is wrong but how many they may be.
func many(n int) (l []api.Line) {
	for range n - 1 {
		l = append(l, eur("100", 1))
	}
	return append(l, eur("4", 1-n))
}

// refs are texts, and whether they may be a Ref.
var refs = []struct {
	s  string
	ok bool
}{
	{"a", true}, {"z", true}, {"0", true}, {"9", true}, {"a-", true}, {"0-", true}, {"a--z", true}, {"007", true}, {"az09-", true},
	{"abcdefghijkl", true}, {"123456789012", true}, {"a-----------", true},
	{"", false}, {"-", false}, {"--", false}, {"-a", false}, {"-1", false}, {"-bcdefghijkl", false},
	{"abcdefghijklm", false}, {"1234567890123", false}, {strings.Repeat("a", 100000), false},
	{"A", false}, {"aB", false}, {"Z9", false}, {" ", false}, {"a b", false}, {" a", false}, {"a ", false}, {"a\n", false}, {"a\x00", false},
	{"a_b", false}, {"a.b", false}, {"a/b", false}, {"a+1", false}, {"é", false}, {"aé", false}, {"ａ", false}, {"٣", false}, {"a–b", false}, {"\xff", false}, {"a\x80", false},
}

// errIf is what is wrong with a text that is, or is not, of its form.
func errIf(ok bool) api.Errno {
	if ok {
		return api.OK
	}
	return api.ErrSyntax
}

func TestE1CheckTakes(t *testing.T) {
	for _, e := range []api.Entry{
		ent(two()...),
		{Ref: "a", Entity: api.MaxEntity, Period: api.MaxPeriod, Lines: two()},
		ent(many(2)...),
		ent(many(3)...),
		ent(many(api.MaxLines)...),
		ent(eur("100", 1), eur("100", -1)),         // one account
		ent(eur("100", big15), eur("101", -big15)), // the greatest
		ent(eur("2", -big15), eur("3", big15)),
		ent(eur("500000", 5), eur("11", -2), eur("100", -3)),          // more than two
		ent(eur("100", 7), eur("4", -7), eur("100", 7), eur("4", -7)), // lines that are alike
		ent(eur("100", 7), api.Line{Account: "100", Cur: "USD", Amount: 9}, eur("4", -7), api.Line{Account: "4", Cur: "USD", Amount: -9}),
		ent(slices.Concat(slices.Repeat([]api.Line{eur("100", big15)}, 10), slices.Repeat([]api.Line{eur("4", -big15)}, 10))...),
	} {
		told(t, fmt.Sprint("Check of ", e), entry.Check(house(), e), api.OK)
	}
}

func TestE1CheckRef(t *testing.T) {
	for _, c := range refs {
		e := ent(two()...)
		e.Ref = c.s
		told(t, fmt.Sprintf("Check of ref %.20q", c.s), entry.Check(house(), e), errIf(c.ok))
		if got := entry.IsRef(c.s); got != c.ok {
			t.Errorf("%.20q is a Ref: %v, want %v", c.s, got, c.ok)
		}
	}
}

// TestE1CheckRefOfAllBytes: at each place of a Ref just the bytes of the chapter will do.
func TestE1CheckRefOfAllBytes(t *testing.T) {
	form := regexp.MustCompile(`\A[a-z0-9][-a-z0-9]*\z`)
	for b := range 256 {
		one := string([]byte{byte(b)})
		for _, ref := range []string{one, one + "a", "a" + one, "1" + one + "1", "abcdefghijk" + one, one + "bcdefghijkl"} {
			e := ent(two()...)
			e.Ref = ref
			told(t, fmt.Sprintf("Check of ref %q", ref), entry.Check(house(), e), errIf(form.MatchString(ref)))
			_, err := entry.Reverse(e, ref)
			told(t, fmt.Sprintf("Reverse to ref %q", ref), err, errIf(form.MatchString(ref)))
			if got := entry.IsRef(ref); got != form.MatchString(ref) {
				t.Errorf("%q is a Ref: %v", ref, got)
			}
		}
	}
}

func TestE1CheckEntityPeriod(t *testing.T) {
	for _, c := range []struct {
		entity, period int
		err            api.Errno
	}{
		{1, 1, api.OK}, {api.MaxEntity, 1, api.OK}, {1, api.MaxPeriod, api.OK}, {7, 60, api.OK},
		{0, 1, api.ErrRange}, {-1, 1, api.ErrRange}, {api.MaxEntity + 1, 1, api.ErrRange}, {most, 1, api.ErrRange}, {least, 1, api.ErrRange},
		{1, 0, api.ErrRange}, {1, -1, api.ErrRange}, {1, api.MaxPeriod + 1, api.ErrRange}, {1, most, api.ErrRange}, {1, least, api.ErrRange},
		{0, 0, api.ErrRange}, {api.MaxPeriod, api.MaxEntity, api.ErrRange},
	} {
		e := ent(two()...)
		e.Entity, e.Period = c.entity, c.period
		told(t, fmt.Sprint("Check of entity, period ", c.entity, c.period), entry.Check(house(), e), c.err)
	}
}

// TestE1Bounds: what tells entities, periods and amounts, just at and just past their bounds.
func TestE1Bounds(t *testing.T) {
	for n, want := range map[int][3]bool{
		least: {}, most: {},
		-big15 - 1: {}, -big15: {2: true}, big15: {2: true}, big15 + 1: {},
		-1: {2: true}, 0: {2: true}, 1: {true, true, true}, 12: {true, true, true},
		13: {1: true, 2: true}, 120: {1: true, 2: true}, 121: {2: true},
	} {
		if got := [3]bool{entry.IsEntity(n), entry.IsPeriod(n), entry.IsAmount(n)}; got != want {
			t.Errorf("%d is entity, period, amount: %v, want %v", n, got, want)
		}
	}
}

func TestE1CheckHowMany(t *testing.T) {
	for _, c := range []struct {
		l   []api.Line
		err api.Errno
	}{
		{nil, api.ErrShape},
		{[]api.Line{}, api.ErrShape},
		{[]api.Line{eur("100", 1)}, api.ErrShape},
		{[]api.Line{{}}, api.ErrShape},
		{many(2), api.OK},
		{many(api.MaxLines), api.OK},
		{many(api.MaxLines + 1), api.ErrFull},
		{many(1000), api.ErrFull},
		{make([]api.Line, api.MaxLines), api.ErrNone},
		{make([]api.Line, api.MaxLines+1), api.ErrFull},
	} {
		told(t, fmt.Sprint("Check of lines: ", len(c.l)), entry.Check(house(), ent(c.l...)), c.err)
	}
}

// wrongLines are lines, and what Check tells of each of them by itself.
var wrongLines = []struct {
	n   api.Line
	err api.Errno
}{
	{eur("", 1), api.ErrNone},
	{eur("12", 1), api.ErrNone},
	{eur("0", 1), api.ErrNone},
	{eur("01", 1), api.ErrNone},
	{eur("-", 1), api.ErrNone},
	{eur("1000", 1), api.ErrNone},
	{eur("cash", 1), api.ErrNone},
	{eur("100 ", 1), api.ErrNone},
	{eur("100\x00", 1), api.ErrNone},
	{eur("1", 1), api.ErrKind},
	{eur("10", 1), api.ErrKind},
	{eur("5", 1), api.ErrKind},
	{api.Line{Account: "100", Cur: "", Amount: 1}, api.ErrSyntax},
	{api.Line{Account: "100", Cur: "eur", Amount: 1}, api.ErrSyntax},
	{api.Line{Account: "100", Cur: "EURO", Amount: 1}, api.ErrSyntax},
	{api.Line{Account: "100", Cur: "EU", Amount: 1}, api.ErrSyntax},
	{api.Line{Account: "100", Cur: "EU1", Amount: 1}, api.ErrSyntax},
	{api.Line{Account: "100", Cur: "EU\xff", Amount: 1}, api.ErrSyntax},
	{eur("100", 0), api.ErrRange},
	{eur("100", big15+1), api.ErrRange},
	{eur("100", -big15-1), api.ErrRange},
	{eur("100", most), api.ErrRange},
	{eur("100", least), api.ErrRange},
	// of one line the fault that is named first
	{api.Line{}, api.ErrNone},
	{api.Line{Account: "12", Cur: "eur", Amount: least}, api.ErrNone},
	{api.Line{Account: "10", Cur: "eur", Amount: 0}, api.ErrKind},
	{api.Line{Account: "10", Cur: "EUR", Amount: 0}, api.ErrKind},
	{api.Line{Account: "100", Cur: "eur", Amount: 0}, api.ErrSyntax},
	{api.Line{Account: "100", Cur: "eur", Amount: most}, api.ErrSyntax},
}

// TestE1CheckLines: a wrong line is told wherever it stands, the first of two, and ahead of what is wrong with the sums.
func TestE1CheckLines(t *testing.T) {
	for i, c := range wrongLines {
		for place := range api.MaxLines {
			l := many(api.MaxLines)
			l[place] = c.n
			told(t, fmt.Sprintf("%d: Check with line %d %v", i, place, c.n), entry.Check(house(), ent(l...)), c.err)
		}
		for _, later := range wrongLines {
			told(t, fmt.Sprint(i, ": Check of two"), entry.Check(house(), ent(c.n, later.n)), c.err)
			told(t, fmt.Sprint(i, ": Check of three"), entry.Check(house(), ent(eur("100", 1), c.n, later.n)), c.err)
		}
	}
}

func TestE1CheckSum(t *testing.T) {
	usd := func(account string, amount int) api.Line {
		return api.Line{Account: account, Cur: "USD", Amount: amount}
	}
	for _, l := range [][]api.Line{
		{eur("100", 1), eur("4", 1)},
		{eur("100", -1), eur("4", -1)},
		{eur("100", 2), eur("4", -1)},
		{eur("100", big15), eur("4", -big15+1)},
		{eur("100", big15), eur("4", big15)},
		{eur("100", 1), usd("4", -1)}, // 0 together, but not of each currency
		{eur("100", 1), usd("4", -1), eur("100", 1), usd("4", -1)},
		{eur("100", 1), eur("4", -1), usd("4", -1)},
		{usd("100", 3), eur("100", 1), eur("4", -1)},
		{eur("100", 1), eur("4", -1), usd("100", 1), usd("4", -2)},
		slices.Repeat([]api.Line{eur("100", big15)}, api.MaxLines),
		slices.Repeat([]api.Line{eur("100", -big15)}, api.MaxLines),
	} {
		told(t, fmt.Sprint("Check of ", l), entry.Check(house(), ent(l...)), api.ErrSum)
	}
}

// TestE1CheckOrder: of several faults the one that the chapter names first; each entry has all that come behind, too.
func TestE1CheckOrder(t *testing.T) {
	none := []api.Line{eur("12", 1), eur("100", 0)}
	for _, c := range []struct {
		chart []api.Account
		e     api.Entry
		err   api.Errno
	}{
		{make([]api.Account, api.MaxChart+1), api.Entry{}, api.ErrFull},
		{[]api.Account{{}}, api.Entry{}, api.ErrSyntax},
		{[]api.Account{{Code: "1", Name: "a"}}, api.Entry{}, api.ErrRange},
		{append(house(), house()...), api.Entry{}, api.ErrOrder},
		{append(house(), api.Account{Code: "6", Name: "a", Kind: 1, Parent: "7"}), api.Entry{}, api.ErrNone},
		{append(house(), api.Account{Code: "6", Name: "a", Kind: 1, Parent: "5"}), api.Entry{}, api.ErrKind},
		{append(house(), api.Account{Code: "6", Name: "a", Kind: 1, Parent: "5"}), ent(two()...), api.ErrKind},
		{house(), api.Entry{}, api.ErrSyntax},
		{house(), api.Entry{Ref: "-", Entity: 1, Period: 1, Lines: two()}, api.ErrSyntax},
		{house(), api.Entry{Ref: "-", Lines: make([]api.Line, 21)}, api.ErrSyntax},
		{house(), api.Entry{Ref: "a", Entity: 0, Period: 1}, api.ErrRange},
		{house(), api.Entry{Ref: "a", Entity: 1, Period: 0}, api.ErrRange},
		{house(), api.Entry{Ref: "a", Entity: 1, Period: 0, Lines: make([]api.Line, 21)}, api.ErrRange},
		{house(), api.Entry{Ref: "a", Entity: 1, Period: 1, Lines: none[:1]}, api.ErrShape},
		{house(), api.Entry{Ref: "a", Entity: 1, Period: 1, Lines: slices.Repeat(none, 11)}, api.ErrFull},
		{house(), api.Entry{Ref: "a", Entity: 1, Period: 1, Lines: none}, api.ErrNone},
		{nil, ent(two()...), api.ErrNone}, // no account at all
		{house(), ent(eur("100", 1), eur("10", 1)), api.ErrKind},
	} {
		told(t, fmt.Sprint("Check of ", c.e, " with ", c.chart), entry.Check(c.chart, c.e), c.err)
	}
}

// TestE1CheckLeaves: which account is a leaf is told by the chart that is handed in.
func TestE1CheckLeaves(t *testing.T) {
	leaves, err := chart.Leaves(house())
	told(t, "Leaves", err, api.OK)
	for _, a := range house() {
		want := api.ErrKind
		if slices.Contains(leaves, a.Code) {
			want = api.OK
		}
		e := ent(eur(a.Code, 1), eur(a.Code, -1))
		told(t, "Check with "+a.Code, entry.Check(house(), e), want)
	}
	l := append(house(), api.Account{Code: "500001", Name: "heat", Kind: api.Expense, Parent: "500000"})
	told(t, "Check with one below", entry.Check(l, ent(eur("500000", 1), eur("4", -1))), api.ErrKind)
	told(t, "Check of the one below", entry.Check(l, ent(eur("500001", 1), eur("4", -1))), api.OK)
}

// TestE1CheckAsSlow: random entries, against a check that is written another way.
func TestE1CheckAsSlow(t *testing.T) {
	r := rand.New(rand.NewPCG(4, 1))
	seen := map[api.Errno]int{}
	for range 40000 {
		e := someEntry(r)
		if r.IntN(3) > 0 {
			e = evened(r, e)
		}
		want := slowCheck(house(), e)
		told(t, fmt.Sprint("Check of ", e), entry.Check(house(), e), want)
		seen[want]++
	}
	for _, want := range []api.Errno{api.OK, api.ErrSyntax, api.ErrRange, api.ErrShape, api.ErrFull, api.ErrNone, api.ErrKind, api.ErrSum} {
		if seen[want] < 50 {
			t.Errorf("%v was told %d times only", want, seen[want])
		}
	}
}

// pick takes one of some.
func pick[T any](r *rand.Rand, l ...T) T {
	return l[r.IntN(len(l))]
}

// someLine makes a line; seldom a wrong one.
func someLine(r *rand.Rand) api.Line {
	n := api.Line{Account: pick(r, "100", "101", "2", "4", "500000"), Cur: pick(r, "EUR", "USD", "AAA"), Amount: r.IntN(9) - 4}
	switch r.IntN(60) {
	case 0:
		n.Account = pick(r, "", "1", "10", "12", "5", "x")
	case 1:
		n.Cur = pick(r, "", "eur", "EU", "EURO")
	case 2:
		n.Amount = pick(r, big15, -big15)
	case 3:
		n.Amount = pick(r, 0, big15+1, -big15-1, most, least)
	}
	return n
}

// someEntry makes an entry; seldom a wrong one.
func someEntry(r *rand.Rand) api.Entry {
	e := api.Entry{Ref: pick(r, "a", "b-2", "abcdefghijkl"), Entity: 1 + r.IntN(12), Period: 1 + r.IntN(120)}
	for range pick(r, 2, 3, 4, 6, 8, 20) {
		e.Lines = append(e.Lines, someLine(r))
	}
	switch r.IntN(40) {
	case 0:
		e.Ref = pick(r, "", "-a", "A", "abcdefghijklm")
	case 1:
		e.Entity = pick(r, 0, 13, -1, most)
	case 2:
		e.Period = pick(r, 0, 121, -1, least)
	case 3:
		e.Lines = e.Lines[:r.IntN(2)]
	case 4:
		for range 20 {
			e.Lines = append(e.Lines, someLine(r))
		}
	}
	return e
}

// evened is an entry in which the line that follows each one is its other side.
func evened(r *rand.Rand, e api.Entry) api.Entry {
	for i := 1; i < len(e.Lines); i += 2 {
		e.Lines[i] = e.Lines[i-1]
		e.Lines[i].Account = pick(r, "11", "3", e.Lines[i].Account)
		if e.Lines[i].Amount == 0 {
			e.Lines[i-1].Amount = 5
		}
		e.Lines[i].Amount = -e.Lines[i-1].Amount
	}
	if n := len(e.Lines); n%2 == 1 && n > 2 {
		e.Lines = e.Lines[:n-1]
	}
	return e
}

// slowCheck is Check of a chart with which nothing is wrong, by regular expressions and big numbers.
func slowCheck(l []api.Account, e api.Entry) api.Errno {
	parents, known := map[string]bool{}, map[string]bool{}
	for _, a := range l {
		parents[a.Parent], known[a.Code] = true, true
	}
	switch {
	case len(e.Ref) > 12 || !regexp.MustCompile(`\A[a-z0-9][-a-z0-9]*\z`).MatchString(e.Ref):
		return api.ErrSyntax
	case e.Entity < 1, e.Entity > 12, e.Period < 1, e.Period > 120:
		return api.ErrRange
	case len(e.Lines) < 2:
		return api.ErrShape
	case len(e.Lines) > 20:
		return api.ErrFull
	}
	sums := map[string]*big.Int{}
	for _, n := range e.Lines {
		switch {
		case !known[n.Account]:
			return api.ErrNone
		case parents[n.Account]:
			return api.ErrKind
		case !regexp.MustCompile(`\A[A-Z]{3}\z`).MatchString(n.Cur):
			return api.ErrSyntax
		case n.Amount == 0, n.Amount > 1e15, n.Amount < -1e15:
			return api.ErrRange
		}
		if sums[n.Cur] == nil {
			sums[n.Cur] = new(big.Int)
		}
		sums[n.Cur].Add(sums[n.Cur], big.NewInt(int64(n.Amount)))
	}
	for _, sum := range sums {
		if sum.Sign() != 0 {
			return api.ErrSum
		}
	}
	return api.OK
}

// TestE1CheckStays: what is handed in is as it was, and what lies behind it is not read.
func TestE1CheckStays(t *testing.T) {
	accounts := append(house(), api.Account{Code: "x", Parent: "100"}, api.Account{Code: "6", Name: "a", Kind: api.Asset})
	lines := append(many(api.MaxLines), eur("x", 3), eur("100", least))
	l, e := accounts[:len(house())], ent(lines[:api.MaxLines]...)
	wasAccounts, wasLines := slices.Clone(accounts), slices.Clone(lines)
	for range 2 {
		told(t, "Check", entry.Check(l, e), api.OK)
		told(t, "Check of one more", entry.Check(l, ent(eur("6", 1), eur("100", -1))), api.ErrNone)
		told(t, "Check of less", entry.Check(l, ent(lines[:3]...)), api.ErrSum)
		told(t, "Check of more", entry.Check(l, ent(lines...)), api.ErrFull)
	}
	if !slices.Equal(accounts, wasAccounts) || !slices.Equal(lines, wasLines) {
		t.Errorf("handed in is %v, %v now, was %v, %v", accounts, lines, wasAccounts, wasLines)
	}
}
