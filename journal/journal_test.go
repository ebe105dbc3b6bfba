package journal_test

import (
	"fmt"
	"math"
	"slices"
	"testing"

	"quarterday/api"
	"quarterday/journal"
	"quarterday/plain"
)

const (
	most  = math.MaxInt
	least = math.MinInt
	big15 = api.MaxAmount
)

// told fails the test where an error is not the one that is wanted.
func told(t *testing.T, what string, err error, want api.Errno) {
	t.Helper()
	if got := plain.Told(err); got != want {
		t.Errorf("%s: error %v, want %v", what, got, want)
	}
}

// house is a chart; its leaves are 10, 11, 2, 4.
func house() []api.Account {
	return []api.Account{
		{Code: "1", Name: "assets", Kind: api.Asset},
		{Code: "10", Name: "cash", Kind: api.Asset, Parent: "1", Money: true},
		{Code: "11", Name: "owed", Kind: api.Asset, Parent: "1"},
		{Code: "2", Name: "debts", Kind: api.Liability},
		{Code: "4", Name: "sales", Kind: api.Income},
	}
}

// line makes one.
func line(account, cur string, amount int) api.Line {
	return api.Line{Account: account, Cur: cur, Amount: amount}
}

// ent makes an entry with which nothing is wrong.
func ent(ref string, entity, period int) api.Entry {
	return api.Entry{Ref: ref, Entity: entity, Period: period, Lines: []api.Line{line("10", "EUR", 7), line("4", "EUR", -7)}}
}

// with is an entry that has other Lines.
func with(ref string, l ...api.Line) api.Entry {
	return api.Entry{Ref: ref, Entity: 1, Period: 1, Lines: l}
}

// alike tells whether two entries are.
func alike(a, b api.Entry) bool {
	return a.Ref == b.Ref && a.Entity == b.Entity && a.Period == b.Period && slices.Equal(a.Lines, b.Lines)
}

// post takes an entry in, which has to get the next number.
func post(t *testing.T, j *journal.Journal, e api.Entry) {
	t.Helper()
	want := j.Len()
	n, err := j.Post(house(), e)
	told(t, "Post of "+e.Ref, err, api.OK)
	if n != want {
		t.Errorf("Post of %s = %d, want %d", e.Ref, n, want)
	}
}

// refuse hands an entry in that may not come in, and holds what can be told of the journal against what it was.
func refuse(t *testing.T, j *journal.Journal, c []api.Account, e api.Entry, want api.Errno) {
	t.Helper()
	was, had := seen(j, e.Ref), j.Has(e.Ref)
	n, err := j.Post(c, e)
	told(t, fmt.Sprintf("Post of %.40v", e), err, want)
	if n != 0 {
		t.Errorf("Post of %.40v = %d with an error", e, n)
	}
	if is := seen(j, e.Ref); is != was || j.Has(e.Ref) != had {
		t.Errorf("Post of %.40v with an error: the journal is %s now, was %s", e, is, was)
	}
}

// seen is all that can be told of a journal by its calls.
func seen(j *journal.Journal, refs ...string) (s string) {
	s = fmt.Sprintln(j.Len())
	for n := -1; n <= j.Len(); n++ {
		e, err := j.At(n)
		s += fmt.Sprintln(n, e, plain.Told(err), j.Has(e.Ref))
	}
	for entity := range 4 {
		for period := range 4 {
			s += fmt.Sprintln(entity, period, j.Of(entity, period))
		}
	}
	for _, account := range []string{"1", "10", "11", "2", "4", ""} {
		for _, cur := range []string{"EUR", "USD", ""} {
			debit, credit, err := j.Turns(account, cur)
			s += fmt.Sprintln(account, cur, debit, credit, err)
		}
	}
	for _, ref := range refs {
		s += fmt.Sprintln(j.Has(ref))
	}
	return s
}

// filled is a journal with n entries, of which the Refs are e0, e1 and so on.
func filled(t *testing.T, n int) *journal.Journal {
	t.Helper()
	j := journal.New()
	for i := range n {
		post(t, j, ent(fmt.Sprint("e", i), 1+i%3, 1+i%2))
	}
	return j
}

func TestJ1Empty(t *testing.T) {
	j := journal.New()
	if n := j.Len(); n != 0 {
		t.Errorf("Len = %d", n)
	}
	for _, n := range []int{0, 1, -1, api.MaxEntries, most, least} {
		e, err := j.At(n)
		told(t, fmt.Sprint("At of ", n), err, api.ErrNone)
		if !alike(e, api.Entry{}) {
			t.Errorf("At of %d = %v", n, e)
		}
		if l := j.Of(n, 0); len(l) != 0 {
			t.Errorf("Of %d, 0 = %v", n, l)
		}
		if l := j.Of(0, n); len(l) != 0 {
			t.Errorf("Of 0, %d = %v", n, l)
		}
	}
	for _, s := range []string{"", "a", "-", "e0", "\xff"} {
		if j.Has(s) {
			t.Errorf("Has %q", s)
		}
		turns(t, j, s, s, 0, 0)
	}
}

func TestJ1PostAt(t *testing.T) {
	j := journal.New()
	list := []api.Entry{
		ent("z", 12, 120),
		ent("a", 1, 1),  // not by Ref, Entity or Period, but as they came
		ent("a-", 1, 1), // all but the Ref is as before
		with("0", line("4", "USD", -big15), line("10", "USD", big15)),   // the greatest amounts
		with("00", line("10", "EUR", 1), line("10", "EUR", -1)),         // one account
		with("abcdefghijkl", slices.Repeat(ent("", 1, 1).Lines, 10)...), // as many lines as may be
		with("m", line("10", "USD", 3), line("4", "EUR", 5), line("2", "USD", -3), line("11", "EUR", -5)),
	}
	for i, e := range list {
		post(t, j, e)
		if j.Len() != i+1 || !j.Has(e.Ref) {
			t.Errorf("behind Post of %s: Len = %d, Has = %v", e.Ref, j.Len(), j.Has(e.Ref))
		}
		for n := range list[:i+1] {
			got, err := j.At(n)
			told(t, fmt.Sprint("At of ", n), err, api.OK)
			if !alike(got, list[n]) {
				t.Errorf("At of %d = %v, want %v", n, got, list[n])
			}
		}
		for _, n := range []int{i + 1, i + 2, -1, -i, most, least} {
			if n == 0 {
				continue
			}
			got, err := j.At(n)
			told(t, fmt.Sprint("At of ", n), err, api.ErrNone)
			if !alike(got, api.Entry{}) {
				t.Errorf("At of %d = %v with an error", n, got)
			}
		}
	}
}

// TestJ1PostCharts: each entry is held against the chart that comes with it, and against no other one.
func TestJ1PostCharts(t *testing.T) {
	other := []api.Account{{Code: "7", Name: "a", Kind: api.Asset}, {Code: "8", Name: "b", Kind: api.Asset}}
	e := with("a", line("7", "EUR", 1), line("8", "EUR", -1))
	j := journal.New()
	refuse(t, j, house(), e, api.ErrNone)
	refuse(t, j, nil, e, api.ErrNone)
	if n, err := j.Post(other, e); n != 0 || err != nil {
		t.Errorf("Post = %d, %v", n, err)
	}
	post(t, j, ent("b", 1, 1))
	refuse(t, j, other, ent("c", 1, 1), api.ErrNone)
	turns(t, j, "7", "EUR", 1, 0)
	turns(t, j, "10", "EUR", 7, 0)
}

// wrong is what chapter 4's Check finds, and by which error.
type wrong struct {
	c   []api.Account
	e   api.Entry
	err api.Errno
}

// chartWith is a chart in which the last account is another one.
func chartWith(a api.Account) []api.Account {
	return append(house()[:4:4], a)
}

// wrongs has each error of Check, all of them with one Ref where that is not what is wrong.
func wrongs(ref string) []wrong {
	good := ent(ref, 1, 1)
	list := []wrong{
		{make([]api.Account, api.MaxChart+1), good, api.ErrFull},
		{chartWith(api.Account{Code: "x", Name: "sales", Kind: api.Income}), good, api.ErrSyntax},
		{chartWith(api.Account{Code: "4", Name: "", Kind: api.Income}), good, api.ErrSyntax},
		{chartWith(api.Account{Code: "4", Name: "sales", Kind: 6}), good, api.ErrRange},
		{chartWith(api.Account{Code: "2", Name: "sales", Kind: api.Income}), good, api.ErrOrder},
		{chartWith(api.Account{Code: "4", Name: "sales", Kind: api.Income, Parent: "3"}), good, api.ErrNone},
		{chartWith(api.Account{Code: "4", Name: "sales", Kind: api.Income, Parent: "2"}), good, api.ErrKind},
		{nil, good, api.ErrNone},
		{house(), with(ref), api.ErrShape},
		{house(), with(ref, good.Lines[0]), api.ErrShape},
		{house(), with(ref, slices.Repeat(good.Lines, 11)...), api.ErrFull},
		{house(), with(ref, line("10", "EUR", 7), line("5", "EUR", -7)), api.ErrNone},
		{house(), with(ref, line("10", "EUR", 7), line("", "EUR", -7)), api.ErrNone},
		{house(), with(ref, line("10", "EUR", 7), line("1", "EUR", -7)), api.ErrKind},
		{house(), with(ref, line("10", "EURO", 7), line("4", "EURO", -7)), api.ErrSyntax},
		{house(), with(ref, line("10", "eur", 7), line("4", "eur", -7)), api.ErrSyntax},
		{house(), with(ref, line("10", "EUR", 0), line("4", "EUR", 0)), api.ErrRange},
		{house(), with(ref, line("10", "EUR", big15+1), line("4", "EUR", -big15-1)), api.ErrRange},
		{house(), with(ref, line("10", "EUR", least), line("4", "EUR", most)), api.ErrRange},
		{house(), with(ref, line("10", "EUR", 7), line("4", "EUR", -6)), api.ErrSum},
		{house(), with(ref, line("10", "EUR", 7), line("4", "USD", -7)), api.ErrSum},
	}
	for _, bad := range []string{"", "-", "-" + ref, "A", "a b", "abcdefghijklm", "\xff"} {
		list = append(list, wrong{house(), ent(bad, 1, 1), api.ErrSyntax})
	}
	for _, n := range []int{0, -1, 121, most, least} {
		list = append(list, wrong{house(), ent(ref, n, 1), api.ErrRange}, wrong{house(), ent(ref, 1, n), api.ErrRange})
	}
	return append(list, wrong{house(), ent(ref, 13, 1), api.ErrRange})
}

// TestJ1PostWrong: what Check finds is told ahead of a Ref that is there and of a journal that is full, and leaves no trace.
func TestJ1PostWrong(t *testing.T) {
	for _, many := range []int{0, 3, api.MaxEntries} {
		j := filled(t, many)
		for _, ref := range []string{"new", "e0", "e2"} {
			for _, w := range wrongs(ref) {
				refuse(t, j, w.c, w.e, w.err)
			}
		}
		if many < api.MaxEntries { // what was refused may come in when it is right
			post(t, j, ent("new", 1, 1))
		}
	}
}

// TestJ1PostClash: once each, whatever else the entry has, and whatever came between.
func TestJ1PostClash(t *testing.T) {
	j := filled(t, 3)
	for _, ref := range []string{"e0", "e1", "e2"} {
		refuse(t, j, house(), ent(ref, 1, 1), api.ErrClash)
		refuse(t, j, house(), ent(ref, 12, 120), api.ErrClash)
		refuse(t, j, house(), with(ref, line("2", "USD", 1), line("11", "USD", -1)), api.ErrClash)
	}
	for _, ref := range []string{"e", "e3", "e00", "0e", "e-0", "e0-"} { // not what is like it
		post(t, j, ent(ref, 1, 1))
		refuse(t, j, house(), ent(ref, 1, 1), api.ErrClash)
	}
	other := journal.New() // a Ref is there in its own journal alone
	post(t, other, ent("e0", 1, 1))
}

func TestJ1PostFull(t *testing.T) {
	j := filled(t, api.MaxEntries-1)
	refuse(t, j, house(), ent("e0", 1, 1), api.ErrClash)
	post(t, j, ent("last", 1, 1)) // the 200th
	if e, err := j.At(api.MaxEntries - 1); err != nil || e.Ref != "last" || j.Len() != api.MaxEntries {
		t.Errorf("the last of %d is %v, %v", j.Len(), e, err)
	}
	for range 2 {
		refuse(t, j, house(), ent("more", 1, 1), api.ErrFull)
		refuse(t, j, house(), ent("more-2", 12, 120), api.ErrFull)
		for _, ref := range []string{"e0", "e198", "last"} { // a Ref that is there is told first
			refuse(t, j, house(), ent(ref, 1, 1), api.ErrClash)
		}
		refuse(t, j, house(), with("e0"), api.ErrShape) // and what Check finds ahead of both
		refuse(t, j, nil, ent("more", 1, 1), api.ErrNone)
	}
	_, err := j.At(api.MaxEntries)
	told(t, "At behind the last", err, api.ErrNone)
}

func TestJ1Has(t *testing.T) {
	j := filled(t, 2)
	refuse(t, j, house(), ent("Bad", 1, 1), api.ErrSyntax)
	refuse(t, j, house(), ent("far", 13, 1), api.ErrRange)
	refuse(t, j, house(), with("odd", line("10", "EUR", 7), line("4", "EUR", -6)), api.ErrSum)
	for ref, want := range map[string]bool{
		"e0": true, "e1": true,
		"": false, "e": false, "e2": false, "E0": false, "e0 ": false, " e0": false, "e00": false, "e0\x00": false, "0": false, "10": false, "EUR": false,
		"Bad": false, "far": false, "odd": false,
	} {
		if got := j.Has(ref); got != want {
			t.Errorf("Has %q = %v, want %v", ref, got, want)
		}
	}
	post(t, j, ent("far", 12, 1))
	if !j.Has("far") {
		t.Error("what came in behind an error is not there")
	}
}

func TestJ1Of(t *testing.T) {
	j := journal.New()
	for i, e := range [][2]int{{2, 3}, {1, 1}, {2, 1}, {12, 120}, {1, 3}, {2, 3}, {3, 2}, {1, 12}} {
		post(t, j, ent(fmt.Sprint("e", i), e[0], e[1]))
	}
	refuse(t, j, house(), ent("e0", 5, 5), api.ErrClash)
	for _, c := range []struct {
		entity, period int
		want           []int
	}{
		{0, 0, []int{0, 1, 2, 3, 4, 5, 6, 7}},
		{1, 0, []int{1, 4, 7}}, {2, 0, []int{0, 2, 5}}, {3, 0, []int{6}}, {12, 0, []int{3}},
		{0, 1, []int{1, 2}}, {0, 2, []int{6}}, {0, 3, []int{0, 4, 5}}, {0, 12, []int{7}}, {0, 120, []int{3}},
		{1, 1, []int{1}}, {2, 3, []int{0, 5}}, {1, 3, []int{4}}, {12, 120, []int{3}}, {3, 2, []int{6}},
		// what no entry has
		{1, 2, nil}, {3, 3, nil}, {2, 120, nil}, {12, 1, nil}, {120, 12, nil}, {5, 5, nil}, {4, 0, nil}, {0, 4, nil}, {5, 0, nil}, {0, 5, nil},
		{-1, 0, nil}, {0, -1, nil}, {-1, -1, nil}, {-2, 3, nil}, {13, 0, nil}, {0, 121, nil}, {most, 0, nil}, {0, most, nil}, {least, least, nil}, {1, least, nil},
	} {
		if got := j.Of(c.entity, c.period); !slices.Equal(got, c.want) {
			t.Errorf("Of %d, %d = %v, want %v", c.entity, c.period, got, c.want)
		}
	}
	full := filled(t, api.MaxEntries)
	if l := full.Of(0, 0); len(l) != api.MaxEntries || !slices.IsSorted(l) || l[api.MaxEntries-1] != api.MaxEntries-1 {
		t.Errorf("Of all = %v", l)
	}
}

// turns fails the test where Turns are not the two that are wanted.
func turns(t *testing.T, j *journal.Journal, account, cur string, debit, credit int) {
	t.Helper()
	d, c, err := j.Turns(account, cur)
	if d != debit || c != credit || err != nil {
		t.Errorf("Turns of %q, %q = %d, %d, %v, want %d, %d", account, cur, d, c, err, debit, credit)
	}
}

func TestJ1Turns(t *testing.T) {
	j := journal.New()
	post(t, j, with("a", line("10", "EUR", 7), line("4", "EUR", -7)))
	post(t, j, with("b", line("10", "EUR", 20), line("2", "EUR", -5), line("4", "EUR", -15), line("10", "USD", 3), line("2", "USD", -3)))
	post(t, j, api.Entry{Ref: "c", Entity: 12, Period: 120, Lines: []api.Line{line("10", "EUR", 100), line("2", "EUR", 40), line("4", "EUR", -140)}}) // of all entities and periods
	post(t, j, with("d", line("2", "USD", 9), line("2", "USD", -9)))                                                                                  // both sides in one entry
	refuse(t, j, house(), with("a", line("10", "EUR", 1000), line("4", "EUR", -1000)), api.ErrClash)
	turns(t, j, "10", "EUR", 127, 0) // debits alone
	turns(t, j, "4", "EUR", 0, 162)  // credits alone
	turns(t, j, "2", "EUR", 40, 5)   // both
	turns(t, j, "10", "USD", 3, 0)
	turns(t, j, "2", "USD", 9, 12)
	for _, none := range [][2]string{{"11", "EUR"}, {"4", "USD"}, {"10", "GBP"}, {"1", "EUR"}, {"", "EUR"}, {"10", ""}, {"", ""}, {"10", "eur"}, {"EUR", "10"}, {"10E", "UR"}, {"010", "EUR"}, {"\xff", "\xff"}} {
		turns(t, j, none[0], none[1], 0, 0)
	}
}

// TestJ1TurnsGreat: the most that can come in by Post.
func TestJ1TurnsGreat(t *testing.T) {
	j := journal.New()
	lines := slices.Repeat([]api.Line{line("10", "EUR", big15), line("4", "EUR", -big15)}, api.MaxLines/2)
	for i := range api.MaxEntries {
		post(t, j, with(fmt.Sprint(i), lines...))
	}
	all := api.MaxEntries * api.MaxLines / 2 * big15
	turns(t, j, "10", "EUR", all, 0)
	turns(t, j, "4", "EUR", 0, all)
}

// TestJ1MemoryIn: what is handed in is not written into nor kept, and what is behind it is not read.
func TestJ1MemoryIn(t *testing.T) {
	accounts := append(house(), api.Account{Code: "x"})
	lines := append(ent("", 1, 1).Lines, line("10", "EUR", 1000), line("x", "x", least))
	wasAccounts, wasLines := slices.Clone(accounts), slices.Clone(lines)
	j := journal.New()
	for _, ref := range []string{"a", "b"} { // two entries by the same memory
		if _, err := j.Post(accounts[:len(house())], with(ref, lines[:2]...)); err != nil {
			t.Errorf("Post of %s: %v", ref, err)
		}
	}
	_, err := j.Post(accounts, with("c", lines...))
	told(t, "Post of more", err, api.ErrSyntax)
	was := seen(j)
	if !slices.Equal(accounts, wasAccounts) || !slices.Equal(lines, wasLines) {
		t.Errorf("handed in is %v, %v now, was %v, %v", accounts, lines, wasAccounts, wasLines)
	}
	clear(accounts)
	clear(lines)
	if is := seen(j); is != was {
		t.Errorf("the journal is %s now, was %s", is, was)
	}
}

// TestJ1MemoryOut: what At and Of give is the caller's own.
func TestJ1MemoryOut(t *testing.T) {
	j := filled(t, 5)
	was := seen(j)
	for n := range j.Len() {
		e, _ := j.At(n)
		again, _ := j.At(n)
		kept := slices.Clone(again.Lines)
		spoil(e.Lines, line("2", "USD", 77))
		if !slices.Equal(again.Lines, kept) {
			t.Errorf("At of %d: another answer is %v now, was %v", n, again.Lines, kept)
		}
	}
	for _, entity := range []int{0, 1, 2} {
		l, again := j.Of(entity, 0), j.Of(entity, 0)
		kept := slices.Clone(again)
		spoil(l, -77)
		if !slices.Equal(again, kept) {
			t.Errorf("Of %d: another answer is %v now, was %v", entity, again, kept)
		}
	}
	if is := seen(j); is != was {
		t.Errorf("the journal is %s now, was %s", is, was)
	}
}

// spoil writes into a list, and into what is behind it in its memory.
func spoil[T any](l []T, with T) {
	l = l[:cap(l)]
	for i := range l {
		l[i] = with
	}
}

// TestJ1MemoryThrough: what one journal gave comes into another one, and both stay apart.
func TestJ1MemoryThrough(t *testing.T) {
	one, other := filled(t, 1), journal.New()
	e, _ := one.At(0)
	post(t, other, e)
	spoil(e.Lines, line("2", "USD", 77))
	for _, j := range []*journal.Journal{one, other} {
		if got, err := j.At(0); err != nil || !alike(got, ent("e0", 1, 1)) {
			t.Errorf("At of 0 = %v, %v", got, err)
		}
	}
}
