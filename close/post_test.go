package close_test

import (
	"fmt"
	"reflect"
	"strings"
	"testing"

	"quarterday/api"
	"quarterday/close"
	"quarterday/ledger"
	"quarterday/plain"
)

// sale makes an entry with which nothing is wrong.
func sale(ref string, period int) api.Entry {
	return even(ref, 1, period, "4", "100", "EUR", 7)
}

// TestQ1PostNumbers: from 0, also behind what a stage brought.
func TestQ1PostNumbers(t *testing.T) {
	c := made(t)
	told(t, "Plans", c.Plans([]api.Plan{goodPlan()}), api.OK)
	post(t, c, sale("a", 1))
	post(t, c, sale("b", 3))
	post(t, c, even("c", 12, 120, "2", "31", "JPY", big15))
	advance(t, c, 1, came(3, 1, 1, line("50", "EUR", 3), line("2", "EUR", -3)))
	post(t, c, sale("d", 1)) // post holds it against how many there are
	post(t, c, sale("e", 2))
}

// entryFaults are what chapter 4 finds wrong with an entry, in its order.
func entryFaults() []entryFault {
	with := func(err api.Errno, change func(e *api.Entry)) entryFault {
		e := sale("fresh", 1)
		change(&e)
		return entryFault{e, err}
	}
	return []entryFault{
		with(api.ErrSyntax, func(e *api.Entry) { e.Ref = "" }),
		with(api.ErrSyntax, func(e *api.Entry) { e.Ref = "-1" }),
		with(api.ErrSyntax, func(e *api.Entry) { e.Ref = "-" }),
		with(api.ErrSyntax, func(e *api.Entry) { e.Ref = "Sale" }),
		with(api.ErrSyntax, func(e *api.Entry) { e.Ref = strings.Repeat("a", 13) }),
		with(api.ErrRange, func(e *api.Entry) { e.Entity = 0 }),
		with(api.ErrRange, func(e *api.Entry) { e.Entity = 13 }),
		with(api.ErrRange, func(e *api.Entry) { e.Period = 0 }),
		with(api.ErrRange, func(e *api.Entry) { e.Period = 121 }),
		with(api.ErrRange, func(e *api.Entry) { e.Period = least }),
		with(api.ErrShape, func(e *api.Entry) { e.Lines = nil }),
		with(api.ErrShape, func(e *api.Entry) { e.Lines = e.Lines[:1] }),
		with(api.ErrFull, func(e *api.Entry) { e.Lines = make([]api.Line, 21) }),
		with(api.ErrNone, func(e *api.Entry) { e.Lines[0].Account = "9" }),
		with(api.ErrKind, func(e *api.Entry) { e.Lines[1].Account = "5" }),
		with(api.ErrSyntax, func(e *api.Entry) { e.Lines[1].Cur = "eur" }),
		with(api.ErrRange, func(e *api.Entry) { e.Lines[0].Amount = 0 }),
		with(api.ErrRange, func(e *api.Entry) { e.Lines[0].Amount = big15 + 1 }),
		with(api.ErrSum, func(e *api.Entry) { e.Lines[0].Amount = 8 }),
		with(api.ErrSum, func(e *api.Entry) { e.Lines[0].Cur = "USD" }),
	}
}

type entryFault struct {
	e   api.Entry
	err api.Errno
}

// TestQ1PostWrong: chapter 4's errors are told ahead of all, and leave the Ref free.
func TestQ1PostWrong(t *testing.T) {
	for _, f := range entryFaults() {
		c := made(t)
		refused(t, c, f.e, f.err)
		post(t, c, sale("fresh", 1))
		refused(t, c, f.e, f.err) // ahead of ErrClash
		fill(t, c, api.MaxEntries, 1)
		refused(t, c, f.e, f.err) // ahead of ErrFull
		upTo(t, c, 1, api.Locked)
		refused(t, c, f.e, f.err) // ahead of ErrState
	}
}

// fill posts entries of a period until so many are there.
func fill(t *testing.T, c *close.Close, n, period int) {
	t.Helper()
	for i := len(c.Entries()); i < n; i++ {
		if got, err := c.Post(even(fmt.Sprint("fill-", i), 3, period, "31", "11", "EUR", 1)); got != i || err != nil {
			t.Fatalf("Post of fill-%d = %d, %v", i, got, err)
		}
	}
}

// TestQ1PostStages: a period takes entries in until it is Locked.
func TestQ1PostStages(t *testing.T) {
	for _, period := range []int{1, 2, 119, 120} {
		c := made(t)
		for stage := api.Open; stage <= api.Closed; stage++ {
			upTo(t, c, period, stage)
			e := sale(fmt.Sprint("e", stage), period)
			if stage < api.Locked {
				post(t, c, e)
			} else {
				refused(t, c, e, api.ErrState)
			}
		}
		refused(t, c, sale("e0", period), api.ErrState) // ahead of ErrClash
	}
}

// TestQ1PostLater: no period takes entries in any more when a later one is more than Open, whatever stage that has.
func TestQ1PostLater(t *testing.T) {
	for _, later := range []int{2, 3, 60, 119, 120} {
		c := made(t)
		post(t, c, sale("a", later))
		for _, ahead := range []int{1, later/2 + 1, later - 1} {
			post(t, c, sale(fmt.Sprint("b", len(c.Entries())), min(ahead, later-1))) // the later one is Open, with entries or not
		}
		c = made(t)
		for stage := api.Accrued; stage <= api.Closed; stage++ {
			upTo(t, c, later, stage)
			for ahead := 1; ahead < later; ahead++ {
				n, err := c.Post(sale("more", ahead))
				if plain.Told(err) != api.ErrState || n != 0 {
					t.Errorf("Post in %d, with %d at %d = %d, %v", ahead, later, stage, n, err)
				}
			}
			refused(t, c, sale("more", later-1), api.ErrState)
		}
	}
}

// TestQ1PostBehind: what is ahead may have any stage.
func TestQ1PostBehind(t *testing.T) {
	for stage := api.Open; stage <= api.Closed; stage++ {
		c := made(t)
		upTo(t, c, 3, stage)
		for _, period := range []int{4, 5, 120} {
			post(t, c, sale(fmt.Sprint("e", period), period))
		}
	}
}

// TestQ1PostClash: a Ref that is there, of whatever entity and period.
func TestQ1PostClash(t *testing.T) {
	c := made(t)
	post(t, c, sale("a", 1))
	post(t, c, sale("b-1", 1))
	for _, ref := range []string{"a", "b-1"} {
		refused(t, c, sale(ref, 1), api.ErrClash)
		refused(t, c, even(ref, 2, 5, "2", "11", "USD", 1), api.ErrClash)
	}
	post(t, c, sale("b", 1))
	post(t, c, sale("a-", 1))
	post(t, c, sale("aa", 1))
	upTo(t, c, 1, api.Paired)
	refused(t, c, sale("a", 1), api.ErrClash)
	upTo(t, c, 1, api.Closed)
	refused(t, c, sale("a", 2), api.ErrClash)
	refused(t, c, sale("a", 1), api.ErrState) // ahead of ErrClash
}

// TestQ1PostClashBrought: what a stage brought has a Ref that chapter 4 does not take, and none that the chapters give.
func TestQ1PostClashBrought(t *testing.T) {
	c := made(t)
	told(t, "Plans", c.Plans([]api.Plan{goodPlan()}), api.OK)
	told(t, "Pools", c.Pools([]api.Pool{goodPool()}), api.OK)
	told(t, "Pairs", c.Pairs([]api.Pair{goodPair()}), api.OK)
	post(t, c, sale("a", 1))
	post(t, c, even("b", 2, 1, "31", "100", "USD", 8))
	upTo(t, c, 1, api.Closed)
	all := c.Entries()
	if len(all) < 7 {
		t.Fatalf("there are %v", all)
	}
	for i, e := range all[2:] {
		if want := fmt.Sprint("-", i+2); e.Ref != want {
			t.Errorf("Ref of %d is %q", i+2, e.Ref)
		}
		refused(t, c, sale(e.Ref, 2), api.ErrSyntax)
	}
	for _, ref := range []string{"rent-1", "allot-0", "value-100", "pair-0a", "pair-0b", "2", "0", "1-"} {
		post(t, c, sale(ref, 2))
	}
}

// TestQ1PostFull: just as many as MaxEntries, and one more; what stages brought counts.
func TestQ1PostFull(t *testing.T) {
	for _, brings := range []bool{false, true} {
		c := made(t)
		if brings {
			told(t, "Plans", c.Plans([]api.Plan{goodPlan()}), api.OK)
		}
		post(t, c, sale("a", 1))
		upTo(t, c, 1, api.Accrued)
		fill(t, c, api.MaxEntries-1, 1)
		post(t, c, sale("last", 1))
		refused(t, c, sale("more", 1), api.ErrFull)
		refused(t, c, sale("more", 2), api.ErrFull)
		refused(t, c, sale("a", 1), api.ErrClash) // ahead of ErrFull
		told(t, "Plans", c.Plans(nil), api.OK)
		upTo(t, c, 1, api.Locked)
		refused(t, c, sale("more", 1), api.ErrState) // likewise
		refused(t, c, sale("more", 2), api.ErrFull)
	}
}

func TestQ1Stage(t *testing.T) {
	none := []int{0, -1, -120, 121, 122, most, least}
	for _, period := range []int{1, 2, 60, 119, 120} {
		c := made(t)
		for stage := api.Open; stage <= api.Closed; stage++ {
			upTo(t, c, period, stage)
			for p := 1; p <= api.MaxPeriod; p++ {
				want := api.Open
				if p == period {
					want = stage
				}
				if got := c.Stage(p); got != want {
					t.Errorf("Stage of %d = %d, want %d", p, got, want)
				}
			}
			for _, p := range none {
				_, _ = c.Advance(p)
				if got := c.Stage(p); got != 0 {
					t.Errorf("Stage of %d = %d", p, got)
				}
			}
		}
	}
}

// TestQ2Balances: chapter 10's, of all entries.
func TestQ2Balances(t *testing.T) {
	c := made(t)
	told(t, "Plans", c.Plans([]api.Plan{goodPlan()}), api.OK)
	hold := func() {
		t.Helper()
		for _, period := range []int{least, -1, 0, 1, 2, 3, 4, 119, 120, 121, most} {
			want, bad := ledger.Balances(c.Entries(), period)
			got, err := c.Balances(period)
			if err != bad || len(got) != len(want) || len(want) > 0 && !reflect.DeepEqual(got, want) {
				t.Errorf("Balances of %d = %v, %v, want %v, %v", period, got, err, want, bad)
			}
		}
	}
	hold()
	post(t, c, sale("a", 1))
	post(t, c, even("b", 2, 3, "31", "2", "USD", 5))
	post(t, c, even("c", 2, 120, "2", "31", "USD", 5))
	hold()
	for stage := api.Open; stage <= api.Closed; stage++ {
		upTo(t, c, 1, stage)
		hold()
	}
	got, err := c.Balances(1)
	want := []api.Balance{{Entity: 1, Account: "100", Cur: "EUR", Amount: 7}, {Entity: 1, Account: "2", Cur: "EUR", Amount: -3}, {Entity: 1, Account: "30", Cur: "EUR", Amount: -4}}
	if err != nil || !reflect.DeepEqual(got, want) {
		t.Errorf("Balances = %v, %v, want %v", got, err, want)
	}
}

// spread posts entries of a period by which n more balances are there, in currencies that begin with a letter.
func spread(t *testing.T, c *close.Close, n int, letter string, period int) {
	t.Helper()
	for i := 0; i < n; i += 2 {
		cur := letter + string([]byte{byte('A' + i/2/26), byte('A' + i/2%26)})
		e := even(fmt.Sprint("s", strings.ToLower(letter), i), 5, period, "31", "101", cur, 1)
		if i+1 == n { // one balance more alone: of an account that has one in another currency of this entry
			last := letter + "AA"
			e = api.Entry{Ref: e.Ref, Entity: 5, Period: period, Lines: []api.Line{line("101", last, 1), line("11", last, -1)}}
		}
		if _, err := c.Post(e); err != nil {
			t.Fatalf("Post of %v: %v", e, err)
		}
	}
}

// TestQ2BalancesFull: as many as MaxItems, those of 0 too, and one more.
func TestQ2BalancesFull(t *testing.T) {
	c := made(t)
	spread(t, c, api.MaxItems-2, "X", 1)
	post(t, c, even("a", 1, 2, "31", "101", "EUR", 1))
	post(t, c, even("b", 1, 2, "101", "31", "EUR", 1))
	if b, err := c.Balances(2); err != nil || len(b) != api.MaxItems-2 {
		t.Errorf("Balances = %d, %v", len(b), err)
	}
	post(t, c, even("c", 1, 3, "31", "11", "EUR", 1))
	for _, period := range []int{3, 4, 120, most} {
		b, err := c.Balances(period)
		if plain.Told(err) != api.ErrFull || len(b) != 0 {
			t.Errorf("Balances of %d = %v, %v", period, b, err)
		}
	}
	if b, err := c.Balances(2); err != nil || len(b) != api.MaxItems-2 {
		t.Errorf("Balances = %d, %v", len(b), err)
	}
}
