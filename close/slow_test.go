package close_test

import (
	"cmp"
	"fmt"
	"math/big"
	"math/rand/v2"
	"reflect"
	"slices"
	"strconv"
	"testing"

	"quarterday/accrue"
	"quarterday/allot"
	"quarterday/api"
	"quarterday/close"
	"quarterday/entry"
	"quarterday/pair"
	"quarterday/plain"
	"quarterday/revalue"
)

// slow does what Close does, plainly.
type slow struct {
	chart   []api.Account
	rates   []api.Rate
	plans   []api.Plan
	pools   []api.Pool
	pairs   []api.Pair
	entries []api.Entry
	stages  [api.MaxPeriod + 1]int
}

// has is what each account has, by entity and currency, those of 0 too.
func (s *slow) has(period int) map[api.Balance]*big.Int {
	has := map[api.Balance]*big.Int{}
	for _, e := range s.entries {
		for _, n := range e.Lines {
			if e.Period > period {
				continue
			}
			key := api.Balance{Entity: e.Entity, Account: n.Account, Cur: n.Cur}
			if has[key] == nil {
				has[key] = new(big.Int)
			}
			has[key].Add(has[key], big.NewInt(int64(n.Amount)))
		}
	}
	return has
}

func (s *slow) balances(period int) (l []api.Balance, err api.Errno) {
	has := s.has(period)
	if len(has) > 200 {
		return nil, api.ErrFull
	}
	for key, n := range has {
		if n.Sign() != 0 {
			key.Amount = int(n.Int64())
			l = append(l, key)
		}
	}
	slices.SortFunc(l, func(a, b api.Balance) int {
		return cmp.Or(a.Entity-b.Entity, cmp.Compare(a.Account, b.Account), cmp.Compare(a.Cur, b.Cur))
	})
	return l, api.OK
}

func (s *slow) post(e api.Entry) (int, api.Errno) {
	if err := entry.Check(s.chart, e); err != nil {
		return 0, plain.Told(err)
	}
	for p := e.Period; p <= 120; p++ {
		if s.stages[p] >= 5 || p > e.Period && s.stages[p] > 0 {
			return 0, api.ErrState
		}
	}
	for _, x := range s.entries {
		if x.Ref == e.Ref {
			return 0, api.ErrClash
		}
	}
	if len(s.entries) == 200 {
		return 0, api.ErrFull
	}
	s.entries = append(s.entries, e)
	return len(s.entries) - 1, api.OK
}

func (s *slow) advance(period int) (int, api.Errno) {
	if period <= 0 || period > 120 {
		return 0, api.ErrRange
	}
	if s.stages[period] == 6 {
		return 0, api.ErrState
	}
	for p := 1; p < period; p++ {
		used := 0
		for _, e := range s.entries {
			if e.Period == p {
				used++
			}
		}
		if s.stages[p] != 6 && s.stages[p]+used > 0 {
			return 0, api.ErrState
		}
	}
	b, bad := s.balances(period)
	if bad != api.OK {
		return 0, bad
	}
	l, bad := s.brought(b, period)
	if bad != api.OK {
		return 0, bad
	}
	if len(s.entries)+len(l) > 200 {
		return 0, api.ErrFull
	}
	for _, e := range l {
		e.Ref = "-" + strconv.Itoa(len(s.entries))
		s.entries = append(s.entries, e)
	}
	s.stages[period]++
	return len(l), api.OK
}

func (s *slow) brought(b []api.Balance, period int) (all []api.Entry, bad api.Errno) {
	for entity := 1; entity <= 12; entity++ {
		var l []api.Entry
		var err error
		switch s.stages[period] {
		case 0:
			l, err = accrue.Entries(s.chart, s.plans, entity, period)
		case 1:
			l, err = allot.Entries(s.chart, s.pools, b, entity, period)
		case 2:
			l, err = revalue.Entries(s.chart, s.rates, "EUR", "40", b, entity, period)
		case 3:
			if entity == 1 {
				l, err = pair.Entries(s.chart, s.pairs, b, "EUR", period)
			}
		case 5:
			if entity == 1 {
				return s.cleared(period)
			}
		}
		if err != nil {
			return nil, plain.Told(err)
		}
		all = append(all, l...)
	}
	return all, api.OK
}

func (s *slow) cleared(period int) (all []api.Entry, bad api.Errno) {
	has := s.has(period)
	isBeyond := func(n *big.Int) bool { return n.CmpAbs(big.NewInt(1_000_000_000_000_000)) > 0 }
	earned := func(a api.Account) bool { return a.Kind == 4 || a.Kind == 5 }
	curs := map[string]int{}
	for _, a := range s.chart {
		for key, n := range has {
			curs[key.Cur]++
			if key.Account == a.Code && earned(a) && isBeyond(n) {
				return nil, api.ErrRange
			}
		}
	}
	var inOrder []string
	for cur := range curs {
		inOrder = append(inOrder, cur)
	}
	slices.Sort(inOrder)
	for entity := 1; entity <= 12; entity++ {
		for _, cur := range inOrder {
			e, together := api.Entry{Entity: entity, Period: period}, new(big.Int)
			for _, a := range s.chart {
				n := has[api.Balance{Entity: entity, Account: a.Code, Cur: cur}]
				if earned(a) && n != nil && n.Sign() != 0 {
					e.Lines = append(e.Lines, line(a.Code, cur, -int(n.Int64())))
					together.Add(together, n)
				}
			}
			switch {
			case len(e.Lines) > 19:
				return nil, api.ErrFull
			case isBeyond(together):
				return nil, api.ErrRange
			case together.Sign() != 0:
				e.Lines = append(e.Lines, line("30", cur, int(together.Int64())))
			}
			if len(e.Lines) > 0 {
				all = append(all, e)
			}
		}
	}
	return all, api.OK
}

// pick takes one of some.
func pick[T any](r *rand.Rand, of ...T) T {
	return of[r.IntN(len(of))]
}

// walk is what is done in turn to both.
type walk struct {
	r        *rand.Rand
	c        *close.Close
	s        *slow
	leaves   []string
	entities []int
	curs     []string
	greatest int
	count    map[string]int
	steps    []string
}

// begin makes both anew.
func begin(t *testing.T, r *rand.Rand, count map[string]int) *walk {
	chart := pick(r, house(), house(), wide())
	s := &slow{chart: chart}
	for period := 1; period <= 3; period++ {
		for _, cur := range []string{"USD", "GBP"} {
			if r.IntN(12) > 0 {
				s.rates = append(s.rates, api.Rate{From: cur, To: "EUR", Period: period, Num: pick(r, 1, 3, 1+r.IntN(20)), Den: pick(r, 1, 2, 1+r.IntN(20))})
			}
		}
	}
	c, err := close.New(chart, s.rates, "EUR", "40", "30")
	if err != nil {
		t.Fatal(err)
	}
	w := &walk{r: r, c: c, s: s, count: count}
	w.entities = pick(r, []int{1}, []int{2, 12}, []int{1, 2, 3, 12})
	w.curs = pick(r, []string{"EUR"}, []string{"EUR", "USD"}, []string{"EUR", "USD", "GBP"})
	w.greatest = pick(r, 10, 1000, 1000, big15/8, big15)
	for _, a := range chart {
		if !slices.ContainsFunc(chart, func(x api.Account) bool { return x.Parent == a.Code }) {
			w.leaves = append(w.leaves, a.Code)
		}
	}
	return w
}

// leaf is one of the chart, now and then a text that is none.
func (w *walk) leaf() string {
	if w.r.IntN(300) == 0 {
		return pick(w.r, "", "5", "9", "3")
	}
	return pick(w.r, w.leaves...)
}

func (w *walk) entity() int {
	if w.r.IntN(300) == 0 {
		return pick(w.r, 0, 13, -1, most, least)
	}
	return pick(w.r, w.entities...)
}

func (w *walk) amount() int {
	return pick(w.r, 1, -1) * (1 + w.r.IntN(w.greatest))
}

func (w *walk) period() int {
	if w.r.IntN(60) == 0 {
		return pick(w.r, 0, -1, 120, 121, most, least)
	}
	return pick(w.r, 1, 1, 1, 2, 2, 3)
}

func (w *walk) entry() api.Entry {
	e := api.Entry{Ref: fmt.Sprint("e", w.r.IntN(2000)), Entity: w.entity(), Period: w.period()}
	for range pick(w.r, 1, 1, 2, 3, 10) {
		cur, amount := pick(w.r, w.curs...), w.amount()
		e.Lines = append(e.Lines, line(w.leaf(), cur, amount), line(w.leaf(), cur, -amount))
	}
	switch w.r.IntN(100) {
	case 0:
		e.Ref = pick(w.r, "", "-1", "-", "A")
	case 1:
		e.Lines[0].Amount = pick(w.r, 0, 1, big15+1)
	case 2:
		e.Lines = e.Lines[:1]
	}
	return e
}

func (w *walk) plan() api.Plan {
	return api.Plan{Ref: fmt.Sprint("p", w.r.IntN(40)), Entity: w.entity(), From: w.leaf(), To: w.leaf(), Cur: pick(w.r, w.curs...), Amount: w.amount(), First: 1 + w.r.IntN(3), Periods: 1 + w.r.IntN(4)}
}

func (w *walk) pool() (p api.Pool) {
	p.Account, p.Cur = w.leaf(), pick(w.r, w.curs...)
	for _, i := range w.r.Perm(len(w.leaves))[:1+w.r.IntN(4)] {
		p.To, p.Weights = append(p.To, w.leaves[i]), append(p.Weights, w.r.IntN(5))
	}
	return p
}

func (w *walk) pair() api.Pair {
	return api.Pair{A: w.entity(), B: w.entity(), One: w.leaf(), Other: w.leaf(), Diff: w.leaf()}
}

// some makes up to most of them.
func some[T any](r *rand.Rand, most int, make func() T) (l []T) {
	for range r.IntN(most + 1) {
		l = append(l, make())
	}
	return l
}

// step does one thing to both, and tells what came of it.
func (w *walk) step() (what, got, want string) {
	switch w.r.IntN(24) {
	case 0:
		l := some(w.r, 3, w.plan)
		err := accrue.Check(w.s.chart, l)
		if err == nil {
			w.s.plans = l
		}
		return fmt.Sprint("Plans ", l), name(w.c.Plans(l)), name(err)
	case 1:
		l := some(w.r, 3, w.pool)
		err := allot.Check(w.s.chart, l)
		if err == nil {
			w.s.pools = l
		}
		return fmt.Sprint("Pools ", l), name(w.c.Pools(l)), name(err)
	case 2:
		l := some(w.r, 3, w.pair)
		err := pair.Check(w.s.chart, l)
		if err == nil {
			w.s.pairs = l
		}
		return fmt.Sprint("Pairs ", l), name(w.c.Pairs(l)), name(err)
	case 3, 4, 5, 6, 7, 8, 9:
		period := w.period()
		n, err := w.c.Advance(period)
		m, bad := w.s.advance(period)
		stage := w.c.Stage(period)
		if bad != api.OK { // where it did not come to
			stage++
		}
		w.count[fmt.Sprint("Advance ", stage, bad.Error())]++
		return fmt.Sprint("Advance ", period), fmt.Sprint(n, name(err)), fmt.Sprint(m, bad.Error())
	}
	e := w.entry()
	n, err := w.c.Post(e)
	m, bad := w.s.post(e)
	w.count[fmt.Sprint("Post ", bad.Error())]++
	return fmt.Sprint("Post ", e), fmt.Sprint(n, name(err)), fmt.Sprint(m, bad.Error())
}

func name(err error) string {
	return plain.Told(err).Error()
}

// hold holds one against the other.
func (w *walk) hold(t *testing.T) {
	t.Helper()
	if got := w.c.Entries(); len(got) != len(w.s.entries) || len(got) > 0 && !reflect.DeepEqual(got, w.s.entries) {
		t.Fatalf("there are %v, want %v, behind %v", got, w.s.entries, w.steps)
	}
	for period := 1; period <= 4; period++ {
		if got := w.c.Stage(period); got != w.s.stages[period] {
			t.Fatalf("Stage of %d = %d, want %d, behind %v", period, got, w.s.stages[period], w.steps)
		}
		got, err := w.c.Balances(period)
		want, bad := w.s.balances(period)
		if plain.Told(err) != bad || len(got) != len(want) || len(got) > 0 && !reflect.DeepEqual(got, want) {
			t.Fatalf("Balances of %d = %v, %v, want %v, %v, behind %v", period, got, err, want, bad, w.steps)
		}
		w.laws(t, period, got)
	}
}

// laws of Q3: debits are credits; behind Closed Income and Expense are 0.
func (w *walk) laws(t *testing.T, period int, b []api.Balance) {
	t.Helper()
	done := w.c.Stage(period) == api.Closed
	for ahead := 1; ahead < period; ahead++ { // one that was begun late brings them back, until it is Closed itself
		done = done && (w.c.Stage(ahead) == api.Closed || w.c.Stage(ahead) == api.Open)
	}
	sums := map[string]int{}
	for _, x := range b {
		sums[fmt.Sprint(x.Entity, x.Cur)] += x.Amount
		if done && (x.Account[0] == '4' || x.Account[0] == '5' || x.Account[0] == '6') {
			t.Fatalf("%d is Closed, and there is %v, behind %v", period, x, w.steps)
		}
	}
	for key, sum := range sums {
		if sum != 0 {
			t.Fatalf("%s has %d, behind %v", key, sum, w.steps)
		}
	}
}

// shut has, of each period that is Locked or Closed, its stage and its entries.
func (w *walk) shut() map[int]string {
	shut := map[int]string{}
	for period := 1; period <= 3; period++ {
		if w.c.Stage(period) < api.Locked {
			continue
		}
		shut[period] = fmt.Sprintln(w.c.Stage(period))
		for n, e := range w.c.Entries() {
			if e.Period == period {
				shut[period] += fmt.Sprintln(n, e)
			}
		}
	}
	return shut
}

// TestQ1Q2Q3AsSlow: what is Locked stays as it is but for what closing brings, and what is Closed for good.
func TestQ1Q2Q3AsSlow(t *testing.T) {
	r := rand.New(rand.NewPCG(15, 1))
	count := map[string]int{}
	for range 160 {
		w := begin(t, r, count)
		shut := w.shut()
		for range pick(r, 30, 80, 150) {
			what, got, want := w.step()
			w.steps = append(w.steps, what)
			if got != want {
				t.Fatalf("%s, want %s, behind %v", got, want, w.steps)
			}
			w.hold(t)
			is := w.shut()
			for period, was := range shut {
				if is[period] != was && !(was[0] == '5' && len(is[period]) > 0 && is[period][0] == '6') {
					t.Fatalf("%d is %s, was %s, behind %v", period, is[period], was, w.steps)
				}
			}
			shut = is
		}
	}
	for _, what := range []string{
		"Post OK", "Post ErrState", "Post ErrClash", "Post ErrNone", "Post ErrKind", "Post ErrSyntax", "Post ErrRange", "Post ErrShape", "Post ErrSum",
		"Advance 1OK", "Advance 2OK", "Advance 3OK", "Advance 4OK", "Advance 5OK", "Advance 6OK",
		"Advance 1ErrState", "Advance 7ErrState", "Advance 1ErrRange", "Advance 3ErrNone", "Advance 6ErrFull", "Advance 6ErrRange",
	} {
		if count[what] < 20 {
			t.Errorf("%s %d times only: %v", what, count[what], count)
		}
	}
}
