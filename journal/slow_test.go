package journal_test

import (
	"fmt"
	"math/big"
	"math/rand/v2"
	"slices"
	"testing"

	"quarterday/api"
	"quarterday/entry"
	"quarterday/journal"
	"quarterday/plain"
)

// slow is a journal of which each answer is worked out anew from a list.
type slow []api.Entry

func (s slow) has(ref string) bool {
	return slices.ContainsFunc(s, func(e api.Entry) bool { return e.Ref == ref })
}

// wrong tells what stands against taking an entry in.
func (s slow) wrong(c []api.Account, e api.Entry) api.Errno {
	switch err := plain.Told(entry.Check(c, e)); {
	case err != api.OK:
		return err
	case s.has(e.Ref):
		return api.ErrClash
	case len(s) == api.MaxEntries:
		return api.ErrFull
	}
	return api.OK
}

// of goes from the last to the first, and puts them in order behind.
func (s slow) of(entity, period int) (l []int) {
	for n := len(s) - 1; n >= 0; n-- {
		if (entity == 0 || s[n].Entity == entity) && (period == 0 || s[n].Period == period) {
			l = append(l, n)
		}
	}
	slices.Sort(l)
	return l
}

// turns adds up in big numbers.
func (s slow) turns(account, cur string) (debit, credit string) {
	sums := [2]*big.Int{new(big.Int), new(big.Int)}
	for _, e := range s {
		for _, n := range e.Lines {
			amount := big.NewInt(int64(n.Amount))
			if n.Account == account && n.Cur == cur && amount.Sign() > 0 {
				sums[0].Add(sums[0], amount)
			} else if n.Account == account && n.Cur == cur {
				sums[1].Sub(sums[1], amount)
			}
		}
	}
	return sums[0].String(), sums[1].String()
}

// some makes an entry that mostly may come in.
func some(r *rand.Rand) api.Entry {
	e := api.Entry{Ref: fmt.Sprint(r.IntN(300)), Entity: 1 + r.IntN(3), Period: 1 + r.IntN(3)}
	for range 1 + r.IntN(4) {
		amount := 1 + r.IntN(big15)
		cur := []string{"EUR", "USD"}[r.IntN(2)]
		e.Lines = append(e.Lines, line([]string{"10", "2"}[r.IntN(2)], cur, amount), line([]string{"10", "4"}[r.IntN(2)], cur, -amount))
	}
	switch r.IntN(20) {
	case 0:
		e.Lines[r.IntN(len(e.Lines))].Amount++
	case 1:
		e.Entity = 0
	case 2:
		e.Lines[0].Account = "1"
	case 3:
		e.Ref = "-" + e.Ref
	}
	return e
}

// TestJ1AsSlow: random entries, till a journal is full and on, against one that keeps a list alone.
func TestJ1AsSlow(t *testing.T) {
	r := rand.New(rand.NewPCG(9, 1))
	count := map[api.Errno]int{}
	for range 6 {
		j, s := journal.New(), slow{}
		for range 700 {
			e := some(r)
			want, number := s.wrong(house(), e), 0
			if want == api.OK {
				number = len(s)
				s = append(s, api.Entry{Ref: e.Ref, Entity: e.Entity, Period: e.Period, Lines: slices.Clone(e.Lines)})
			}
			n, err := j.Post(house(), e)
			told(t, fmt.Sprint("Post of ", e), err, want)
			if n != number {
				t.Errorf("Post of %v = %d, want %d", e, n, number)
			}
			count[want]++
			clear(e.Lines)
			compare(t, r, j, s)
		}
	}
	for _, err := range []api.Errno{api.OK, api.ErrSum, api.ErrRange, api.ErrKind, api.ErrSyntax, api.ErrClash, api.ErrFull} {
		if count[err] < 20 {
			t.Errorf("%v %d times only", err, count[err])
		}
	}
}

// compare asks both some of what can be asked.
func compare(t *testing.T, r *rand.Rand, j *journal.Journal, s slow) {
	t.Helper()
	if j.Len() != len(s) {
		t.Errorf("Len = %d, want %d", j.Len(), len(s))
	}
	if ref := fmt.Sprint(r.IntN(300)); j.Has(ref) != s.has(ref) {
		t.Errorf("Has %s = %v", ref, j.Has(ref))
	}
	n := r.IntN(api.MaxEntries+2) - 1
	e, err := j.At(n)
	if n >= 0 && n < len(s) {
		if err != nil || !alike(e, s[n]) {
			t.Errorf("At of %d = %v, %v, want %v", n, e, err, s[n])
		}
	} else if plain.Told(err) != api.ErrNone || !alike(e, api.Entry{}) {
		t.Errorf("At of %d of %d = %v, %v", n, len(s), e, err)
	}
	entity, period := r.IntN(5), r.IntN(5)
	if l := j.Of(entity, period); !slices.Equal(l, s.of(entity, period)) {
		t.Errorf("Of %d, %d = %v, want %v", entity, period, l, s.of(entity, period))
	}
	account, cur := []string{"10", "2", "4", "11"}[r.IntN(4)], []string{"EUR", "USD"}[r.IntN(2)]
	debit, credit, err := j.Turns(account, cur)
	wantDebit, wantCredit := s.turns(account, cur)
	if err != nil || fmt.Sprint(debit) != wantDebit || fmt.Sprint(credit) != wantCredit {
		t.Errorf("Turns of %s, %s = %d, %d, %v, want %s, %s", account, cur, debit, credit, err, wantDebit, wantCredit)
	}
}
