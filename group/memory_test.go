package group_test

import (
	"reflect"
	"slices"
	"testing"

	"quarterday/api"
	"quarterday/group"
	"quarterday/plain"
)

// spoil writes into a list, and into what is behind it in its memory.
func spoil[T any](l []T, with T) {
	l = l[:cap(l)]
	for i := range l {
		l[i] = with
	}
}

// behind is a list that stands in memory with something else behind it.
func behind[T any](l []T, more ...T) (list, memory []T) {
	memory = append(slices.Clone(l), more...)
	return memory[:len(l)], memory
}

// handed is what is handed in, with something wrong behind each list, and all its memory.
type handed struct {
	c, accounts []api.Account
	rates, more []api.Rate
	l, holdings []api.Holding
	b, balances []api.Balance
}

func hand() (h handed) {
	h.c, h.accounts = behind(house(), api.Account{Code: "x"}, api.Account{Code: "7", Name: "more", Kind: api.Asset, Parent: "1"})
	h.rates, h.more = behind(market(), api.Rate{}, one("NOK", "EUR", 2, 1, 1))
	h.l, h.holdings = behind([]api.Holding{has(3, 2, 500), has(1, 3, 500), has(1, 2, 50)}, api.Holding{}, has(1, 4, 5))
	h.b, h.balances = behind([]api.Balance{
		eur(1, "100", -1), bal(1, "100", "USD", 2), bal(1, "2", "GBP", 4), eur(2, "11", 10), eur(3, "11", -10),
	}, bal(0, "", "", 0), eur(3, "2", 5))
	return h
}

// answers are what comes of what is handed in.
type answers struct {
	parts       []int
	sums        []api.Balance
	all, others []int
}

// asked has them, for 1 in euros in period 2.
func asked(t *testing.T, h handed) (a answers) {
	t.Helper()
	var errs [4]error
	errs[0] = group.Check(h.l)
	a.parts, errs[1] = group.Parts(h.l, 1)
	a.sums, errs[2] = group.Translate(h.rates, "EUR", h.b, 2)
	a.all, a.others, errs[3] = group.Whole(h.c, h.rates, "EUR", h.l, 1, h.b, 2)
	if errs != [4]error{} {
		t.Errorf("errors are %v", errs)
	}
	return a
}

// wanted is what asked has to be.
func wanted() answers {
	return answers{
		thousandths{1: 1000, 2: 300, 3: 500}.list(),
		[]api.Balance{eur(1, "2", 12), eur(2, "11", 10), eur(3, "11", -10)},
		sums{"2": 12}.list(),
		sums{"1": 7 - 5, "11": 7 - 5}.list(),
	}
}

// TestH1H2HandedIn: lists are not written into nor kept, and what is behind them is not read.
func TestH1H2HandedIn(t *testing.T) {
	h := hand()
	var got answers
	for range 2 {
		if got = asked(t, h); !reflect.DeepEqual(got, wanted()) {
			t.Errorf("answers are %v, want %v", got, wanted())
		}
		if !reflect.DeepEqual(h, hand()) {
			t.Errorf("handed in is %v now, was %v", h, hand())
		}
	}
	for i, call := range []func() error{ // what is behind would be told
		func() error { return group.Check(h.holdings) },
		func() error { _, err := group.Parts(h.holdings, 1); return err },
		func() error { _, err := group.Translate(h.more, "EUR", h.b, 2); return err },
		func() error { _, err := group.Translate(h.rates, "EUR", h.balances, 2); return err },
		func() error { _, _, err := group.Whole(h.accounts, h.rates, "EUR", h.l, 1, h.b, 2); return err },
	} {
		if plain.Told(call()) == api.OK {
			t.Errorf("%d: what is behind is right", i)
		}
	}
	clear(h.accounts)
	clear(h.more)
	clear(h.holdings)
	clear(h.balances)
	if !reflect.DeepEqual(got, wanted()) {
		t.Errorf("answers are %v behind writing into what was handed in", got)
	}
}

// TestH1H2HandedInWrong: nor are they written into where there is an error.
func TestH1H2HandedInWrong(t *testing.T) {
	h := hand()
	told(t, h.holdings, api.ErrRange)
	unparted(t, h.l, 0, api.ErrRange)
	for _, more := range wrongHoldings() {
		l, memory := behind(append(slices.Clone(h.l), more...), api.Holding{}, has(1, 4, 5))
		was := slices.Clone(memory)
		told(t, l, plain.Told(group.Check(l)))
		if !slices.Equal(memory, was) {
			t.Errorf("handed in is %v now, was %v", memory, was)
		}
	}
	untranslated(t, h.more, "EUR", h.b, 2, api.ErrSyntax)
	untranslated(t, h.rates, "EUR", h.b, 1, api.ErrNone)
	unwhole(t, h.c[:9], h.rates, "EUR", h.l, 1, append(slices.Clone(h.b), eur(3, "500000", 1)), 2, api.ErrNone)
	unwhole(t, h.accounts, h.rates, "EUR", h.l, 1, h.b, 2, api.ErrSyntax)
	if !reflect.DeepEqual(h, hand()) {
		t.Errorf("handed in is %v now, was %v", h, hand())
	}
}

// TestH1H2Own: no two lists of an answer share memory, nor do those of two calls.
func TestH1H2Own(t *testing.T) {
	h := hand()
	got, again := asked(t, h), asked(t, h)
	spoil(got.all, 99)
	if want := wanted(); !slices.Equal(got.others, want.others) {
		t.Errorf("what is others' is %v, want %v", got.others, want.others)
	}
	spoil(got.others, 98)
	if slices.Contains(got.all, 98) {
		t.Errorf("what is all's is %v", got.all)
	}
	spoil(got.parts, 97)
	spoil(got.sums, api.Balance{Account: "x"})
	if !reflect.DeepEqual(again, wanted()) || !reflect.DeepEqual(h, hand()) {
		t.Errorf("another answer is %v now, handed in is %v", again, h)
	}
	if last := asked(t, h); !reflect.DeepEqual(last, wanted()) {
		t.Errorf("a later answer is %v", last)
	}
}

// TestH1H2NothingOwn: where nothing has to be changed, what comes out is not what was handed in.
func TestH1H2NothingOwn(t *testing.T) {
	b := []api.Balance{eur(1, "2", 12), eur(2, "11", 10)}
	got, err := group.Translate(nil, "EUR", b, 1)
	if err != nil || !slices.Equal(got, b) {
		t.Fatalf("Translate of %v = %v, %v", b, got, err)
	}
	spoil(got, api.Balance{})
	if !slices.Equal(b, []api.Balance{eur(1, "2", 12), eur(2, "11", 10)}) {
		t.Errorf("handed in is %v now", b)
	}
}
