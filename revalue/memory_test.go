package revalue_test

import (
	"reflect"
	"slices"
	"testing"

	"quarterday/api"
	"quarterday/plain"
	"quarterday/revalue"
)

// spoil writes into a list, and into what is behind it in its memory.
func spoil[T any](l []T, with T) {
	l = l[:cap(l)]
	for i := range l {
		l[i] = with
	}
}

// behind is a list that stands in memory with something else behind it.
func behind[T any](l []T, more ...T) (list, memory []T) {
	memory = append(slices.Clone(l), more...)
	return memory[:len(l)], memory
}

// handed is what is handed in, with something wrong behind each list, and all its memory.
type handed struct {
	c, accounts []api.Account
	l, rates    []api.Rate
	b, balances []api.Balance
}

func hand() (h handed) {
	h.c, h.accounts = behind(house(), api.Account{Code: "x"}, api.Account{Code: "7", Name: "more", Kind: api.Asset, Parent: "1"})
	h.l, h.rates = behind(market(), api.Rate{}, one("NOK", "EUR", 2, 1, 1))
	h.b, h.balances = behind([]api.Balance{bal(1, "10", "EUR", 2), bal(1, "10", "USD", 10), bal(1, "12", "GBP", -1)}, bal(0, "", "", 0), bal(1, "2", "USD", 5))
	return h
}

// handedWant is what Worth and Entries are of what is handed in.
func handedWant() ([]int, []api.Entry) {
	return []int{2, 5, -3}, []api.Entry{brought("10", 3), brought("12", -3)}
}

// TestV1V2HandedIn: lists are not written into nor kept, and what is behind them is not read.
func TestV1V2HandedIn(t *testing.T) {
	h := hand()
	wantWorth, want := handedWant()
	var gotWorth []int
	var got []api.Entry
	for range 2 {
		var bad, err error
		gotWorth, bad = revalue.Worth(h.l, "EUR", h.b, 1, 2)
		got, err = revalue.Entries(h.c, h.l, "EUR", "4", h.b, 1, 2)
		if bad != nil || err != nil || !slices.Equal(gotWorth, wantWorth) || !reflect.DeepEqual(got, want) {
			t.Errorf("Worth = %v, %v, Entries = %v, %v", gotWorth, bad, got, err)
		}
		if !reflect.DeepEqual(h, hand()) {
			t.Errorf("handed in is %v now, was %v", h, hand())
		}
	}
	for i, call := range []func() error{ // what is behind would be told
		func() error { _, err := revalue.Worth(h.rates, "EUR", h.b, 1, 2); return err },
		func() error { _, err := revalue.Worth(h.l, "EUR", h.balances, 1, 2); return err },
		func() error { _, err := revalue.Entries(h.accounts, h.l, "EUR", "4", h.b, 1, 2); return err },
	} {
		if plain.Told(call()) == api.OK {
			t.Errorf("%d: what is behind is right", i)
		}
	}
	clear(h.accounts)
	clear(h.rates)
	clear(h.balances)
	if !slices.Equal(gotWorth, wantWorth) || !reflect.DeepEqual(got, want) {
		t.Errorf("Worth is %v, Entries are %v behind writing into what was handed in", gotWorth, got)
	}
}

// TestV1V2HandedInWrong: nor are they written into where there is an error.
func TestV1V2HandedInWrong(t *testing.T) {
	h := hand()
	for _, gain := range []string{"9", "1", "12"} {
		refused(t, h.c, h.l, "EUR", gain, h.b, 1, 2, map[string]api.Errno{"9": api.ErrNone, "1": api.ErrKind, "12": api.ErrClash}[gain])
	}
	unworth(t, h.l, "EUR", h.b, 1, 1, api.ErrNone)
	unworth(t, h.rates, "EUR", h.b, 1, 2, api.ErrSyntax)
	unworth(t, h.l, "EUR", h.balances, 1, 2, api.ErrOrder)
	if !reflect.DeepEqual(h, hand()) {
		t.Errorf("handed in is %v now, was %v", h, hand())
	}
}

// TestV1Own: what one call gave is not what another did.
func TestV1Own(t *testing.T) {
	h := hand()
	wantWorth, _ := handedWant()
	got, err := revalue.Worth(h.l, "EUR", h.b, 1, 2)
	again, bad := revalue.Worth(h.l, "EUR", h.b, 1, 2)
	if err != nil || bad != nil {
		t.Fatal(err, bad)
	}
	spoil(got, 9)
	if !slices.Equal(again, wantWorth) {
		t.Errorf("another answer is %v now", again)
	}
	worth(t, h.b, wantWorth...)
}

// TestV2Own: no two entries share lines, nor do those of two calls.
func TestV2Own(t *testing.T) {
	b := []api.Balance{bal(1, "10", "USD", 2), bal(1, "12", "USD", 4), bal(1, "2", "USD", 6), bal(1, "500000", "USD", 8)}
	want := []api.Entry{brought("10", 1), brought("12", 2), brought("2", 3), brought("500000", 4)}
	for i := range want {
		got, err := revalue.Entries(house(), market(), "EUR", "4", b, 1, 2)
		again, bad := revalue.Entries(house(), market(), "EUR", "4", b, 1, 2)
		if err != nil || bad != nil || !reflect.DeepEqual(got, want) {
			t.Fatalf("Entries = %v, %v, %v", got, err, bad)
		}
		spoil(got[i].Lines, api.Line{Account: "9", Cur: "9", Amount: 9})
		got[i].Lines = slices.Clone(want[i].Lines)
		if !reflect.DeepEqual(got, want) || !reflect.DeepEqual(again, want) {
			t.Errorf("others than entry %d are %v, %v now", i, got, again)
		}
		spoil(got, api.Entry{})
		if !reflect.DeepEqual(again, want) {
			t.Errorf("another answer is %v now", again)
		}
	}
	entries(t, b, want...)
}
