package pair_test

import (
	"reflect"
	"slices"
	"testing"

	"quarterday/api"
	"quarterday/pair"
	"quarterday/plain"
)

// spoil writes into a list, and into what is behind it in its memory.
func spoil[T any](l []T, with T) {
	l = l[:cap(l)]
	for i := range l {
		l[i] = with
	}
}

// behind is a list that stands in memory with something else behind it.
func behind[T any](l []T, more ...T) (list, memory []T) {
	memory = append(slices.Clone(l), more...)
	return memory[:len(l)], memory
}

// handed is what is handed in, with something wrong behind each list, and all its memory.
type handed struct {
	c, accounts []api.Account
	l, pairs    []api.Pair
	b, balances []api.Balance
}

func hand() (h handed) {
	h.c, h.accounts = behind(house(), api.Account{Code: "x"}, api.Account{Code: "7", Name: "more", Kind: api.Asset, Parent: "1"})
	h.l, h.pairs = behind([]api.Pair{good(), of(3, "3", 4, "3", "4")}, api.Pair{}, of(1, "3", 2, "3", "4"))
	h.b, h.balances = behind([]api.Balance{bal(1, "11", "EUR", 7), bal(2, "2", "EUR", -5), bal(4, "3", "EUR", 1)}, bal(0, "", "", 0), bal(3, "3", "EUR", 5))
	return h
}

// handedWant is what Left and Entries are of what is handed in.
func handedWant() ([]int, []api.Entry) {
	return []int{2, 1}, []api.Entry{moved("pair-0a", 1, "11", "4", 7), moved("pair-0b", 2, "2", "4", -5), moved("pair-1b", 4, "3", "4", 1)}
}

// TestN1N2HandedIn: lists are not written into nor kept, and what is behind them is not read.
func TestN1N2HandedIn(t *testing.T) {
	h := hand()
	wantLeft, want := handedWant()
	var gotLeft []int
	var got []api.Entry
	for range 2 {
		var bad, err error
		if wrong := pair.Check(h.c, h.l); wrong != nil {
			t.Errorf("Check = %v", wrong)
		}
		gotLeft, bad = pair.Left(h.l, h.b, "EUR")
		got, err = pair.Entries(h.c, h.l, h.b, "EUR", 2)
		if bad != nil || err != nil || !slices.Equal(gotLeft, wantLeft) || !reflect.DeepEqual(got, want) {
			t.Errorf("Left = %v, %v, Entries = %v, %v", gotLeft, bad, got, err)
		}
		if !reflect.DeepEqual(h, hand()) {
			t.Errorf("handed in is %v now, was %v", h, hand())
		}
	}
	for i, call := range []func() error{ // what is behind would be told
		func() error { return pair.Check(h.accounts, h.l) },
		func() error { return pair.Check(h.c, h.pairs) },
		func() error { _, err := pair.Left(h.l, h.balances, "EUR"); return err },
		func() error { _, err := pair.Entries(h.accounts, h.l, h.b, "EUR", 2); return err },
	} {
		if plain.Told(call()) == api.OK {
			t.Errorf("%d: what is behind is right", i)
		}
	}
	clear(h.accounts)
	clear(h.pairs)
	clear(h.balances)
	if !slices.Equal(gotLeft, wantLeft) || !reflect.DeepEqual(got, want) {
		t.Errorf("Left is %v, Entries are %v behind writing into what was handed in", gotLeft, got)
	}
}

// TestN1N2HandedInWrong: nor are they written into where there is an error.
func TestN1N2HandedInWrong(t *testing.T) {
	h := hand()
	told(t, h.accounts, h.l, api.ErrSyntax)
	told(t, h.c, h.pairs, api.ErrRange)
	unleft(t, h.l, h.balances, "EUR", api.ErrOrder)
	unleft(t, h.l, h.b, "eur", api.ErrSyntax)
	refused(t, h.l, h.balances, "EUR", 2, api.ErrOrder)
	refused(t, h.l, h.b, "EUR", 0, api.ErrRange)
	if !reflect.DeepEqual(h, hand()) {
		t.Errorf("handed in is %v now, was %v", h, hand())
	}
}

// TestN1LeftOwn: what one call gave is not what another did.
func TestN1LeftOwn(t *testing.T) {
	h := hand()
	wantLeft, _ := handedWant()
	got, err := pair.Left(h.l, h.b, "EUR")
	again, bad := pair.Left(h.l, h.b, "EUR")
	if err != nil || bad != nil {
		t.Fatal(err, bad)
	}
	spoil(got, 9)
	if !slices.Equal(again, wantLeft) {
		t.Errorf("another answer is %v now", again)
	}
	left(t, h.l, h.b, wantLeft...)
}

// TestN2Own: no two entries share lines, nor do those of two calls.
func TestN2Own(t *testing.T) {
	h := hand()
	_, want := handedWant()
	for i := range want {
		got, err := pair.Entries(h.c, h.l, h.b, "EUR", 2)
		again, bad := pair.Entries(h.c, h.l, h.b, "EUR", 2)
		if err != nil || bad != nil || !reflect.DeepEqual(got, want) {
			t.Fatalf("Entries = %v, %v, %v", got, err, bad)
		}
		spoil(got[i].Lines, api.Line{Account: "9", Cur: "9", Amount: 9})
		got[i].Lines = slices.Clone(want[i].Lines)
		if !reflect.DeepEqual(got, want) || !reflect.DeepEqual(again, want) {
			t.Errorf("others than entry %d are %v, %v now", i, got, again)
		}
		spoil(got, api.Entry{})
		if !reflect.DeepEqual(again, want) {
			t.Errorf("another answer is %v now", again)
		}
	}
	entries(t, h.l, h.b, want...)
}
