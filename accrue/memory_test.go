package accrue_test

import (
	"reflect"
	"slices"
	"testing"

	"quarterday/accrue"
	"quarterday/api"
	"quarterday/plain"
)

// spoil writes into a list, and into what is behind it in its memory.
func spoil[T any](l []T, with T) {
	l = l[:cap(l)]
	for i := range l {
		l[i] = with
	}
}

// behind is a list that stands in memory with something else behind it.
func behind[T any](l []T, more ...T) (list, memory []T) {
	memory = append(slices.Clone(l), more...)
	return memory[:len(l)], memory
}

// TestP2HandedIn: lists are not written into nor kept, and what is behind them is not read.
func TestP2HandedIn(t *testing.T) {
	c, accounts := behind(house(), api.Account{Code: "x"}, api.Account{Code: "7", Name: "more", Kind: api.Asset, Parent: "1"})
	l, plans := behind(goods(3), api.Plan{}, with(func(p *api.Plan) {}))
	wasAccounts, wasPlans := slices.Clone(accounts), slices.Clone(plans)
	want := []api.Entry{made("p0-4", 4, 4), made("p1-4", 4, 4), made("p2-4", 4, 4)}
	var got []api.Entry
	for range 2 {
		if err := accrue.Check(c, l); err != nil {
			t.Errorf("Check = %v", err)
		}
		var err error
		if got, err = accrue.Entries(c, l, 1, 4); err != nil || !reflect.DeepEqual(got, want) {
			t.Errorf("Entries = %v, %v, want %v", got, err, want)
		}
		if !slices.Equal(accounts, wasAccounts) || !slices.Equal(plans, wasPlans) {
			t.Errorf("handed in is %v, %v now", accounts, plans)
		}
	}
	for _, wrong := range []error{accrue.Check(accounts, l), accrue.Check(c, plans)} { // what is behind would be told
		if plain.Told(wrong) == api.OK {
			t.Error("what is behind is right")
		}
	}
	clear(accounts)
	clear(plans)
	if !reflect.DeepEqual(got, want) {
		t.Errorf("Entries are %v behind writing into what was handed in, want %v", got, want)
	}
}

// TestP2Own: no two entries share lines, nor do those of two calls.
func TestP2Own(t *testing.T) {
	l := goods(api.MaxRules)
	var want []api.Entry
	for _, p := range l {
		want = append(want, made(p.Ref+"-2", 2, 3))
	}
	for i := range l {
		got, err := accrue.Entries(house(), l, 1, 2)
		again, bad := accrue.Entries(house(), l, 1, 2)
		if err != nil || bad != nil || !reflect.DeepEqual(got, want) {
			t.Fatalf("Entries = %v, %v, %v", got, err, bad)
		}
		spoil(got[i].Lines, api.Line{Account: "9", Cur: "9", Amount: 9})
		got[i].Lines = slices.Clone(want[i].Lines)
		if !reflect.DeepEqual(got, want) || !reflect.DeepEqual(again, want) {
			t.Errorf("others than entry %d are %v, %v now", i, got, again)
		}
		spoil(got, api.Entry{})
		if !reflect.DeepEqual(again, want) {
			t.Errorf("another answer is %v now", again)
		}
	}
	entries(t, l, 1, 2, want...)
}

// TestP3Own: parts of one call are not those of another.
func TestP3Own(t *testing.T) {
	one, err := accrue.Declining(100, 10, 1, 2, 4)
	two, bad := accrue.Declining(100, 10, 1, 2, 4)
	if err != nil || bad != nil {
		t.Fatal(err, bad)
	}
	spoil(one, 9)
	if !slices.Equal(two, []int{50, 25, 12, 3}) {
		t.Errorf("another answer is %v now", two)
	}
	declining(t, 100, 10, 1, 2, 50, 25, 12, 3)
}
