package allot_test

import (
	"fmt"
	"reflect"
	"slices"
	"testing"

	"quarterday/allot"
	"quarterday/api"
	"quarterday/plain"
)

// spoil writes into a list, and into what is behind it in its memory.
func spoil[T any](l []T, with T) {
	l = l[:cap(l)]
	for i := range l {
		l[i] = with
	}
}

// behind is a list that stands in memory with something else behind it.
func behind[T any](l []T, more ...T) (list, memory []T) {
	memory = append(slices.Clone(l), more...)
	return memory[:len(l)], memory
}

// handed is what is handed in to Entries, with something wrong behind each list, and all its memory.
type handed struct {
	c, accounts  []api.Account
	l, pools     []api.Pool
	b, balances  []api.Balance
	codes, toTwo []string
	numbers      []int
}

func hand() (h handed) {
	var to []string
	var weights []int
	to, h.codes = behind([]string{"11", "2", "3"}, "9", "100")
	weights, h.numbers = behind([]int{1, 2, 3}, -1, least)
	h.toTwo = []string{"3", "100"}
	h.c, h.accounts = behind(house(), api.Account{Code: "x"}, api.Account{Code: "7", Name: "more", Kind: api.Asset, Parent: "1"})
	h.l, h.pools = behind([]api.Pool{pool("100", to, weights...), pool("4", h.toTwo[:1], 5), pool("2", []string{"3"}, 1)}, api.Pool{}, pool("100", []string{"3"}, 1))
	h.b, h.balances = behind([]api.Balance{bal(1, "100", "EUR", 60), bal(1, "4", "EUR", -7)}, bal(0, "", "", 0), bal(1, "2", "EUR", 5))
	return h
}

// TestA1A2HandedIn: lists are not written into, and what is behind them is not read.
func TestA1A2HandedIn(t *testing.T) {
	h := hand()
	for range 2 {
		if err := allot.Check(h.c, h.l); err != nil {
			t.Errorf("Check = %v", err)
		}
		entries(t, h.l, h.b, given(0, []string{"100", "11", "2", "3"}, -60, 10, 20, 30), given(1, []string{"4", "3"}, 7, -7))
		if _, err := allot.Entries(h.c, h.l, h.b, 1, 2); err != nil {
			t.Errorf("Entries = %v", err)
		}
		if !reflect.DeepEqual(h, hand()) {
			t.Errorf("handed in is %v now, was %v", h, hand())
		}
	}
	for _, wrong := range []error{allot.Check(h.accounts, h.l), allot.Check(h.c, h.pools)} { // what is behind would be told
		if plain.Told(wrong) == api.OK {
			t.Error("what is behind is right")
		}
	}
}

// TestA2NotKept: what Entries gave stays, whatever is written into what was handed in.
func TestA2NotKept(t *testing.T) {
	h := hand()
	got, err := allot.Entries(h.c, h.l, h.b, 1, 2)
	clear(h.accounts)
	clear(h.codes)
	clear(h.toTwo)
	clear(h.numbers)
	clear(h.pools)
	clear(h.balances)
	want := []api.Entry{given(0, []string{"100", "11", "2", "3"}, -60, 10, 20, 30), given(1, []string{"4", "3"}, 7, -7)}
	if err != nil || !reflect.DeepEqual(got, want) {
		t.Errorf("Entries are %v, %v behind writing into what was handed in, want %v", got, err, want)
	}
}

// TestA2Own: no two entries share lines, nor do those of two calls.
func TestA2Own(t *testing.T) {
	l := slices.Repeat([]api.Pool{good()}, api.MaxRules) // all of one account, by one list
	b := []api.Balance{bal(1, "100", "EUR", 2)}          // so that lines are left out
	var want []api.Entry
	for i := range l {
		want = append(want, given(i, []string{"100", "2", "3"}, -2, 1, 1))
	}
	for i := range l {
		got, err := allot.Entries(house(), l, b, 1, 2)
		again, bad := allot.Entries(house(), l, b, 1, 2)
		if err != nil || bad != nil || !reflect.DeepEqual(got, want) {
			t.Fatalf("Entries = %v, %v, %v", got, err, bad)
		}
		spoil(got[i].Lines, api.Line{Account: "9", Cur: "9", Amount: 9})
		got[i].Lines = slices.Clone(want[i].Lines)
		if !reflect.DeepEqual(got, want) || !reflect.DeepEqual(again, want) {
			t.Errorf("others than entry %d are %v, %v now", i, got, again)
		}
		spoil(got, api.Entry{})
		if !reflect.DeepEqual(again, want) {
			t.Errorf("another answer is %v now", again)
		}
	}
	entries(t, l, b, want...)
}

// TestA3Memory: nothing is written into rows and amounts, what is behind them is not read, and what comes out is the caller's own.
func TestA3Memory(t *testing.T) {
	for _, give := range []int{0, 1} { // where nothing is given too
		make := func() (weights, rows [][]int, amounts, numbers []int) {
			for range 3 {
				row, _ := behind(slices.Repeat([]int{give}, 3), -1, least)
				weights = append(weights, row)
			}
			weights, rows = behind(weights, nil, []int{-1})
			amounts, numbers = behind([]int{4, 5, 6}, least, 1)
			return weights, rows, amounts, numbers
		}
		want := []int{4, 5, 6}
		if give == 1 {
			want = []int{0, 0, 15}
		}
		weights, rows, amounts, numbers := make()
		steps(t, weights, amounts, want...)
		got, _ := allot.Steps(weights, amounts)
		again, _ := allot.Steps(weights, amounts)
		spoil(got, 9)
		if !slices.Equal(again, want) {
			t.Errorf("another answer is %v now, want %v", again, want)
		}
		_, wasRows, _, wasNumbers := make()
		if !slices.Equal(numbers, wasNumbers) || !reflect.DeepEqual(whole(rows), whole(wasRows)) {
			t.Errorf("handed in is %v, %v now", rows, numbers)
		}
		for _, row := range rows {
			clear(row)
		}
		clear(numbers)
		if !slices.Equal(again, want) {
			t.Errorf("Steps is %v behind writing into what was handed in, want %v", again, want)
		}
	}
	row := []int{0, 1, 1} // one list for all rows, and for the amounts
	steps(t, [][]int{row, row, row}, row, 0, 0, 2)
	if fmt.Sprint(row) != "[0 1 1]" {
		t.Errorf("handed in is %v now", row)
	}
}

// whole has the rows with what is behind them in their memory.
func whole(rows [][]int) (l [][]int) {
	for _, row := range rows {
		l = append(l, row[:cap(row)])
	}
	return l
}
