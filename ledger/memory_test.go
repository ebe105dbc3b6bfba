package ledger_test

import (
	"slices"
	"testing"

	"quarterday/api"
	"quarterday/ledger"
)

// spoil writes into a list, and into what is behind it in its memory.
func spoil[T any](l []T, with T) {
	l = l[:cap(l)]
	for i := range l {
		l[i] = with
	}
}

// behind is a list that stands in memory with something else behind it.
func behind[T any](l []T, more ...T) (list, memory []T) {
	memory = append(slices.Clone(l), more...)
	return memory[:len(l)], memory
}

// own fails the test where what a call gave, or what it gives once more, hangs on what was written into another answer of it.
func own[T comparable](t *testing.T, what string, with T, call func() ([]T, error)) {
	t.Helper()
	first, err := call()
	again, bad := call()
	if err != nil || bad != nil || len(first) == 0 {
		t.Fatalf("%s = %v, %v, then %v", what, first, err, bad)
	}
	kept := slices.Clone(first)
	spoil(first, with)
	third, err := call()
	if !slices.Equal(again, kept) || !slices.Equal(third, kept) || err != nil {
		t.Errorf("%s: other answers are %v and %v, %v, want %v", what, again, third, err, kept)
	}
}

// TestG1Memory: entries and their lines are not written into, what is behind them is not read, and what comes out is the caller's own.
func TestG1Memory(t *testing.T) {
	lines, lineMemory := behind([]api.Line{line("40", "EUR", -7), line("10", "EUR", 7), line("20", "EUR", 0)}, line("x", "x", least), line("10", "EUR", 1))
	l, memory := behind([]api.Entry{ent(1, 1, line("10", "EUR", 2)), {Ref: "a", Entity: 1, Period: 1, Lines: lines}}, ent(1, 1, line("x", "x", least)), ent(1, 1, line("10", "EUR", 1)))
	wasLines, was := slices.Clone(lineMemory), slices.Clone(memory)
	want := []api.Balance{bal(1, "10", "EUR", 9), bal(1, "40", "EUR", -7)}
	balances(t, l, 1, want...)
	trial(t, l, 1, 1, want...)
	own(t, "Balances", bal(9, "9", "9", 9), func() ([]api.Balance, error) { return ledger.Balances(l, 1) })
	own(t, "Trial", bal(9, "9", "9", 9), func() ([]api.Balance, error) { return ledger.Trial(l, 1, 1) })
	same := func(a, b api.Entry) bool {
		return a.Ref == b.Ref && a.Entity == b.Entity && a.Period == b.Period && slices.Equal(a.Lines, b.Lines)
	}
	if !slices.Equal(lineMemory, wasLines) || !slices.EqualFunc(memory, was, same) {
		t.Errorf("handed in is %v, %v now, was %v, %v", memory, lineMemory, was, wasLines)
	}
	got, _ := ledger.Balances(l, 1)
	clear(lineMemory)
	clear(memory)
	if !slices.Equal(got, want) {
		t.Errorf("Balances are %v behind writing into the entries, want %v", got, want)
	}
}

// TestG2MergeMemory: also where one list is empty, or both are one, what comes out is none of them.
func TestG2MergeMemory(t *testing.T) {
	one, memory := behind(rising(3), bal(0, "", "", 0), bal(1, "1", "1", least))
	was := slices.Clone(memory)
	for _, c := range [][2][]api.Balance{{one, nil}, {nil, one}, {one, {}}, {{}, one}, {one, one}, {one[:2], one[1:]}, {one[2:], one[:1]}, {one[:1], one[1:2]}} {
		own(t, "Merge", bal(9, "9", "9", 9), func() ([]api.Balance, error) { return ledger.Merge(c[0], c[1]) })
		if !slices.Equal(memory, was) {
			t.Errorf("handed in is %v now, was %v", memory, was)
		}
	}
	told(t, "Check", ledger.Check(one), api.OK)
	got, _ := ledger.Merge(one, nil)
	clear(memory)
	if !slices.Equal(got, rising(3)) {
		t.Errorf("Merge is %v behind writing into what was handed in", got)
	}
}

func TestG2StatementMemory(t *testing.T) {
	c, accounts := behind(house(), api.Account{Code: "x"}, api.Account{Code: "5", Name: "more", Kind: api.Expense})
	l, memory := behind([]api.Balance{bal(1, "100", "EUR", 7), bal(1, "4", "EUR", -7)}, bal(0, "", "", 0), bal(1, "2", "EUR", 1))
	wasAccounts, was := slices.Clone(accounts), slices.Clone(memory)
	statement(t, c, l, 1, "EUR", 7, 7, 7, 0, 0, -7)
	own(t, "Statement", 9, func() ([]int, error) { return ledger.Statement(c, l, 1, "EUR") })
	if !slices.Equal(accounts, wasAccounts) || !slices.Equal(memory, was) {
		t.Errorf("handed in is %v, %v now, was %v, %v", accounts, memory, wasAccounts, was)
	}
}
