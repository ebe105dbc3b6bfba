package entry_test

import (
	"fmt"
	"math/big"
	"math/rand/v2"
	"reflect"
	"slices"
	"sort"
	"strings"
	"testing"

	"quarterday/api"
	"quarterday/entry"
	"quarterday/plain"
)

// line makes one.
func line(account, cur string, amount int) api.Line {
	return api.Line{Account: account, Cur: cur, Amount: amount}
}

// alike tells whether two entries are, where no Lines and nil are the same.
func alike(a, b api.Entry) bool {
	return a.Ref == b.Ref && a.Entity == b.Entity && a.Period == b.Period && slices.Equal(a.Lines, b.Lines)
}

// isZero tells whether an entry has nothing at all.
func isZero(e api.Entry) bool {
	return alike(e, api.Entry{})
}

func TestE2Sums(t *testing.T) {
	for _, c := range []struct{ l, want []api.Line }{
		{nil, nil},
		{[]api.Line{}, nil},
		{[]api.Line{line("100", "EUR", 5)}, []api.Line{line("", "EUR", 5)}},
		{[]api.Line{line("100", "EUR", 5), line("4", "EUR", -5)}, []api.Line{line("", "EUR", 0)}},
		{[]api.Line{line("100", "EUR", 0)}, []api.Line{line("", "EUR", 0)}},
		{[]api.Line{line("9", "USD", 1), line("8", "EUR", 2), line("7", "USD", 4), line("6", "AAA", -8)}, []api.Line{line("", "AAA", -8), line("", "EUR", 2), line("", "USD", 5)}},
		// whatever accounts and currencies are; these by bytes
		{[]api.Line{line("", "", 0)}, []api.Line{line("", "", 0)}},
		{
			[]api.Line{line("x", "eur", 1), line("x", "EURO", 2), line("", "EUR", 4), line("-", "", 8), line("x", "\xff", 16), line("x", "é", 32), line("x", "EU", 64)},
			[]api.Line{line("", "", 8), line("", "EU", 64), line("", "EUR", 4), line("", "EURO", 2), line("", "eur", 1), line("", "é", 32), line("", "\xff", 16)},
		},
		{[]api.Line{line("x", "B", 1), line("x", "a", 2), line("x", "10", 4), line("x", "9", 8)}, []api.Line{line("", "10", 4), line("", "9", 8), line("", "B", 1), line("", "a", 2)}},
		// more than one line may have
		{slices.Repeat([]api.Line{line("1", "EUR", big15)}, api.MaxLines), []api.Line{line("", "EUR", 20*big15)}},
		{slices.Repeat([]api.Line{line("1", "EUR", -big15)}, api.MaxLines), []api.Line{line("", "EUR", -20*big15)}},
	} {
		e := api.Entry{Lines: c.l} // Ref, Entity and Period are not asked
		got, err := entry.Sums(e)
		told(t, "Sums", err, api.OK)
		if !slices.Equal(got, c.want) {
			t.Errorf("Sums of %v = %v, want %v", c.l, got, c.want)
		}
	}
}

func TestE2Reverse(t *testing.T) {
	for _, c := range []struct {
		e    api.Entry
		ref  string
		want api.Entry
	}{
		{api.Entry{}, "a", api.Entry{Ref: "a"}},
		{api.Entry{Ref: "-A", Entity: -1, Period: least}, "abcdefghijkl", api.Entry{Ref: "abcdefghijkl", Entity: -1, Period: least}},
		{ent(two()...), "r-2", api.Entry{Ref: "r-2", Entity: 1, Period: 1, Lines: []api.Line{eur("100", -7), eur("4", 7)}}},
		{ent(two()...), "r-1", api.Entry{Ref: "r-1", Entity: 1, Period: 1, Lines: []api.Line{eur("100", -7), eur("4", 7)}}}, // its own Ref
		// in their order, put together or not, even or not, whatever accounts and currencies are
		{
			api.Entry{Ref: "a", Entity: 12, Period: 120, Lines: []api.Line{line("9", "USD", big15), line("", "", -big15), line("9", "USD", 0), line("1", "eur", 3)}}, "b",
			api.Entry{Ref: "b", Entity: 12, Period: 120, Lines: []api.Line{line("9", "USD", -big15), line("", "", big15), line("9", "USD", 0), line("1", "eur", -3)}},
		},
	} {
		got, err := entry.Reverse(c.e, c.ref)
		told(t, "Reverse", err, api.OK)
		if !alike(got, c.want) {
			t.Errorf("Reverse of %v to %q = %v, want %v", c.e, c.ref, got, c.want)
		}
	}
}

func TestE2ReverseRef(t *testing.T) {
	for _, c := range refs {
		got, err := entry.Reverse(ent(two()...), c.s)
		told(t, fmt.Sprintf("Reverse to %.20q", c.s), err, errIf(c.ok))
		if c.ok && got.Ref != c.s || !c.ok && !isZero(got) {
			t.Errorf("Reverse to %.20q = %v", c.s, got)
		}
	}
}

func TestE2Net(t *testing.T) {
	for _, c := range []struct{ l, want []api.Line }{
		{nil, nil},
		{[]api.Line{}, nil},
		{two(), two()},
		{[]api.Line{eur("4", -7), eur("100", 7)}, two()},
		{[]api.Line{eur("100", 0)}, nil},
		{[]api.Line{eur("100", 7), eur("100", -7)}, nil},
		{[]api.Line{eur("100", 7), eur("4", -7), eur("100", -7), eur("4", 7)}, nil},
		{[]api.Line{eur("100", 7), eur("4", -9), eur("100", -7), eur("11", 9)}, []api.Line{eur("11", 9), eur("4", -9)}},
		{[]api.Line{eur("2", 1), eur("10", 2), eur("1", 4), eur("2", 8)}, []api.Line{eur("1", 4), eur("10", 2), eur("2", 9)}}, // by bytes, not numbers
		{
			[]api.Line{line("2", "AAA", 1), line("1", "USD", 2), line("1", "EUR", 4), line("2", "USD", 8), line("1", "USD", 16)},
			[]api.Line{line("1", "EUR", 4), line("1", "USD", 18), line("2", "AAA", 1), line("2", "USD", 8)},
		},
		// what is put together is one account's and one currency's, not two words that are alike when joined
		{[]api.Line{line("1", "1", 1), line("11", "", -1), line("", "11", 2)}, []api.Line{line("", "11", 2), line("1", "1", 1), line("11", "", -1)}},
		{[]api.Line{line("", "", 3), line("\xff", "\x00", 1), line("z", "é", 2), line("", "", 4)}, []api.Line{line("", "", 7), line("z", "é", 2), line("\xff", "\x00", 1)}},
		{slices.Repeat([]api.Line{eur("1", big15)}, api.MaxLines), []api.Line{eur("1", 20*big15)}},
		{slices.Repeat([]api.Line{eur("1", -big15)}, api.MaxLines), []api.Line{eur("1", -20*big15)}},
	} {
		for _, e := range []api.Entry{{Lines: c.l}, {Ref: "-X", Entity: -7, Period: most, Lines: c.l}, ent(c.l...)} {
			got, err := entry.Net(e)
			told(t, "Net", err, api.OK)
			if want := (api.Entry{Ref: e.Ref, Entity: e.Entity, Period: e.Period, Lines: c.want}); !alike(got, want) {
				t.Errorf("Net of %v = %v, want %v", e, got, want)
			}
		}
	}
}

// TestE2Wrong: too many lines ahead of an amount that is none, and with nothing else in the answer.
func TestE2Wrong(t *testing.T) {
	type wrong struct {
		l   []api.Line
		err api.Errno
	}
	list := []wrong{
		{make([]api.Line, api.MaxLines), api.OK},
		{make([]api.Line, api.MaxLines+1), api.ErrFull},
		{many(api.MaxLines + 1), api.ErrFull},
		{slices.Repeat([]api.Line{eur("1", least)}, api.MaxLines+1), api.ErrFull},
	}
	for _, amount := range []int{big15 + 1, -big15 - 1, most, least} {
		for place := range api.MaxLines {
			l := many(api.MaxLines)
			l[place].Amount = amount
			list = append(list, wrong{l, api.ErrRange})
		}
		list = append(list, wrong{[]api.Line{line("", "", amount)}, api.ErrRange}, wrong{append(many(api.MaxLines), eur("1", amount)), api.ErrFull})
	}
	for i, c := range list {
		sums, err := entry.Sums(ent(c.l...))
		told(t, fmt.Sprint(i, ": Sums"), err, c.err)
		net, err := entry.Net(ent(c.l...))
		told(t, fmt.Sprint(i, ": Net"), err, c.err)
		back, err := entry.Reverse(ent(c.l...), "b")
		told(t, fmt.Sprint(i, ": Reverse"), err, c.err)
		none, err := entry.Reverse(ent(c.l...), "-b")
		told(t, fmt.Sprint(i, ": Reverse to a wrong Ref"), err, api.ErrSyntax)
		if c.err != api.OK && (len(sums) != 0 || !isZero(net) || !isZero(back)) || !isZero(none) {
			t.Errorf("%d: %v, %v, %v, %v with an error", i, sums, net, back, none)
		}
	}
}

// slowTogether adds up by words, in big numbers.
func slowTogether(l []api.Line, word func(api.Line) string) (sums []api.Line) {
	amounts := map[string]*big.Int{}
	for _, n := range l {
		w := word(n)
		if amounts[w] == nil {
			amounts[w] = new(big.Int)
		}
		amounts[w].Add(amounts[w], big.NewInt(int64(n.Amount)))
	}
	for w, amount := range amounts {
		account, cur, _ := strings.Cut(w, "\n")
		sums = append(sums, line(account, cur, int(amount.Int64())))
	}
	sort.Slice(sums, func(i, j int) bool {
		a, b := sums[i], sums[j]
		return a.Account < b.Account || a.Account == b.Account && a.Cur < b.Cur
	})
	return sums
}

// TestE2AsSlow: random entries, against sums that are made another way, and by what has to be true of them together.
func TestE2AsSlow(t *testing.T) {
	r := rand.New(rand.NewPCG(4, 2))
	good := 0
	for range 20000 {
		e := someEntry(r)
		sums, err := entry.Sums(e)
		if plain.Told(err) != api.OK {
			continue
		}
		good++
		want := slowTogether(e.Lines, func(n api.Line) string { return "\n" + n.Cur })
		if !slices.Equal(sums, want) {
			t.Errorf("Sums of %v = %v, want %v", e, sums, want)
		}
		net, err := entry.Net(e)
		told(t, "Net", err, api.OK)
		want = slices.DeleteFunc(slowTogether(e.Lines, func(n api.Line) string { return n.Account + "\n" + n.Cur }), func(n api.Line) bool { return n.Amount == 0 })
		if !alike(net, api.Entry{Ref: e.Ref, Entity: e.Entity, Period: e.Period, Lines: want}) {
			t.Errorf("Net of %v = %v, want %v", e, net, want)
		}
		back, err := entry.Reverse(e, "back")
		told(t, "Reverse", err, api.OK)
		both, err := entry.Net(api.Entry{Lines: slices.Concat(e.Lines, back.Lines)[:min(2*len(e.Lines), api.MaxLines)]})
		told(t, "Net of both", err, api.OK)
		if 2*len(e.Lines) <= api.MaxLines && len(both.Lines) != 0 {
			t.Errorf("%v and %v leave %v", e, back, both)
		}
		if e.Ref == "" || e.Ref == "-a" || e.Ref == "A" || len(e.Ref) > 12 {
			continue
		}
		if again, err := entry.Reverse(back, e.Ref); err != nil || !alike(again, e) {
			t.Errorf("Reverse of %v = %v, %v, want %v", back, again, err, e)
		}
	}
	if good < 10000 {
		t.Errorf("%d entries only", good)
	}
}

// TestE2Stays: what is handed in is as it was, whatever is written into the answers, and these are as they were, whatever is written into it.
func TestE2Stays(t *testing.T) {
	for _, n := range []int{2, 3, 8, api.MaxLines} {
		memory := append(many(n), eur("100", least), line("x", "USD", 3))
		was := slices.Clone(memory)
		e := ent(memory[:n]...)
		calls := []func() []api.Line{
			func() []api.Line { l, _ := entry.Sums(e); return l },
			func() []api.Line { r, _ := entry.Reverse(e, "b"); return r.Lines },
			func() []api.Line { m, _ := entry.Net(e); return m.Lines },
		}
		for i, call := range calls {
			got, again := call(), call()
			kept := slices.Clone(again)
			if len(got) == 0 || !slices.Equal(got, again) {
				t.Errorf("%d: %v, then %v", i, got, again)
			}
			full := got[:cap(got)]
			for j := range full {
				full[j] = line("y", "YYY", 77)
			}
			if !slices.Equal(memory, was) || !reflect.DeepEqual(e, ent(was[:n]...)) {
				t.Errorf("%d: handed in is %v now, was %v", i, memory, was)
			}
			clear(memory)
			if !slices.Equal(again, kept) {
				t.Errorf("%d: answer is %v now, was %v", i, again, kept)
			}
			copy(memory, was)
		}
	}
}
