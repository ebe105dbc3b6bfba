package frame_test

import (
	"bytes"
	"cmp"
	"encoding/binary"
	"fmt"
	"math/rand/v2"
	"slices"
	"strings"
	"testing"

	"quarterday/api"
	"quarterday/frame"
	"quarterday/plain"
)

// slowBalances is Balances of some with which nothing is wrong.
func slowBalances(l []api.Balance) []byte {
	b := written(len(l))
	for _, x := range l {
		b = append(b, written(x.Entity, x.Account, x.Cur, x.Amount)...)
	}
	return b
}

// readsBalances fails the test where balances are not written as bytes, or these, and others behind them, are not read as the balances, or a part of them is.
func readsBalances(t *testing.T, l []api.Balance, want []byte) {
	t.Helper()
	got, err := frame.Balances(l)
	if err != nil || !bytes.Equal(got, want) {
		t.Errorf("Balances of %v = %v, %v, want %v", l, got, err, want)
	}
	for _, behind := range behinds() {
		back, n, err := frame.ReadBalances(slices.Concat(want, behind))
		if err != nil || n != len(want) || !slices.Equal(back, l) {
			t.Errorf("ReadBalances of %v, %v = %v, %d, %v, want %v, %d", want, behind, back, n, err, l, len(want))
		}
	}
	for n := range len(want) {
		noBalances(t, want[:n:n])
		noBalances(t, want[:n]) // what is missing lies behind
	}
}

// noBalances fails the test where bytes are read as balances.
func noBalances(t *testing.T, b []byte) {
	t.Helper()
	l, n, err := frame.ReadBalances(b)
	if plain.Told(err) != api.ErrFile || n != 0 || len(l) != 0 {
		t.Errorf("ReadBalances of %v = %v, %d, %v, want ErrFile alone", b, l, n, err)
	}
}

// wrongBalances fails the test where balances are written, or what would be written of them is read.
func wrongBalances(t *testing.T, l []api.Balance, want api.Errno) {
	t.Helper()
	b, err := frame.Balances(l)
	if plain.Told(err) != want || len(b) != 0 {
		t.Errorf("Balances of %.30v = %v, %v, want %v alone", l, b, err, want)
	}
	noBalances(t, slowBalances(l))
}

// bal makes a balance.
func bal(entity int, account, cur string, amount int) api.Balance {
	return api.Balance{Entity: entity, Account: account, Cur: cur, Amount: amount}
}

// rising makes n balances that rise.
func rising(n int) (l []api.Balance) {
	for i := range n {
		l = append(l, api.Balance{Entity: i / 3, Account: fmt.Sprint(10 + i%3), Cur: "EUR", Amount: i - 3})
	}
	return l
}

func TestF2Balances(t *testing.T) {
	for _, c := range []struct {
		l    []api.Balance
		want []byte
	}{
		{nil, []byte{0}},
		{[]api.Balance{}, []byte{0}},
		{[]api.Balance{{}}, []byte{2, 0, 0, 0, 0}},
		{[]api.Balance{{Entity: api.MaxItems, Account: "1", Cur: "EUR", Amount: -65}}, []byte{2, 144, 3, 2, '1', 6, 'E', 'U', 'R', 129, 1}},
		{
			[]api.Balance{bal(2, "20", "EUR", 1000), bal(3, "60", "EUR", -48)},
			[]byte{4, 4, 4, '2', '0', 6, 'E', 'U', 'R', 208, 15, 6, 4, '6', '0', 6, 'E', 'U', 'R', 95},
		},
	} {
		readsBalances(t, c.l, c.want)
	}
	for _, c := range numbers {
		readsBalances(t, []api.Balance{{Amount: c.n}}, append([]byte{2, 0, 0, 0}, c.b...))
	}
}

func TestF2HowMany(t *testing.T) {
	for _, n := range []int{0, 1, 2, 3, 20, 21, 63, 64, 65, 199, api.MaxItems} {
		readsBalances(t, rising(n), slowBalances(rising(n)))
	}
	for _, n := range []int{api.MaxItems + 1, api.MaxItems + 2, 300, 601} {
		wrongBalances(t, rising(n), api.ErrFull)
	}
	// ahead of what is wrong with each
	wrongBalances(t, make([]api.Balance, api.MaxItems+1), api.ErrFull)
	wrongBalances(t, slices.Repeat([]api.Balance{{Entity: -1}}, api.MaxItems+1), api.ErrFull)
	wrongBalances(t, append(rising(api.MaxItems), api.Balance{Entity: 199, Amount: most}), api.ErrFull)
	wrongBalances(t, make([]api.Balance, api.MaxItems), api.ErrOrder)
	for _, n := range []int{-1, -64, -65, 201, 202, 1 << 31, 1 << 55, most, least} {
		for _, x := range [][]byte{nil, make([]byte, 2000), slowBalances(rising(api.MaxItems))[2:]} {
			noBalances(t, slices.Concat(written(n), x))
		}
	}
}

func TestF2Wrong(t *testing.T) {
	long := strings.Repeat("x", api.MaxName+1)
	for _, n := range []int{0, 1, 7, api.MaxItems - 1} { // how many stand ahead
		behind := api.Balance{Entity: 100, Account: "5", Cur: "USD", Amount: 5}
		with := func(change func(*api.Balance)) []api.Balance {
			b := behind
			change(&b)
			return append(rising(n), b)
		}
		for _, x := range []int{-1, -2, 201, 1000, big15, most, least} {
			wrongBalances(t, with(func(b *api.Balance) { b.Entity = x }), api.ErrRange)
		}
		for _, x := range []int{big15 + 1, -big15 - 1, 1 << 55, 1 << 62, most, least} {
			wrongBalances(t, with(func(b *api.Balance) { b.Amount = x }), api.ErrRange)
		}
		for _, x := range []string{long, strings.Repeat("é", 13), long + long} {
			wrongBalances(t, with(func(b *api.Balance) { b.Account = x }), api.ErrFull)
			wrongBalances(t, with(func(b *api.Balance) { b.Cur = x }), api.ErrFull)
		}
		for _, l := range [][]api.Balance{
			with(func(b *api.Balance) {}),
			with(func(b *api.Balance) { b.Entity = api.MaxItems }),
			with(func(b *api.Balance) { b.Amount = big15 }),
			with(func(b *api.Balance) { b.Amount = -big15 }),
			with(func(b *api.Balance) { b.Account, b.Cur = long[1:], long[1:] }),
			with(func(b *api.Balance) { b.Account, b.Cur = "", "" }),
		} {
			readsBalances(t, l, slowBalances(l))
		}
	}
}

// TestF2Order: by Entity, then Account, then Cur, by bytes.
func TestF2Order(t *testing.T) {
	rise := []api.Balance{
		bal(0, "", "", 9), bal(0, "", "A", 8), bal(0, "\x00", "", 7), bal(0, "1", "EUR", 6), bal(0, "1", "USD", 5), bal(0, "1", "USD ", 4), bal(0, "1", "eur", 3), bal(0, "10", "EUR", 2), bal(0, "2", "AAA", 1),
		bal(0, "Z", "", 0), bal(0, "a", "", 0), bal(0, "a", "z", 0), bal(0, "a", "é", 0), bal(0, "a", "\xff", 0), bal(0, "é", "", 0), bal(0, "\xff", "", 0),
		bal(1, "", "", 0), bal(2, "", "", 0), bal(9, "1", "", 0), bal(10, "0", "", 0), bal(63, "", "", 0), bal(64, "", "", 0), bal(200, "", "", 0),
	}
	readsBalances(t, rise, slowBalances(rise))
	for i := range rise {
		for j := range rise {
			if l := []api.Balance{rise[i], rise[j]}; i < j {
				readsBalances(t, l, slowBalances(l))
			} else {
				wrongBalances(t, l, api.ErrOrder)
			}
		}
	}
	wrongBalances(t, []api.Balance{bal(1, "1", "EUR", 1), bal(1, "1", "EUR", 2)}, api.ErrOrder) // Amount does not count
	for _, n := range []int{2, 3, 50, api.MaxItems} {
		for _, at := range []int{0, (n - 1) / 2, n - 2} {
			l := rising(n)
			l[at], l[at+1] = l[at+1], l[at]
			wrongBalances(t, l, api.ErrOrder)
			l = rising(n)
			l[at+1] = l[at]
			wrongBalances(t, l, api.ErrOrder)
		}
	}
}

// TestF2First: one by one, from left to right, then whether it stands behind.
func TestF2First(t *testing.T) {
	long := strings.Repeat("x", api.MaxName+1)
	one := api.Balance{Entity: 5, Account: "5", Cur: "EUR", Amount: 5}
	for _, c := range []struct {
		l   []api.Balance
		err api.Errno
	}{
		{[]api.Balance{{Entity: -1, Account: long}}, api.ErrRange},
		{[]api.Balance{{Entity: -1, Cur: long}}, api.ErrRange},
		{[]api.Balance{{Account: long, Amount: most}}, api.ErrFull},
		{[]api.Balance{{Cur: long, Amount: least}}, api.ErrFull},
		{[]api.Balance{one, {Entity: -1}}, api.ErrRange},
		{[]api.Balance{one, {Entity: 4, Account: long}}, api.ErrFull},
		{[]api.Balance{one, {Entity: 4, Cur: long}}, api.ErrFull},
		{[]api.Balance{one, {Entity: 4, Amount: most}}, api.ErrRange},
		{[]api.Balance{one, {Entity: 5, Account: "5", Cur: "EUR", Amount: most}}, api.ErrRange},
		{[]api.Balance{one, one, {Entity: -1}}, api.ErrOrder},
		{[]api.Balance{one, one, {Entity: 9, Account: long}}, api.ErrOrder},
		{[]api.Balance{one, {}, {Entity: 9, Amount: most}}, api.ErrOrder},
		{[]api.Balance{{Account: long}, one, one}, api.ErrFull},
		{[]api.Balance{{Amount: most}, one, one}, api.ErrRange},
		{[]api.Balance{{Amount: most}, {Account: long}}, api.ErrRange},
		{[]api.Balance{{Account: long}, {Amount: most}}, api.ErrFull},
		{[]api.Balance{{Account: "a"}, {Account: long}, {Amount: most}}, api.ErrFull},
	} {
		wrongBalances(t, c.l, c.err)
	}
}

// TestF2LongNumbers: what is not written in as few bytes as can be, or is past 64 bits, is no number, wherever it stands.
func TestF2LongNumbers(t *testing.T) {
	for _, n := range []int{0, 1, 2, 20, 63, 64} {
		text := bytes.Repeat([]byte{'x'}, min(n, 24))
		for _, x := range longer(n) {
			noBalances(t, slices.Concat(x, slowBalances(rising(n))[len(written(n)):]))
			noBalances(t, slices.Concat(written(1), x, written("1", "EUR", 1)))
			noBalances(t, slices.Concat(written(1, 3), x, text, written("EUR", 1)))
			noBalances(t, slices.Concat(written(1, 3, "1"), x, text, written(1)))
			noBalances(t, slices.Concat(written(2, 3, "1", "EUR", 1), x, written("1", "EUR", 1)))
		}
	}
	for _, c := range numbers {
		for _, x := range longer(c.n) {
			noBalances(t, slices.Concat(written(1, 3, "1", "EUR"), x))
			noBalances(t, slices.Concat(written(1, 3, "1", "EUR"), x, written(0, 0)))
		}
	}
	for _, n := range []int{-1, -2, -65, 25, 64, 1 << 31, 1 << 55, most, least} {
		for _, x := range [][]byte{nil, make([]byte, 400)} {
			noBalances(t, slices.Concat(written(1, 3, n), x))
			noBalances(t, slices.Concat(written(1, 3, "1", n), x))
		}
	}
}

// slowReadBalances reads by the library's numbers; what it read are some if they are written so again.
func slowReadBalances(b []byte) ([]api.Balance, int) {
	var l []api.Balance
	rest, bad := b, false
	number := func(low, high int) int {
		n, size := binary.Varint(rest)
		if size <= 0 || int(n) < low || int(n) > high {
			rest, bad = nil, true
			return 0
		}
		rest = rest[size:]
		return int(n)
	}
	text := func() string {
		n := number(0, min(24, len(rest)))
		if n > len(rest) {
			bad = true
			return ""
		}
		s := string(rest[:n])
		rest = rest[n:]
		return s
	}
	for range number(0, 200) {
		l = append(l, api.Balance{Entity: number(0, 200), Account: text(), Cur: text(), Amount: number(-1e15, 1e15)})
	}
	word := func(x api.Balance) []string { return []string{fmt.Sprintf("%03d", x.Entity), x.Account, x.Cur} }
	for i := range l {
		bad = bad || i > 0 && slices.Compare(word(l[i-1]), word(l[i])) >= 0
	}
	if bad || !bytes.HasPrefix(b, slowBalances(l)) {
		return nil, 0
	}
	return l, len(b) - len(rest)
}

// someBalances are such as may be written, mostly.
func someBalances(r *rand.Rand) (l []api.Balance) {
	for range pick(r, 0, 1, 2, 3, r.IntN(12), r.IntN(201)) {
		l = append(l, api.Balance{Entity: r.IntN(pick(r, 3, 201)), Account: someText(r), Cur: someText(r), Amount: someAmount(r)})
	}
	slices.SortFunc(l, func(a, b api.Balance) int {
		return cmp.Or(a.Entity-b.Entity, strings.Compare(a.Account, b.Account), strings.Compare(a.Cur, b.Cur))
	})
	return l
}

func TestF2AsSlow(t *testing.T) {
	r := rand.New(rand.NewPCG(5, 2))
	good, bad := 0, 0
	for range 3000 {
		l := someBalances(r)
		b := slowBalances(l)
		for i := range 20 {
			x := slices.Concat(b, pick(r, nil, b))
			if i > 0 {
				x = spoilt(r, x)
			}
			want, size := slowReadBalances(x)
			if size == 0 {
				bad++
				noBalances(t, x)
				continue
			}
			good++
			if got, n, err := frame.ReadBalances(x); err != nil || n != size || !slices.Equal(got, want) {
				t.Errorf("ReadBalances of %v = %v, %d, %v, want %v, %d", x, got, n, err, want, size)
			}
			if again, err := frame.Balances(want); err != nil || !bytes.Equal(again, x[:size]) {
				t.Errorf("Balances of %v = %v, %v, want %v", want, again, err, x[:size])
			}
		}
	}
	if good < 5000 || bad < 5000 {
		t.Errorf("%d good ones, %d bad ones only", good, bad)
	}
}

// TestF2Stays: what is handed in is as it was, and answers share no memory with it, nor with each other.
func TestF2Stays(t *testing.T) {
	for _, n := range []int{0, 1, 2, 5, 64, api.MaxItems} {
		memory := append(rising(n), api.Balance{Entity: -1}, api.Balance{Account: strings.Repeat("x", 99), Amount: least})
		was := slices.Clone(memory)
		l := memory[:n]
		b, _ := frame.Balances(l)
		again, _ := frame.Balances(l)
		clear(b[:cap(b)])
		if !slices.Equal(memory, was) || !bytes.Equal(again, slowBalances(was[:n])) {
			t.Errorf("handed in is %v now, was %v; Balances = %v", memory, was, again)
		}
		whole := slices.Concat(again, []byte{1, 2, 3})
		kept := slices.Clone(whole)
		one, _, _ := frame.ReadBalances(whole[:len(again)])
		other, _, _ := frame.ReadBalances(whole)
		clear(one[:cap(one)])
		if !bytes.Equal(whole, kept) {
			t.Errorf("handed in is %v now, was %v", whole, kept)
		}
		clear(whole)
		if !slices.Equal(other, l) {
			t.Errorf("answer is %v now, was %v", other, l)
		}
		if _, err := frame.Balances(memory); err == nil || !slices.Equal(memory, was) {
			t.Errorf("error %v; handed in is %v now, was %v", err, memory, was)
		}
	}
}
