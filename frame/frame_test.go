package frame_test

import (
	"bytes"
	"encoding/binary"
	"fmt"
	"math"
	"math/rand/v2"
	"reflect"
	"slices"
	"strings"
	"testing"

	"quarterday/api"
	"quarterday/frame"
	"quarterday/plain"
)

const (
	most  = math.MaxInt
	least = math.MinInt
	big15 = api.MaxAmount
)

// alike tells whether two entries are, where no Lines and nil are the same.
func alike(a, b api.Entry) bool {
	return a.Ref == b.Ref && a.Entity == b.Entity && a.Period == b.Period && slices.Equal(a.Lines, b.Lines)
}

// written is what is written of numbers and texts; the library's numbers with a sign are those of the chapter.
func written(parts ...any) (b []byte) {
	for _, p := range parts {
		switch p := p.(type) {
		case int:
			b = binary.AppendVarint(b, int64(p))
		case string:
			b = append(binary.AppendVarint(b, int64(len(p))), p...)
		case []byte:
			b = append(b, p...)
		}
	}
	return b
}

// slowEntry is Entry of an entry with which nothing is wrong.
func slowEntry(e api.Entry) []byte {
	b := written(e.Ref, e.Entity, e.Period, len(e.Lines))
	for _, n := range e.Lines {
		b = append(b, written(n.Account, n.Cur, n.Amount)...)
	}
	return b
}

// readsEntry fails the test where an entry is not written as bytes, or these, and others behind them, are not read as the entry, or a part of them is.
func readsEntry(t *testing.T, e api.Entry, want []byte) {
	t.Helper()
	got, err := frame.Entry(e)
	if err != nil || !bytes.Equal(got, want) {
		t.Errorf("Entry of %v = %v, %v, want %v", e, got, err, want)
	}
	for _, behind := range behinds() {
		back, n, err := frame.ReadEntry(slices.Concat(want, behind))
		if err != nil || n != len(want) || !alike(back, e) {
			t.Errorf("ReadEntry of %v, %v = %v, %d, %v, want %v, %d", want, behind, back, n, err, e, len(want))
		}
	}
	for n := range len(want) {
		noEntry(t, want[:n:n])
		noEntry(t, want[:n]) // what is missing lies behind
	}
}

// behinds are bytes that may stand behind others.
func behinds() [][]byte {
	return [][]byte{nil, {0}, {128}, {255, 255}, {2, 'x', 0, 0, 0}, bytes.Repeat([]byte{1}, 300)}
}

// noEntry fails the test where bytes are read as an entry.
func noEntry(t *testing.T, b []byte) {
	t.Helper()
	e, n, err := frame.ReadEntry(b)
	if plain.Told(err) != api.ErrFile || n != 0 || !alike(e, api.Entry{}) {
		t.Errorf("ReadEntry of %v = %v, %d, %v, want ErrFile alone", b, e, n, err)
	}
}

// notWritten fails the test where an entry is.
func notWritten(t *testing.T, e api.Entry, want api.Errno) {
	t.Helper()
	b, err := frame.Entry(e)
	if plain.Told(err) != want || len(b) != 0 {
		t.Errorf("Entry of %.30v = %v, %v, want %v alone", e, b, err, want)
	}
}

// line makes one.
func line(account, cur string, amount int) api.Line {
	return api.Line{Account: account, Cur: cur, Amount: amount}
}

// many makes n lines, no two alike.
func many(n int) (l []api.Line) {
	for i := range n {
		l = append(l, line(fmt.Sprint(i), "EUR", i-5))
	}
	return l
}

// ofLines makes an entry with which nothing is wrong ahead of its Lines.
func ofLines(l ...api.Line) api.Entry {
	return api.Entry{Ref: "a", Entity: 1, Period: 2, Lines: l}
}

// numbers are some, and what is written of them.
var numbers = []struct {
	n int
	b []byte
}{
	{0, []byte{0}}, {-1, []byte{1}}, {1, []byte{2}}, {-2, []byte{3}}, {2, []byte{4}}, {7, []byte{14}}, {-7, []byte{13}},
	{63, []byte{126}}, {-64, []byte{127}}, {64, []byte{128, 1}}, {-65, []byte{129, 1}}, {65, []byte{130, 1}}, {127, []byte{254, 1}}, {128, []byte{128, 2}}, {1000, []byte{208, 15}},
	{8191, []byte{254, 127}}, {-8192, []byte{255, 127}}, {8192, []byte{128, 128, 1}}, {-8193, []byte{129, 128, 1}},
	{big15, []byte{128, 128, 180, 204, 212, 223, 198, 3}}, {-big15, []byte{255, 255, 179, 204, 212, 223, 198, 3}},
	{big15 - 1, []byte{254, 255, 179, 204, 212, 223, 198, 3}}, {1 - big15, []byte{253, 255, 179, 204, 212, 223, 198, 3}},
}

func TestF1Number(t *testing.T) {
	for _, c := range numbers {
		readsEntry(t, ofLines(api.Line{Amount: c.n}), append([]byte{2, 'a', 2, 4, 2, 0, 0}, c.b...))
		readsEntry(t, ofLines(api.Line{Amount: c.n}, api.Line{Account: "b", Amount: c.n}), slices.Concat([]byte{2, 'a', 2, 4, 4, 0, 0}, c.b, []byte{2, 'b', 0}, c.b))
	}
	for shift := range 50 { // where one byte more is needed, and where not
		for d := -2; d <= 2; d++ {
			for _, n := range []int{1<<shift + d, -1<<shift + d} {
				if n >= -big15 && n <= big15 {
					readsEntry(t, ofLines(api.Line{Amount: n}), slices.Concat([]byte{2, 'a', 2, 4, 2, 0, 0}, written(n)))
				}
			}
		}
	}
}

func TestF1Entry(t *testing.T) {
	for _, c := range []struct {
		e    api.Entry
		want []byte
	}{
		{api.Entry{}, []byte{0, 0, 0, 0}},
		{api.Entry{Ref: "a", Entity: 63, Period: 64}, []byte{2, 'a', 126, 128, 1, 0}},
		{api.Entry{Ref: "sale-1", Entity: api.MaxItems, Period: api.MaxItems, Lines: []api.Line{}}, []byte{12, 's', 'a', 'l', 'e', '-', '1', 144, 3, 144, 3, 0}},
		{
			api.Entry{Ref: "n1", Entity: 2, Period: 3, Lines: []api.Line{{Cur: "EUR", Amount: 7}, {Account: "20", Cur: "EUR", Amount: -7}}},
			[]byte{4, 'n', '1', 4, 6, 4, 0, 6, 'E', 'U', 'R', 14, 4, '2', '0', 6, 'E', 'U', 'R', 13},
		},
		// lines as they stand: alike, not even, with any texts
		{
			api.Entry{Ref: "\x00\xff\n", Lines: []api.Line{line("é", "\x80", 0), line("é", "\x80", 0), line("\x00", "a b", 5)}},
			[]byte{6, 0, 255, 10, 0, 0, 6, 4, 0xc3, 0xa9, 2, 0x80, 0, 4, 0xc3, 0xa9, 2, 0x80, 0, 2, 0, 6, 'a', ' ', 'b', 10},
		},
	} {
		readsEntry(t, c.e, c.want)
	}
}

func TestF1Texts(t *testing.T) {
	for n := range api.MaxName + 3 {
		s := strings.Repeat("x", n)
		for _, e := range []api.Entry{
			{Ref: s},
			{Ref: s, Lines: []api.Line{line(s, s, 3)}},
			ofLines(api.Line{Account: s}),
			ofLines(api.Line{Cur: s}),
			ofLines(append(many(api.MaxLines-1), api.Line{Account: s, Amount: 1})...),
			ofLines(append(many(api.MaxLines-1), api.Line{Cur: s, Amount: 1})...),
		} {
			if n <= api.MaxName {
				readsEntry(t, e, slowEntry(e))
			} else {
				notWritten(t, e, api.ErrFull)
				noEntry(t, slowEntry(e))
			}
		}
	}
	notWritten(t, api.Entry{Ref: strings.Repeat("é", 13)}, api.ErrFull) // bytes count
	notWritten(t, ofLines(slices.Repeat([]api.Line{{Account: strings.Repeat("x", 1<<28)}}, api.MaxLines)...), api.ErrFull)
}

func TestF1Lines(t *testing.T) {
	for n := range api.MaxLines + 1 {
		e := ofLines(many(n)...)
		readsEntry(t, e, slowEntry(e))
	}
	for _, n := range []int{api.MaxLines + 1, 63, 64, 200, 100000} {
		notWritten(t, ofLines(many(n)...), api.ErrFull)
		noEntry(t, slowEntry(ofLines(many(n)...)))
	}
}

func TestF1Ranges(t *testing.T) {
	for _, n := range []int{0, 1, 12, 120, 199, api.MaxItems} {
		for _, e := range []api.Entry{{Entity: n}, {Period: n}, {Ref: "r", Entity: n, Period: n, Lines: many(2)}} {
			readsEntry(t, e, slowEntry(e))
		}
	}
	for _, n := range []int{-1, -2, -200, api.MaxItems + 1, 1000, big15, -big15, most, least} {
		for _, e := range []api.Entry{{Entity: n}, {Period: n}, {Ref: "r", Entity: n, Period: n, Lines: many(2)}, {Entity: n, Lines: many(api.MaxLines)}} {
			notWritten(t, e, api.ErrRange)
			noEntry(t, slowEntry(e))
		}
	}
	for _, n := range []int{big15 + 1, -big15 - 1, 1<<55 - 1, 1 << 55, 1 << 62, -1 << 62, most, least, least + 1} {
		for place := range api.MaxLines {
			e := ofLines(many(api.MaxLines)...)
			e.Lines[place].Amount = n
			notWritten(t, e, api.ErrRange)
			noEntry(t, slowEntry(e))
		}
	}
}

// TestF1Order: of several errors the first from left to right, but how many Lines ahead of all.
func TestF1Order(t *testing.T) {
	long := strings.Repeat("x", api.MaxName+1)
	full, wide := api.Line{Account: long, Amount: 1}, api.Line{Amount: big15 + 1}
	for _, c := range []struct {
		e   api.Entry
		err api.Errno
	}{
		{api.Entry{Ref: long, Entity: -1}, api.ErrFull},
		{api.Entry{Ref: long, Period: 201}, api.ErrFull},
		{api.Entry{Ref: long, Lines: []api.Line{wide}}, api.ErrFull},
		{api.Entry{Entity: -1, Lines: []api.Line{full}}, api.ErrRange},
		{api.Entry{Period: 201, Lines: []api.Line{full}}, api.ErrRange},
		{api.Entry{Period: 201, Lines: []api.Line{{Cur: long}}}, api.ErrRange},
		{api.Entry{Lines: []api.Line{full, wide}}, api.ErrFull},
		{api.Entry{Lines: []api.Line{wide, full}}, api.ErrRange},
		{api.Entry{Lines: []api.Line{{}, wide, full}}, api.ErrRange},
		{api.Entry{Lines: []api.Line{{Account: long, Amount: most}}}, api.ErrFull},
		{api.Entry{Lines: []api.Line{{Cur: long, Amount: most}}}, api.ErrFull},
		{api.Entry{Lines: append(many(api.MaxLines), wide)}, api.ErrFull},
		{api.Entry{Lines: slices.Repeat([]api.Line{wide}, api.MaxLines+1)}, api.ErrFull},
		{api.Entry{Lines: slices.Repeat([]api.Line{wide}, api.MaxLines)}, api.ErrRange},
		{api.Entry{Entity: 201, Lines: many(api.MaxLines + 1)}, api.ErrFull},
		{api.Entry{Period: -1, Lines: many(api.MaxLines + 1)}, api.ErrFull},
		{api.Entry{Ref: long, Entity: -1, Period: -1, Lines: slices.Repeat([]api.Line{wide}, api.MaxLines+1)}, api.ErrFull},
	} {
		notWritten(t, c.e, c.err)
		noEntry(t, slowEntry(c.e))
	}
}

// longer are ways to write a number that are none, and numbers that are past all.
func longer(n int) (l [][]byte) {
	for size := len(written(n)) + 1; size < 13; size++ { // bytes more, with no bits in them, or with such as are past 64
		x := written(n)
		x[len(x)-1] |= 128
		for len(x) < size-1 {
			x = append(x, 128)
		}
		l = append(l, append(slices.Clone(x), 0))
		if size >= 10 {
			l = append(l, append(slices.Clone(x), 2), append(x, 126))
		}
	}
	for size := 8; size < 13; size++ {
		x := bytes.Repeat([]byte{255}, size)
		l = append(l, x, append(slices.Clone(x), 1), append(slices.Clone(x), 127), bytes.Repeat([]byte{128}, size))
	}
	return l
}

// TestF1LongNumbers: what is not written in as few bytes as can be, or is past 64 bits, is no number, wherever it stands.
func TestF1LongNumbers(t *testing.T) {
	l := written("12", "EUR", -7)
	for _, n := range []int{0, 1, 2, 3, 20, 63, 64} {
		text := bytes.Repeat([]byte{'x'}, min(n, 24))
		for _, x := range longer(n) {
			noEntry(t, slices.Concat(x, text, written(1, 2, 1), l))
			noEntry(t, slices.Concat(written("a"), x, written(2, 1), l))
			noEntry(t, slices.Concat(written("a", 1), x, written(1), l))
			noEntry(t, slices.Concat(written("a", 1, 2), x, bytes.Repeat(l, n)))
			noEntry(t, slices.Concat(written("a", 1, 2, 2), l, x, text, written("EUR", 1)))
			noEntry(t, slices.Concat(written("a", 1, 2, 2), l, written("1"), x, text, written(1)))
		}
	}
	for _, c := range numbers {
		for _, x := range longer(c.n) {
			noEntry(t, slices.Concat(written("a", 1, 2, 1, "12", "EUR"), x))
			noEntry(t, slices.Concat(written("a", 1, 2, 1, "12", "EUR"), x, written(0, 0)))
		}
	}
}

// TestF1Lengths: lengths and how many that are below 0, or more than there is.
func TestF1Lengths(t *testing.T) {
	for _, n := range []int{-1, -2, -24, -64, -65, -big15, 25, 63, 64, 1 << 31, 1<<31 - 1, 1 << 55, most, least} {
		for _, x := range [][]byte{nil, bytes.Repeat([]byte{'0'}, 400), make([]byte, 400)} {
			noEntry(t, slices.Concat(written(n), x))
			noEntry(t, slices.Concat(written("a", 1, 2, n), x))
			noEntry(t, slices.Concat(written("a", 1, 2, 1, n), x))
			noEntry(t, slices.Concat(written("a", 1, 2, 1, "b", n), x))
		}
	}
	noEntry(t, nil)
	noEntry(t, []byte{})
	noEntry(t, written(2, []byte("a")))
	noEntry(t, written("a", 1, 2, 1, 3, []byte("ab")))
	noEntry(t, written("a", 1, 2, 1, "ab", 24, bytes.Repeat([]byte{0}, 23)))
}

// slowReadEntry reads by the library's numbers; what it read is one if it is written so again.
func slowReadEntry(b []byte) (e api.Entry, size int, ok bool) {
	rest := b
	number := func() int {
		n, size := binary.Varint(rest)
		if size <= 0 {
			rest, ok = nil, false
			return 0
		}
		rest = rest[size:]
		return int(n)
	}
	text := func() string {
		n := number()
		if n < 0 || n > 24 || n > len(rest) {
			rest, ok = nil, false
			return ""
		}
		s := string(rest[:n])
		rest = rest[n:]
		return s
	}
	ok = true
	e.Ref, e.Entity, e.Period = text(), number(), number()
	n := number()
	for i := 0; ok && i < n && i <= 20; i++ {
		e.Lines = append(e.Lines, api.Line{Account: text(), Cur: text(), Amount: number()})
	}
	for _, l := range e.Lines {
		ok = ok && l.Amount >= -1e15 && l.Amount <= 1e15
	}
	ok = ok && e.Entity >= 0 && e.Entity <= 200 && e.Period >= 0 && e.Period <= 200 && n >= 0 && n <= 20 && bytes.HasPrefix(b, slowEntry(e))
	if !ok {
		return api.Entry{}, 0, false
	}
	return e, len(b) - len(rest), true
}

// pick is one of some.
func pick[T any](r *rand.Rand, l ...T) T {
	return l[r.IntN(len(l))]
}

// someText has mostly few bytes.
func someText(r *rand.Rand) string {
	n := pick(r, 0, 1, 2, 2, 3, 3, r.IntN(25), 24)
	b := make([]byte, n)
	for i := range b {
		b[i] = pick(r, byte(r.IntN(256)), '0'+byte(r.IntN(3)), '1')
	}
	return string(b)
}

// someAmount is one that may be.
func someAmount(r *rand.Rand) int {
	n := pick(r, r.IntN(4), r.IntN(200), r.IntN(20000), r.IntN(big15), big15, 0)
	return pick(r, n, -n)
}

// someEntry is one that may be written.
func someEntry(r *rand.Rand) api.Entry {
	e := api.Entry{Ref: someText(r), Entity: r.IntN(201), Period: r.IntN(201)}
	for range pick(r, 0, 1, 2, 3, r.IntN(21), 20) {
		e.Lines = append(e.Lines, api.Line{Account: someText(r), Cur: someText(r), Amount: someAmount(r)})
	}
	return e
}

// spoilt is bytes that are a bit others.
func spoilt(r *rand.Rand, b []byte) []byte {
	b = slices.Clone(b)
	for range 1 + r.IntN(2) {
		at := r.IntN(len(b) + 1)
		switch r.IntN(4) {
		case 0:
			b = slices.Insert(b, at, pick(r, byte(r.IntN(256)), 0, 128, 255))
		case 1:
			b = b[:at]
		case 2:
			if at < len(b) {
				b = slices.Delete(b, at, at+1)
			}
		case 3:
			if at < len(b) {
				b[at] = pick(r, byte(r.IntN(256)), b[at]^1, b[at]+2, b[at]-2, b[at]^128)
			}
		}
	}
	return b
}

func TestF1AsSlow(t *testing.T) {
	r := rand.New(rand.NewPCG(5, 1))
	good, bad := 0, 0
	for range 4000 {
		e := someEntry(r)
		b, err := frame.Entry(e)
		if err != nil || !bytes.Equal(b, slowEntry(e)) {
			t.Errorf("Entry of %v = %v, %v, want %v", e, b, err, slowEntry(e))
		}
		for i := range 20 {
			x := slices.Concat(b, pick(r, nil, b))
			if i > 0 {
				x = spoilt(r, x)
			}
			want, size, ok := slowReadEntry(x)
			if !ok {
				bad++
				noEntry(t, x)
				continue
			}
			good++
			if got, n, err := frame.ReadEntry(x); err != nil || n != size || !alike(got, want) {
				t.Errorf("ReadEntry of %v = %v, %d, %v, want %v, %d", x, got, n, err, want, size)
			}
		}
	}
	if good < 10000 || bad < 10000 {
		t.Errorf("%d good ones, %d bad ones only", good, bad)
	}
}

// TestF1Stays: what is handed in is as it was, and answers share no memory with it, nor with each other.
func TestF1Stays(t *testing.T) {
	for _, n := range []int{0, 1, 2, 5, 8, api.MaxLines} {
		memory := append(many(n), api.Line{Account: strings.Repeat("x", 99), Amount: least}, api.Line{Cur: "y"})
		was := slices.Clone(memory)
		e := ofLines(memory[:n]...)
		b, _ := frame.Entry(e)
		again, _ := frame.Entry(e)
		clear(b[:cap(b)])
		if !slices.Equal(memory, was) || !reflect.DeepEqual(e, ofLines(was[:n]...)) {
			t.Errorf("handed in is %v now, was %v", memory, was)
		}
		if !bytes.Equal(again, slowEntry(e)) {
			t.Errorf("Entry of %v = %v now, want %v", e, again, slowEntry(e))
		}
		whole := slices.Concat(again, []byte{1, 2, 3})
		kept := slices.Clone(whole)
		one, _, _ := frame.ReadEntry(whole[:len(again)])
		other, _, _ := frame.ReadEntry(whole)
		clear(one.Lines[:cap(one.Lines)])
		if !bytes.Equal(whole, kept) {
			t.Errorf("handed in is %v now, was %v", whole, kept)
		}
		clear(whole)
		if !alike(other, e) {
			t.Errorf("answer is %v now, was %v", other, e)
		}
	}
}

// TestF1StaysWhenWrong: what is handed in is as it was also where it is wrong.
func TestF1StaysWhenWrong(t *testing.T) {
	l := many(api.MaxLines + 1)
	l[3].Amount, l[4].Cur = most, strings.Repeat("c", 25)
	was := slices.Clone(l)
	notWritten(t, ofLines(l...), api.ErrFull)
	notWritten(t, ofLines(l[:10]...), api.ErrRange)
	notWritten(t, ofLines(l[4:10]...), api.ErrFull)
	if !slices.Equal(l, was) {
		t.Errorf("handed in is %v now, was %v", l, was)
	}
	b := []byte{2, 'a', 2, 4, 2, 128, 0, 0, 7}
	wasBytes := slices.Clone(b)
	noEntry(t, b)
	noEntry(t, b[:3])
	if !bytes.Equal(b, wasBytes) {
		t.Errorf("handed in is %v now, was %v", b, wasBytes)
	}
}
