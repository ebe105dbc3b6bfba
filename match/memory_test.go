package match_test

import (
	"reflect"
	"slices"
	"testing"

	"quarterday/api"
	"quarterday/match"
	"quarterday/plain"
)

// spoil writes into a list, and into what is behind it in its memory.
func spoil[T any](l []T, with T) {
	l = l[:cap(l)]
	for i := range l {
		l[i] = with
	}
}

// behind is a list that stands in memory with something else behind it.
func behind[T any](l []T, more ...T) (list, memory []T) {
	memory = append(slices.Clone(l), more...)
	return memory[:len(l)], memory
}

// handed is what is handed in, with something wrong behind each list, and all its memory.
type handed struct {
	l, items     []api.Item
	bounds, more []int
}

func hand() (h handed) {
	h.l, h.items = behind([]api.Item{at(1, 5), at(2, 6), at(2, -7), at(5, 4), at(6, -1)}, at(5, 0), at(7, 3))
	h.bounds, h.more = behind([]int{0, 2, 4}, 3, 9)
	return h
}

// answers are what comes of what is handed in.
type answers struct {
	times   [][3]int
	open    []api.Item
	sums    []int
	numbers []int
}

// asked has them, in period 6.
func asked(t *testing.T, h handed) (a answers) {
	t.Helper()
	var errs [4]error
	errs[0] = match.Check(h.l)
	a.times, a.open, errs[1] = match.Fifo(h.l)
	a.sums, errs[2] = match.Ages(h.l, 6, h.bounds)
	a.numbers, errs[3] = match.Exact(h.l, 9)
	if errs != [4]error{} {
		t.Errorf("errors are %v", errs)
	}
	return a
}

// wanted is what asked has to be.
func wanted() answers {
	return answers{
		[][3]int{{0, 2, 5}, {1, 2, 2}, {1, 4, 1}},
		[]api.Item{at(2, 3), at(5, 4)},
		[]int{0, 4, 0, 3},
		[]int{0, 3},
	}
}

// TestM1M2HandedIn: lists are not written into nor kept, and what is behind them is not read.
func TestM1M2HandedIn(t *testing.T) {
	h := hand()
	var got answers
	for range 2 {
		if got = asked(t, h); !reflect.DeepEqual(got, wanted()) {
			t.Errorf("answers are %v, want %v", got, wanted())
		}
		if !reflect.DeepEqual(h, hand()) {
			t.Errorf("handed in is %v now, was %v", h, hand())
		}
	}
	told(t, h.items, api.ErrRange) // what is behind would be told
	unaged(t, h.l, 6, h.more, api.ErrOrder)
	if !reflect.DeepEqual(h, hand()) {
		t.Errorf("handed in is %v now, was %v", h, hand())
	}
	clear(h.items)
	clear(h.more)
	if !reflect.DeepEqual(got, wanted()) {
		t.Errorf("answers are %v behind writing into what was handed in", got)
	}
}

// TestM1M2HandedInWrong: nor are they written into where there is an error.
func TestM1M2HandedInWrong(t *testing.T) {
	for _, wrong := range wrongItems() {
		l, memory := behind(wrong, api.Item{}, at(7, 3))
		was := slices.Clone(memory)
		told(t, l, plain.Told(match.Check(l)))
		if !slices.Equal(memory, was) {
			t.Errorf("handed in is %s now, was %s", short(memory), short(was))
		}
	}
	h := hand()
	unaged(t, h.l, 5, h.bounds, api.ErrState)
	unaged(t, h.l, 0, h.bounds, api.ErrRange)
	inexact(t, h.l, 100, api.ErrNone)
	if !reflect.DeepEqual(h, hand()) {
		t.Errorf("handed in is %v now, was %v", h, hand())
	}
}

// TestM1M2Own: no two lists of an answer share memory, nor do those of two calls.
func TestM1M2Own(t *testing.T) {
	h := hand()
	got, again := asked(t, h), asked(t, h)
	spoil(got.times, [3]int{99, 99, 99})
	if want := wanted(); !slices.Equal(got.open, want.open) {
		t.Errorf("what is open is %v, want %v", got.open, want.open)
	}
	spoil(got.open, item("x", 99, 99))
	spoil(got.sums, 98)
	spoil(got.numbers, 97)
	if !reflect.DeepEqual(again, wanted()) || !reflect.DeepEqual(h, hand()) {
		t.Errorf("another answer is %v now, handed in is %v", again, h)
	}
	if last := asked(t, h); !reflect.DeepEqual(last, wanted()) {
		t.Errorf("a later answer is %v", last)
	}
}

// TestM1NothingOwn: where nothing is set off, what is open is not what was handed in.
func TestM1NothingOwn(t *testing.T) {
	l := amounts(5, 7)
	_, open, err := match.Fifo(l)
	if err != nil || !slices.Equal(open, l) {
		t.Fatalf("Fifo of %v leaves %v, %v", l, open, err)
	}
	spoil(open, api.Item{})
	if !slices.Equal(l, amounts(5, 7)) {
		t.Errorf("handed in is %v now", l)
	}
}
