package match_test

import (
	"testing"

	"quarterday/api"
	"quarterday/match"
)

func TestM1FifoNone(t *testing.T) {
	sets(t, nil, nil, nil)
	sets(t, []api.Item{}, nil, nil)
	setsLeft(t, []int{5}, nil, [2]int{0, 5})
}

// TestM1FifoOneSign: of items of one sign none is set off.
func TestM1FifoOneSign(t *testing.T) {
	sets(t, amounts(5, 5, 1, big15), nil, amounts(5, 5, 1, big15))
	sets(t, amounts(-5, -5, -1, -big15), nil, amounts(-5, -5, -1, -big15))
	sets(t, items(api.MaxItems), nil, items(api.MaxItems))
}

// TestM1FifoTwo: just as much as is open, one less and one more.
func TestM1FifoTwo(t *testing.T) {
	setsLeft(t, []int{7, -7}, [][3]int{{0, 1, 7}})
	setsLeft(t, []int{7, -6}, [][3]int{{0, 1, 6}}, [2]int{0, 1})
	setsLeft(t, []int{7, -8}, [][3]int{{0, 1, 7}}, [2]int{1, -1})
	setsLeft(t, []int{1, -1}, [][3]int{{0, 1, 1}})
	setsLeft(t, []int{big15, -big15}, [][3]int{{0, 1, big15}})
	setsLeft(t, []int{big15, 1 - big15}, [][3]int{{0, 1, big15 - 1}}, [2]int{0, 1})
	setsLeft(t, []int{1, -big15}, [][3]int{{0, 1, 1}}, [2]int{1, 1 - big15})
}

// TestM1FifoSeveralAhead: an item is set off against several ahead, the first first, whichever of them it is like.
func TestM1FifoSeveralAhead(t *testing.T) {
	setsLeft(t, []int{5, 6, 7, -18}, [][3]int{{0, 3, 5}, {1, 3, 6}, {2, 3, 7}})
	setsLeft(t, []int{5, 6, 7, -17}, [][3]int{{0, 3, 5}, {1, 3, 6}, {2, 3, 6}}, [2]int{2, 1})
	setsLeft(t, []int{5, 6, 7, -19}, [][3]int{{0, 3, 5}, {1, 3, 6}, {2, 3, 7}}, [2]int{3, -1})
	setsLeft(t, []int{5, 6, 7, -12}, [][3]int{{0, 3, 5}, {1, 3, 6}, {2, 3, 1}}, [2]int{2, 6})
	setsLeft(t, []int{5, 6, 7, -11}, [][3]int{{0, 3, 5}, {1, 3, 6}}, [2]int{2, 7})
	setsLeft(t, []int{5, 6, 7, -10}, [][3]int{{0, 3, 5}, {1, 3, 5}}, [2]int{1, 1}, [2]int{2, 7})
	setsLeft(t, []int{5, 6, 7, -7}, [][3]int{{0, 3, 5}, {1, 3, 2}}, [2]int{1, 4}, [2]int{2, 7})
	setsLeft(t, []int{5, 6, 7, -5}, [][3]int{{0, 3, 5}}, [2]int{1, 6}, [2]int{2, 7})
	setsLeft(t, []int{5, 6, 7, -1}, [][3]int{{0, 3, 1}}, [2]int{0, 4}, [2]int{1, 6}, [2]int{2, 7})
	setsLeft(t, []int{7, 6, 5, -8}, [][3]int{{0, 3, 7}, {1, 3, 1}}, [2]int{1, 5}, [2]int{2, 5})
}

// TestM1FifoSeveralBehind: an item against which several behind it are set off.
func TestM1FifoSeveralBehind(t *testing.T) {
	setsLeft(t, []int{18, -5, -6, -7}, [][3]int{{0, 1, 5}, {0, 2, 6}, {0, 3, 7}})
	setsLeft(t, []int{19, -5, -6, -7}, [][3]int{{0, 1, 5}, {0, 2, 6}, {0, 3, 7}}, [2]int{0, 1})
	setsLeft(t, []int{17, -5, -6, -7}, [][3]int{{0, 1, 5}, {0, 2, 6}, {0, 3, 6}}, [2]int{3, -1})
	setsLeft(t, []int{10, -5, -6, -7}, [][3]int{{0, 1, 5}, {0, 2, 5}}, [2]int{2, -1}, [2]int{3, -7})
	setsLeft(t, []int{5, -5, -6, -7}, [][3]int{{0, 1, 5}}, [2]int{2, -6}, [2]int{3, -7})
	setsLeft(t, []int{4, -5, -6, -7}, [][3]int{{0, 1, 4}}, [2]int{1, -1}, [2]int{2, -6}, [2]int{3, -7})
}

// TestM1FifoBothWays: of one item a part is set off ahead, and the rest behind.
func TestM1FifoBothWays(t *testing.T) {
	setsLeft(t, []int{5, -8, 3}, [][3]int{{0, 1, 5}, {1, 2, 3}})
	setsLeft(t, []int{5, -8, 2}, [][3]int{{0, 1, 5}, {1, 2, 2}}, [2]int{1, -1})
	setsLeft(t, []int{5, -8, 4}, [][3]int{{0, 1, 5}, {1, 2, 3}}, [2]int{2, 1})
	setsLeft(t, []int{5, 2, -9, 1, 4}, [][3]int{{0, 2, 5}, {1, 2, 2}, {2, 3, 1}, {2, 4, 1}}, [2]int{4, 3})
}

// TestM1FifoByTurns: items of both signs by turns, each as much as the one ahead, more, or less.
func TestM1FifoByTurns(t *testing.T) {
	setsLeft(t, []int{5, -5, 5, -5, 5, -5}, [][3]int{{0, 1, 5}, {2, 3, 5}, {4, 5, 5}})
	setsLeft(t, []int{5, -5, 5, -5, 5}, [][3]int{{0, 1, 5}, {2, 3, 5}}, [2]int{4, 5})
	setsLeft(t, []int{1, -2, 3, -4, 5, -6}, [][3]int{{0, 1, 1}, {1, 2, 1}, {2, 3, 2}, {3, 4, 2}, {4, 5, 3}}, [2]int{5, -3})
	setsLeft(t, []int{6, -5, 4, -3, 2, -1}, [][3]int{{0, 1, 5}, {0, 3, 1}, {2, 3, 2}, {2, 5, 1}}, [2]int{2, 1}, [2]int{4, 2})
	setsLeft(t, []int{5, 5, -1, -1, 5, -9, -5}, [][3]int{{0, 2, 1}, {0, 3, 1}, {0, 5, 3}, {1, 5, 5}, {4, 5, 1}, {4, 6, 4}}, [2]int{6, -1})
}

// TestM1FifoWhoever: neither Refs nor periods tell what is set off against what, and both stay with what is left.
func TestM1FifoWhoever(t *testing.T) {
	sets(t, []api.Item{item("a", 1, 5), item("b", 1, 7), item("b", 60, -7), item("a", 120, -1), item("a", 120, -6)},
		[][3]int{{0, 2, 5}, {1, 2, 2}, {1, 3, 1}, {1, 4, 4}},
		[]api.Item{item("a", 120, -2)})
	sets(t, []api.Item{item("a-1", 3, 5), item("a-1", 3, 5), item("b", 4, 9), item("a-1", 7, -6)},
		[][3]int{{0, 3, 5}, {1, 3, 1}},
		[]api.Item{item("a-1", 3, 4), item("b", 4, 9)})
}

// TestM1FifoMaxItems: as many items as may be.
func TestM1FifoMaxItems(t *testing.T) {
	of := make([]int, api.MaxItems)
	var first, turns [][3]int
	for i := range of {
		of[i] = 1
		if i < 199 {
			first = append(first, [3]int{i, 199, 1})
		}
		if i%2 == 1 {
			turns = append(turns, [3]int{i - 1, i, 1})
		}
	}
	of[199] = -200
	setsLeft(t, of, first, [2]int{199, -1})
	of[199] = -199
	setsLeft(t, of, first)
	of[199] = -198
	setsLeft(t, of, first[:198], [2]int{198, 1})
	for i := range of {
		of[i] = 1 - i%2*2
	}
	setsLeft(t, of, turns)
	for i := range of {
		of[i] = big15 * (1 - i/100*2)
	}
	var halves [][3]int
	for i := range 100 {
		halves = append(halves, [3]int{i, i + 100, big15})
	}
	setsLeft(t, of, halves)
}

// TestM1FifoMostTimes: how often something is set off is less than how many items there are, and not bounded otherwise.
func TestM1FifoMostTimes(t *testing.T) {
	var of []int
	for i := range api.MaxItems {
		of = append(of, (i+1)*(1-i%2*2))
	}
	times, open, err := match.Fifo(amounts(of...))
	if err != nil || len(times) != api.MaxItems-1 || len(open) != 1 || open[0].Amount != -100 {
		t.Errorf("Fifo gives %d times, %v, %v", len(times), open, err)
	}
}

func TestM1FifoErrors(t *testing.T) {
	for _, l := range wrongItems() {
		told(t, l, errorOf(t, l))
	}
}

// TestM1FifoTooMany: what is wrong is told however many items would be set off ahead of it.
func TestM1FifoTooMany(t *testing.T) {
	l := amounts(5, -5, 6, -6)
	unset(t, append(l, at(4, 1)), api.ErrOrder)
	unset(t, append(l, at(5, 0)), api.ErrRange)
	unset(t, append(l, item("", 5, 1)), api.ErrSyntax)
}
