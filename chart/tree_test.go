package chart_test

import (
	"fmt"
	"math/big"
	"math/rand/v2"
	"slices"
	"testing"

	"quarterday/api"
	"quarterday/chart"
	"quarterday/plain"
)

// chain is n accounts, each under the one ahead.
func chain(n int) []api.Account {
	l := full(n)
	for i := range l[1:] {
		l[i+1].Parent = l[i].Code
	}
	return l
}

// codesOf gives the codes of a chart.
func codesOf(l []api.Account) (codes []string) {
	for _, a := range l {
		codes = append(codes, a.Code)
	}
	return codes
}

func TestC3Leaves(t *testing.T) {
	for _, c := range []struct {
		l    []api.Account
		want []string
	}{
		{nil, nil},
		{[]api.Account{acc("1", "a", api.Asset, "")}, []string{"1"}},
		{house(), []string{"100", "101", "11", "2", "3", "4", "500000"}},
		{full(api.MaxChart), codesOf(full(api.MaxChart))},
		{chain(api.MaxChart), []string{"159"}},
	} {
		got, err := chart.Leaves(c.l)
		told(t, "Leaves", err, api.OK)
		if !slices.Equal(got, c.want) {
			t.Errorf("Leaves(%v) = %q, want %q", c.l, got, c.want)
		}
	}
}

// TestC3LeafCheck: it tells of every code, says first what is wrong with a chart, and does not keep the list.
func TestC3LeafCheck(t *testing.T) {
	l := house()
	checkLeaf, err := chart.LeafCheck(l)
	told(t, "LeafCheck", err, api.OK)
	clear(l)
	for _, a := range house() {
		want := api.OK
		if a.Code == "1" || a.Code == "10" || a.Code == "5" {
			want = api.ErrKind
		}
		told(t, "leaf "+a.Code, checkLeaf(a.Code), want)
	}
	for _, code := range []string{"", "-", "0", "01", "1 ", "12", "1000", "6", "till-1", "x", "1\x00"} {
		told(t, fmt.Sprintf("leaf %q", code), checkLeaf(code), api.ErrNone)
	}
	for i, c := range wrong {
		none, err := chart.LeafCheck(c.l)
		told(t, fmt.Sprint(i, ": LeafCheck"), err, c.err)
		if none != nil {
			t.Errorf("%d: LeafCheck gives something with an error", i)
		}
	}
}

func TestC3Under(t *testing.T) {
	for _, c := range []struct {
		l    []api.Account
		code string
		want []string
		err  api.Errno
	}{
		{house(), "1", []string{"1", "10", "100", "101", "11"}, api.OK},
		{house(), "10", []string{"10", "100", "101"}, api.OK},
		{house(), "100", []string{"100"}, api.OK},
		{house(), "2", []string{"2"}, api.OK}, // "" is the Parent of many, and none of them is under another
		{house(), "5", []string{"5", "500000"}, api.OK},
		{full(api.MaxChart), "159", []string{"159"}, api.OK},
		{chain(api.MaxChart), "100", codesOf(full(api.MaxChart)), api.OK},
		{chain(api.MaxChart), "158", []string{"158", "159"}, api.OK},
		{house(), "", nil, api.ErrNone},
		{house(), "-", nil, api.ErrNone},
		{house(), "12", nil, api.ErrNone},
		{house(), "01", nil, api.ErrNone},
		{house(), "assets", nil, api.ErrNone},
		{nil, "", nil, api.ErrNone},
		{nil, "1", nil, api.ErrNone},
	} {
		got, err := chart.Under(c.l, c.code)
		told(t, fmt.Sprintf("Under of %q", c.code), err, c.err)
		if !slices.Equal(got, c.want) {
			t.Errorf("Under(%v, %q) = %q, want %q", c.l, c.code, got, c.want)
		}
	}
}

// three are an account and two that are under it, then one by itself.
func three() []api.Account {
	return []api.Account{acc("1", "a", 1, ""), acc("2", "b", 1, "1"), acc("3", "c", 1, "2"), acc("4", "d", 1, "")}
}

func TestC3Roll(t *testing.T) {
	for _, c := range []struct {
		l       []api.Account
		amounts []int
		want    []int
		err     api.Errno
	}{
		{nil, nil, nil, api.OK},
		{nil, []int{}, nil, api.OK},
		{house(), []int{1, 2, 4, 8, 16, 32, 64, 128, 256, 512}, []int{31, 14, 4, 8, 16, 32, 64, 128, 768, 512}, api.OK},
		{three(), []int{5, -7, 3, -1}, []int{1, -4, 3, -1}, api.OK},
		{chain(3), []int{0, 0, 9}, []int{9, 9, 9}, api.OK},
		// sums that fit just, and do not
		{three(), []int{most - 2, 1, 1, most}, []int{most, 2, 1, most}, api.OK},
		{three(), []int{most - 1, 1, 1, 0}, nil, api.ErrOver},
		{three(), []int{least + 2, -1, -1, least}, []int{least, -2, -1, least}, api.OK},
		{three(), []int{least + 1, -1, -1, 0}, nil, api.ErrOver},
		{three(), []int{0, most, 1, 0}, nil, api.ErrOver},
		{three(), []int{-1, most, 1, 0}, nil, api.ErrOver}, // 1 fits, what is under it does not
		{three(), []int{least, most, most, 0}, nil, api.ErrOver},
		{three(), []int{most, 1, -1, 0}, []int{most, 0, -1, 0}, api.OK}, // only in the end
		{three(), []int{most, most, least, 0}, []int{most - 1, -1, least, 0}, api.OK},
		{full(4), []int{most, most, least, least}, []int{most, most, least, least}, api.OK},
		// not as many
		{nil, []int{0}, nil, api.ErrShape},
		{three(), nil, nil, api.ErrShape},
		{three(), []int{1, 2, 3}, nil, api.ErrShape},
		{three(), []int{1, 2, 3, 4, 5}, nil, api.ErrShape},
		{three(), []int{most, most, most}, nil, api.ErrShape},
		{three(), []int{most, most, most, 0, 0}, nil, api.ErrShape},
		{house(), make([]int, 100000), nil, api.ErrShape},
	} {
		got, err := chart.Roll(c.l, c.amounts)
		told(t, fmt.Sprintf("Roll of %.100v", c.amounts), err, c.err)
		if !slices.Equal(got, c.want) {
			t.Errorf("Roll(%v, %v) = %v, want %v", c.l, c.amounts, got, c.want)
		}
	}
}

// TestC3RollIsFresh: amounts are not what comes out.
func TestC3RollIsFresh(t *testing.T) {
	amounts := []int{1, 2, 3, 4}
	got, err := chart.Roll(full(4), amounts)
	told(t, "Roll", err, api.OK)
	clear(got)
	if !slices.Equal(amounts, []int{1, 2, 3, 4}) {
		t.Errorf("amounts became %v", amounts)
	}
}

func TestC3AgainstSlow(t *testing.T) {
	r := rand.New(rand.NewPCG(11, 12))
	over := 0
	for range 3000 {
		l := someTree(r)
		amounts, scale := make([]int, len(l)), r.IntN(64)
		for i := range amounts {
			amounts[i] = int(r.Uint64()) >> (scale * r.IntN(2))
		}
		wantLeaves, wantUnder, wantSums, bad := slowTree(l, amounts)
		if bad == api.ErrOver {
			over++
		}
		leaves, err := chart.Leaves(l)
		if err != nil || !slices.Equal(leaves, wantLeaves) {
			t.Errorf("Leaves(%v) = %q, %v, want %q", l, leaves, err, wantLeaves)
		}
		for i, a := range l {
			under, err := chart.Under(l, a.Code)
			if err != nil || !slices.Equal(under, wantUnder[i]) {
				t.Errorf("Under(%v, %q) = %q, %v, want %q", l, a.Code, under, err, wantUnder[i])
			}
		}
		sums, err := chart.Roll(l, amounts)
		if plain.Told(err) != bad || !slices.Equal(sums, wantSums) {
			t.Errorf("Roll(%v, %v) = %v, %v, want %v, %v", l, amounts, sums, err, wantSums, bad)
		}
	}
	if over < 100 || over > 2900 {
		t.Errorf("%d of 3000 do not fit", over)
	}
}

// someTree is a chart with Parents at random.
func someTree(r *rand.Rand) []api.Account {
	l := full(r.IntN(api.MaxChart + 1))
	for i := range l {
		l[i].Kind = 1 + r.IntN(2)
		if j := r.IntN(i + 1); j < i && l[j].Kind == l[i].Kind {
			l[i].Parent = l[j].Code
		}
	}
	return l
}

// slowTree climbs from each account to all that it is under, and adds numbers of any size.
func slowTree(l []api.Account, amounts []int) (leaves []string, under [][]string, sums []int, err api.Errno) {
	at := map[string]int{}
	under = make([][]string, len(l))
	all := make([]*big.Int, len(l))
	parents := map[string]bool{}
	for i, a := range l {
		at[a.Code], all[i], parents[a.Parent] = i, new(big.Int), true
		for j, more := i, true; more; j, more = at[l[j].Parent], l[j].Parent != "" {
			under[j] = append(under[j], a.Code)
			all[j].Add(all[j], big.NewInt(int64(amounts[i])))
		}
	}
	for i, a := range l {
		if !parents[a.Code] {
			leaves = append(leaves, a.Code)
		}
		if !all[i].IsInt64() {
			err = api.ErrOver
		}
		sums = append(sums, int(all[i].Int64()))
	}
	if err != api.OK {
		return leaves, under, nil, err
	}
	return leaves, under, sums, api.OK
}
