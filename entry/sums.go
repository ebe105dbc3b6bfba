package entry

import (
	"cmp"
	"slices"

	"quarterday/api"
)

// Sums of currencies.
func Sums(e api.Entry) ([]api.Line, error) {
	if err := checkAmounts(e.Lines); err != nil {
		return nil, err
	}
	return ofCurrencies(e.Lines), nil
}

// Reverse turns an entry round.
func Reverse(e api.Entry, ref string) (api.Entry, error) {
	if !IsRef(ref) {
		return api.Entry{}, api.ErrSyntax
	}
	if err := checkAmounts(e.Lines); err != nil {
		return api.Entry{}, err
	}
	e.Ref = ref
	e.Lines = each(e.Lines, func(n api.Line) api.Line {
		n.Amount = -n.Amount
		return n
	})
	return e, nil
}

// Net puts together what is alike.
func Net(e api.Entry) (api.Entry, error) {
	if err := checkAmounts(e.Lines); err != nil {
		return api.Entry{}, err
	}
	e.Lines = slices.DeleteFunc(together(e.Lines), func(n api.Line) bool { return n.Amount == 0 })
	return e, nil
}

// checkAmounts tells what stands against adding lines up.
func checkAmounts(l []api.Line) error {
	if len(l) > api.MaxLines {
		return api.ErrFull
	}
	if slices.ContainsFunc(l, func(n api.Line) bool { return !IsAmount(n.Amount) }) {
		return api.ErrRange
	}
	return nil
}

// ofCurrencies adds up the lines of each currency, whatever their accounts are.
func ofCurrencies(l []api.Line) []api.Line {
	return together(each(l, func(n api.Line) api.Line {
		n.Account = ""
		return n
	}))
}

// together adds up the lines of each account and currency, and puts them in order. The sums fit into 64 bits, because lines and amounts are bounded where it is called.
func together(l []api.Line) []api.Line {
	var sums []api.Line
	for _, n := range l {
		i, found := slices.BinarySearchFunc(sums, n, compare)
		if found {
			sums[i].Amount += n.Amount
		} else {
			sums = slices.Insert(sums, i, n)
		}
	}
	return sums
}

// compare orders lines by Account, then Cur.
func compare(a, b api.Line) int {
	return cmp.Or(cmp.Compare(a.Account, b.Account), cmp.Compare(a.Cur, b.Cur))
}

// each is what is made of each line, in memory of its own.
func each(l []api.Line, do func(api.Line) api.Line) []api.Line {
	var made []api.Line
	for _, n := range l {
		made = append(made, do(n))
	}
	return made
}
