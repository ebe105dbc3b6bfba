package chart

import (
	"iter"
	"strings"

	"quarterday/api"
)

const (
	letters   = "ALEIX" // of the kinds, in their order
	moneyWord = "m"
	noneWord  = "-" // no Money, no Parent
	lineWords = 5
)

// Parse reads a chart. With an error it tells the line that is wrong.
func Parse(text string) ([]api.Account, int, error) {
	var l []api.Account
	for at, line := range lines(text) {
		a, err := readNext(l, line)
		if err != nil {
			return nil, at, err
		}
		l = append(l, a)
	}
	return l, 0, nil
}

// Print writes a chart.
func Print(l []api.Account) (string, error) {
	if err := Check(l); err != nil {
		return "", err
	}
	var text strings.Builder
	for _, a := range l {
		text.WriteString(written(a))
	}
	return text.String(), nil
}

// lines goes through the lines of a text by their numbers. Each has its byte 10 still, so that a last one without it can be told.
func lines(text string) iter.Seq2[int, string] {
	return func(yield func(int, string) bool) {
		rest := text
		for at := 0; rest != ""; at++ {
			size := strings.IndexByte(rest, '\n') + 1
			if size == 0 {
				size = len(rest)
			}
			if !yield(at, rest[:size]) {
				return
			}
			rest = rest[size:]
		}
	}
}

// readNext reads the account of a line that follows others, with which nothing is wrong.
func readNext(ahead []api.Account, line string) (api.Account, error) {
	a, ok := read(line)
	if !ok {
		return api.Account{}, api.ErrSyntax
	}
	if len(ahead) >= api.MaxChart {
		return api.Account{}, api.ErrFull
	}
	if err := checkNext(ahead, a); err != nil {
		return api.Account{}, err
	}
	return a, nil
}

// read reads the words of a line. Code and Name are taken as they are: what is wrong with them is told by checkNext.
func read(line string) (api.Account, bool) {
	line, ended := strings.CutSuffix(line, "\n")
	words := strings.SplitN(line, " ", lineWords+1) // one more, so that too many can be told
	if !ended || len(words) != lineWords {
		return api.Account{}, false
	}
	kind, isKind := readKind(words[2])
	isMoney := words[3] == moneyWord
	parent, isParent := readParent(words[4])
	if !isKind || !isMoney && words[3] != noneWord || !isParent {
		return api.Account{}, false
	}
	return api.Account{Code: words[0], Name: words[1], Kind: kind, Parent: parent, Money: isMoney}, true
}

// readKind gives the kind of a letter.
func readKind(s string) (int, bool) {
	i := strings.Index(letters, s)
	if i < 0 || len(s) != 1 {
		return 0, false
	}
	return api.Asset + i, true
}

// readParent gives the Parent that is written so.
func readParent(s string) (string, bool) {
	if s == noneWord {
		return "", true
	}
	return s, isCode(s)
}

// written is the line of an account with which nothing is wrong.
func written(a api.Account) string {
	i := a.Kind - api.Asset
	words := []string{a.Code, a.Name, letters[i : i+1], noneWord, noneWord}
	if a.Money {
		words[3] = moneyWord
	}
	if a.Parent != "" {
		words[4] = a.Parent
	}
	return strings.Join(words, " ") + "\n"
}
