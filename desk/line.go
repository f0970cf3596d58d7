package desk

import (
	"strconv"
	"strings"

	"pleach/api"
)

// mostDigits is how many digits a number may have.
const mostDigits = 6

// asked is what a line names: heads, and numbers behind them.
type asked struct {
	heads   []string
	numbers []int
}

// kind of a line: how many heads and numbers it names, and what it does.
type kind struct {
	heads, numbers int
	do             func(r api.Repo, x asked) (api.Repo, string)
}

// kinds of lines, by the words that they begin with.
func kinds() map[string]kind {
	return map[string]kind{
		"put":    {1, 2, put},
		"cut":    {1, 1, cut},
		"branch": {2, 0, branch},
		"drop":   {1, 0, drop},
		"merge":  {2, 0, merge},
		"rows":   {1, 0, showRows},
		"root":   {1, 0, showRoot},
		"log":    {1, 0, showLog},
		"diff":   {2, 0, showDiff},
	}
}

// read tells of which kind a line is, and what it names.
func read(line string) (kind, asked) {
	words := strings.Split(line, " ")
	k, there := kinds()[words[0]]
	words = words[1:]
	if !there || len(words) != k.heads+k.numbers {
		panic(api.ErrForm)
	}
	var x asked
	for i, w := range words {
		if i < k.heads {
			x.heads = append(x.heads, head(w))
		} else {
			x.numbers = append(x.numbers, number(w))
		}
	}
	return k, x
}

// head has a word as it is: whether it is a name, or a head, the calls tell.
func head(w string) string {
	if w == "" {
		panic(api.ErrForm) // two blanks, or one at an end, part no words
	}
	return w
}

func number(w string) int {
	n, err := strconv.Atoi(w)
	// Of a sign, or a 0 ahead, it would not be the same text again.
	if err != nil || n < 0 || len(w) > mostDigits || strconv.Itoa(n) != w {
		panic(api.ErrForm)
	}
	return n
}
