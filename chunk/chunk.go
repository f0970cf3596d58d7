// Package chunk: chunks: see doc/02-chunk.md.
package chunk

import (
	"iter"
	"slices"

	"pleach/api"
	"pleach/rows"
)

// lastLevel is the greatest level that rows are cut at.
const lastLevel = 9

// Ends tells whether a chunk of that level may end with a row.
func Ends(r api.Row, level int) bool {
	if rows.Check([]api.Row{r}) != api.OK || !levelRight(level) {
		return false
	}
	return (7*r.Key+13*r.Val+5*level)%3 == 0
}

// Cut tells the chunks of rows at a level.
func Cut(l []api.Row, level int) ([][]api.Row, api.Errno) {
	if e := rows.Check(l); e != api.OK {
		return nil, e
	}
	if !levelRight(level) {
		return nil, api.ErrRange
	}
	var cut [][]api.Row
	for c := range chunks(l, level) {
		cut = append(cut, slices.Clone(c)) // a piece of l would be the caller's own memory
	}
	return cut, api.OK
}

// Sum tells one number of all rows.
func Sum(l []api.Row) (int, api.Errno) {
	if e := rows.Check(l); e != api.OK {
		return 0, e
	}
	sum := 1
	for _, r := range l {
		// The remainder is taken row by row: it is the same in the end, and no number grows too great.
		sum = (31*sum + 7*r.Key + r.Val + 1) % (api.MaxVal + 1)
	}
	return sum, api.OK
}

func levelRight(level int) bool { return level >= 0 && level <= lastLevel }

// chunks goes through the chunks of rows, from the front on, each as a piece of l.
func chunks(l []api.Row, level int) iter.Seq[[]api.Row] {
	return func(yield func([]api.Row) bool) {
		rest := l
		for len(rest) > 0 {
			n := firstLen(rest, level)
			if !yield(rest[:n]) {
				return
			}
			rest = rest[n:]
		}
	}
}

// firstLen tells how many rows the first chunk has.
func firstLen(l []api.Row, level int) int {
	for i, r := range l {
		n := i + 1
		if n == api.MostChunk || n >= api.LeastChunk && Ends(r, level) {
			return n
		}
	}
	return len(l)
}
