// Package levels sets the levels of a tree one on the other, however each of them is cut.
package levels

import (
	"pleach/api"
	"pleach/chunk"
)

// Of tells the levels of right rows, where cut tells the chunks of a level.
func Of(l []api.Row, cut func(l []api.Row, level int) ([][]api.Row, api.Errno)) ([][][]api.Row, api.Errno) {
	var t [][][]api.Row
	// A level has at most half as many chunks as rows, rounded up: this ends ahead of the last level that rows are cut at.
	for len(l) > 0 {
		level, e := cut(l, len(t))
		if e != api.OK {
			return nil, e
		}
		t = append(t, level)
		if len(level) == 1 {
			break
		}
		if l, e = tell(level); e != api.OK {
			return nil, e
		}
	}
	return t, api.OK
}

// tell has a row for each chunk of a level: its last Key, and its Sum.
func tell(level [][]api.Row) ([]api.Row, api.Errno) {
	var told []api.Row
	for _, c := range level {
		sum, e := chunk.Sum(c)
		if e != api.OK {
			return nil, e
		}
		told = append(told, api.Row{Key: c[len(c)-1].Key, Val: sum})
	}
	return told, api.OK
}
