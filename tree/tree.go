// Package tree: trees: see doc/03-tree.md.
package tree

import (
	"iter"
	"slices"

	"pleach/api"
	"pleach/chunk"
	"pleach/levels"
	"pleach/rows"
)

// Build tells the tree of rows.
func Build(l []api.Row) ([][][]api.Row, api.Errno) {
	if e := rows.Check(l); e != api.OK {
		return nil, e
	}
	return levels.Of(l, chunk.Cut)
}

// Check tells whether a tree is what Build makes of its rows.
func Check(t [][][]api.Row) api.Errno {
	l, few := ground(t)
	if !few {
		return api.ErrForm
	}
	built, e := Build(l)
	if e != api.OK || !same(t, built) {
		return api.ErrForm
	}
	return api.OK
}

// Rows tells the rows of which a tree was built.
func Rows(t [][][]api.Row) ([]api.Row, api.Errno) {
	if e := Check(t); e != api.OK {
		return nil, e
	}
	l, _ := ground(t)
	return l, api.OK
}

// Root tells one number of a whole tree.
func Root(t [][][]api.Row) (int, api.Errno) {
	if e := Check(t); e != api.OK {
		return 0, e
	}
	var top []api.Row // of no level: the Sum of no rows is the 1 that is asked for
	if len(t) > 0 {
		top = t[len(t)-1][0]
	}
	return chunk.Sum(top)
}

// ground has the rows of level 0, one behind the other; false, if there are more than may be.
// It stops there: whoever hands in one chunk many times over has more rows than memory.
func ground(t [][][]api.Row) ([]api.Row, bool) {
	var l []api.Row
	for c := range leaves(t) {
		if len(l)+len(c) > api.MaxRows {
			return nil, false
		}
		l = append(l, c...)
	}
	return l, true
}

// leaves goes through the chunks of level 0.
func leaves(t [][][]api.Row) iter.Seq[[]api.Row] {
	return func(yield func([]api.Row) bool) {
		if len(t) == 0 {
			return
		}
		for _, c := range t[0] {
			if !yield(c) {
				return
			}
		}
	}
}

func same(a, b [][][]api.Row) bool { return slices.EqualFunc(a, b, sameLevel) }

func sameLevel(a, b [][]api.Row) bool { return slices.EqualFunc(a, b, sameChunk) }

func sameChunk(a, b []api.Row) bool { return slices.Equal(a, b) }
