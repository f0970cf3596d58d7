// Package sample has what the tests of all layers are made with. The program itself calls none of it.
package sample

import (
	"math"
	"slices"

	"pleach/api"
	"pleach/rows"
	"pleach/tree"
)

// Few rows: three, which are one chunk.
func Few() []api.Row { return []api.Row{{Key: 2, Val: 5}, {Key: 7, Val: 0}, {Key: 9, Val: 30}} }

// Twelve rows, those of the document's examples.
func Twelve() []api.Row {
	var l []api.Row
	for k := range 12 {
		l = append(l, api.Row{Key: 3 * k, Val: k})
	}
	return l
}

// Highest has rows of which the tree is as high as one can be: each chunk ends as early as it may.
func Highest() []api.Row {
	var l []api.Row
	for k, v := range []int{
		904, 413, 198, 294, 248, 640, 331, 833, 36, 387, 162, 394, 877, 767, 294, 201, 407, 67, 144, 56,
		7, 519, 63, 646, 448, 920, 991, 516, 900, 307, 268, 137, 969, 312, 574, 970, 500, 68, 86, 702,
	} {
		l = append(l, api.Row{Key: k, Val: v})
	}
	return l
}

// Drawer draws numbers, the same ones for the same seed.
type Drawer uint64

// Next draws a number from 0 to n - 1.
func (d *Drawer) Next(n int) int {
	*d = *d*6364136223846793005 + 1442695040888963407
	return int(uint64(*d) >> 33 % uint64(n))
}

// Shuffled has what a list has, in an order that is drawn.
func Shuffled[T any](d *Drawer, l []T) []T {
	out := slices.Clone(l)
	for i := range out {
		j := i + d.Next(len(out)-i)
		out[i], out[j] = out[j], out[i]
	}
	return out
}

// Drawn has rows, at most n, the same ones for the same seed.
func Drawn(seed uint64, n int) []api.Row {
	d := Drawer(seed)
	var l []api.Row
	for k := d.Next(3); k <= api.MaxKey && len(l) < n; k += 1 + d.Next(3) {
		l = append(l, api.Row{Key: k, Val: d.Next(api.MaxVal + 1)})
	}
	return l
}

// All has rows of each number, and those of the edges.
func All() [][]api.Row {
	l := [][]api.Row{nil, {}, {{}}, {{Key: 99, Val: 996}}, Few(), Twelve(), Highest()}
	for seed := range uint64(120) {
		l = append(l, Drawn(seed, int(seed%41)))
	}
	return l
}

// Turned has rows that came from others by some edits; its values are few, so that two often have the same.
func Turned(d *Drawer, l []api.Row) []api.Row {
	out := slices.Clone(l)
	for range d.Next(8) {
		key := d.Next(api.MaxKey + 1)
		if len(out) > 0 && d.Next(2) == 0 {
			key = out[d.Next(len(out))].Key
		}
		if next, e := rows.Put(out, key, d.Next(4)-1); e == api.OK {
			out = next
		}
	}
	return out
}

// Wrong has rows that are not right, and what is told of them.
type Wrong struct {
	What string
	Rows []api.Row
	Err  api.Errno
}

// WrongRows has rows that are not right, in each way.
func WrongRows() []Wrong {
	l := []Wrong{
		{"a key twice", []api.Row{{Key: 7}, {Key: 7}}, api.ErrForm},
		{"keys fall", []api.Row{{Key: 7}, {Key: 2}}, api.ErrForm},
		{"a key below all", []api.Row{{Key: -1}}, api.ErrForm},
		{"a key above all", []api.Row{{Key: 2}, {Key: 100}}, api.ErrForm},
		{"a value of none", []api.Row{{Key: 2, Val: api.None}}, api.ErrForm},
		{"a value above all", []api.Row{{Key: 2, Val: 997}}, api.ErrForm},
		{"far out", []api.Row{{Key: math.MinInt, Val: math.MinInt}, {Key: math.MaxInt, Val: math.MaxInt}}, api.ErrForm},
		{"as many as may be, all the same", make([]api.Row, api.MaxRows), api.ErrForm},
		{"too many, all the same", make([]api.Row, api.MaxRows+1), api.ErrMany},
	}
	many := append(Highest(), api.Row{Key: 99})
	return append(l, Wrong{"one too many", many, api.ErrMany})
}

// Cross has commits of which two came from the same two.
func Cross() []api.Commit {
	return []api.Commit{{}, {Rows: Few(), Parents: []int{0}}, {Parents: []int{0}}, {Parents: []int{1, 2}}, {Parents: []int{1, 2}}, {}}
}

// Tree of rows that are right.
func Tree(l []api.Row) [][][]api.Row {
	t, _ := tree.Build(l)
	return t
}

// NoTrees has what is not what Build makes of its rows, each by what is wrong with it.
func NoTrees() map[string][][][]api.Row {
	one := [][]api.Row{{{Key: 1, Val: 1}}}
	many := make([]api.Row, api.MaxRows+1)
	for k := range many {
		many[k].Key = k
	}
	l := Twelve()
	ground := [][]api.Row{l[0:4], l[4:7], l[7:10], l[10:12]}
	top := [][]api.Row{{{Key: 9, Val: 814}, {Key: 18, Val: 251}, {Key: 27, Val: 984}, {Key: 33, Val: 79}}}
	turned := Twelve()
	turned[0].Val = 9
	return map[string][][][]api.Row{
		"a level of no chunks":      {{}},
		"a chunk of no rows":        {{{}}},
		"two chunks of no rows":     {{{}, {}}},
		"levels of no chunks":       {{}, {}},
		"one level too many":        {one, {{{Key: 1, Val: 40}}}},
		"a level of none on top":    {one, {}},
		"the first level is none":   {{}, one},
		"a chunk of no rows behind": {{one[0], {}}},
		"a chunk of no rows ahead":  {{{}, one[0]}},
		"wrong rows":                {{{{Key: 100}}}},
		"keys twice":                {{{{Key: 1}, {Key: 1}}}},
		"more rows than may be":     {{many}},
		"too many rows, cut":        {slices.Collect(slices.Chunk(many, api.MostChunk))},
		"far out":                   {{{{Key: math.MinInt, Val: math.MaxInt}}}},
		"no level on top":           {ground},
		"no level beneath":          {top},
		"rows not cut":              {{l}},
		"a row is another":          {{turned[0:4], l[4:7], l[7:10], l[10:12]}, top},
		"levels changed":            {top, ground},
	}
}
