package three_test

import (
	"fmt"
	"slices"
	"testing"

	"pleach/api"
	"pleach/rows"
	"pleach/sample"
	"pleach/three"
)

func checkMerge(t *testing.T, what string, base, a, b, want []api.Row, clash ...int) {
	t.Helper()
	x, keys, e := three.Merge(base, a, b)
	if e != api.OK || !slices.Equal(x, want) || !slices.Equal(keys, clash) {
		t.Errorf("%s: Merge of %v, %v, %v is %v %v (%d), not %v %v", what, base, a, b, x, keys, e, want, clash)
	}
}

func checkErr(t *testing.T, what string, base, a, b []api.Row, want api.Errno) {
	t.Helper()
	if x, keys, e := three.Merge(base, a, b); len(x) > 0 || len(keys) > 0 || e != want {
		t.Errorf("%s: Merge is %v %v (%d), not %d", what, x, keys, e, want)
	}
}

// decided tells what one key has in the end, and whether it clashes, in the words of the promise.
func decided(base, a, b int) (int, bool) {
	switch {
	case a == b:
		return a, false
	case a == base:
		return b, false
	case b == base:
		return a, false
	}
	return a, true
}

// byKeys merges by asking for each key in turn.
func byKeys(base, a, b []api.Row) ([]api.Row, []int) {
	var l []api.Row
	var clash []int
	for key := range api.MaxKey + 1 {
		v, clashes := decided(valueOf(base, key), valueOf(a, key), valueOf(b, key))
		if v != api.None {
			l = append(l, api.Row{Key: key, Val: v})
		}
		if clashes {
			clash = append(clash, key)
		}
	}
	return l, clash
}

func valueOf(l []api.Row, key int) int {
	v, _ := rows.Find(l, key)
	return v
}

// with has a key at a value, put into rows; of None it is not there.
func with(l []api.Row, key, val int) []api.Row {
	x, _ := rows.Put(l, key, val)
	return x
}

// The document's seventh example.
func TestG1NineClashes(t *testing.T) {
	few := sample.Few()
	a := []api.Row{{Key: 2, Val: 6}, few[1], {Key: 9, Val: 31}}
	b := []api.Row{few[0], {Key: 8, Val: 1}, {Key: 9, Val: 32}}
	want := []api.Row{{Key: 2, Val: 6}, {Key: 8, Val: 1}, {Key: 9, Val: 31}}
	checkMerge(t, "both have changed 9", few, a, b, want, 9)
}

// One key at every three of these values, alone and among other rows.
func TestG1OneKey(t *testing.T) {
	values := []int{api.None, 0, 1, 2, 996}
	for _, key := range []int{0, 1, 8, 50, 99} {
		for _, base := range values {
			for _, a := range values {
				for _, b := range values {
					checkOneKey(t, key, base, a, b)
				}
			}
		}
	}
}

func checkOneKey(t *testing.T, key, base, a, b int) {
	t.Helper()
	v, clashes := decided(base, a, b)
	var clash []int
	if clashes {
		clash = []int{key}
	}
	for _, l := range [][]api.Row{nil, sample.Few()} {
		checkMerge(t, "one key", with(l, key, base), with(l, key, a), with(l, key, b), with(l, key, v), clash...)
	}
}

func TestG1TwoKeysEachOfAll(t *testing.T) {
	var states [][]api.Row
	for one := api.None; one < 3; one++ {
		for two := api.None; two < 3; two++ {
			states = append(states, with(with(nil, 30, one), 40, two))
		}
	}
	for _, base := range states {
		for _, a := range states {
			for _, b := range states {
				want, clash := byKeys(base, a, b)
				checkMerge(t, "two keys", base, a, b, want, clash...)
			}
		}
	}
}

func TestG1DrawnRows(t *testing.T) {
	clashes := 0
	for seed := range uint64(600) {
		d := sample.Drawer(seed)
		base := sample.Drawn(seed, int(seed%38))
		a, b := sample.Turned(&d, base), sample.Turned(&d, base)
		want, clash := byKeys(base, a, b)
		clashes += len(clash)
		if len(want) > api.MaxRows {
			checkErr(t, "too many rows", base, a, b, api.ErrMany)
		} else {
			checkMerge(t, "drawn", base, a, b, want, clash...)
		}
	}
	if clashes < 20 {
		t.Errorf("only %d keys have clashed", clashes)
	}
}

func TestG1AllClash(t *testing.T) {
	var a, b []api.Row
	var keys []int
	for k := range 40 {
		a = append(a, api.Row{Key: 60 + k, Val: 1})
		b = append(b, api.Row{Key: 60 + k, Val: 2})
		keys = append(keys, 60+k)
	}
	checkMerge(t, "both have added all", nil, a, b, a, keys...)
	gone := slices.Clone(a)
	for i := range gone {
		gone[i].Val = 3
	}
	checkMerge(t, "one has changed, one has cut", gone, a, nil, a, keys...)
	checkMerge(t, "one has cut, one has changed", gone, nil, a, nil, keys...)
}

func TestG1WrongRows(t *testing.T) {
	few := sample.Few()
	for _, w := range sample.WrongRows() {
		checkErr(t, w.What+" in the base", w.Rows, few, few, w.Err)
		checkErr(t, w.What+" in a", few, w.Rows, few, w.Err)
		checkErr(t, w.What+" in b", few, few, w.Rows, w.Err)
		checkErr(t, w.What+" in a, of nothing", nil, w.Rows, nil, w.Err)
		checkErr(t, w.What+" in b, of nothing", nil, nil, w.Rows, w.Err)
		checkErr(t, w.What+" in all", w.Rows, w.Rows, w.Rows, w.Err)
		for _, v := range sample.WrongRows() {
			checkErr(t, "base, then a", w.Rows, v.Rows, few, w.Err)
			checkErr(t, "base, then b", w.Rows, few, v.Rows, w.Err)
			checkErr(t, "a, then b", few, w.Rows, v.Rows, w.Err)
		}
	}
}

// from has n rows, whose keys begin with that one.
func from(key, n int) []api.Row {
	var l []api.Row
	for k := range n {
		l = append(l, api.Row{Key: key + k, Val: 5})
	}
	return l
}

func TestG1TooManyRows(t *testing.T) {
	base := from(0, 10)
	a := append(from(0, 10), from(20, 15)...)
	checkMerge(t, "as many as may be", base, a, append(from(0, 10), from(50, 15)...), slices.Concat(base, from(20, 15), from(50, 15)))
	checkErr(t, "one too many", base, a, append(from(0, 10), from(50, 16)...), api.ErrMany)
	checkErr(t, "one too many, of nothing", nil, from(0, 40), from(40, 1), api.ErrMany)
	checkErr(t, "one too many, of nothing, in b", nil, from(40, 1), from(0, 40), api.ErrMany)
	checkErr(t, "twice as many", nil, from(0, 40), from(40, 40), api.ErrMany)
	checkMerge(t, "both the same", nil, from(0, 40), from(0, 40), from(0, 40))
	checkErr(t, "one too many, and a clash", nil, append(from(0, 39), api.Row{Key: 50, Val: 1}), []api.Row{{Key: 50, Val: 2}, {Key: 51}}, api.ErrMany)
}

// How many there are in between is not asked: b has cut what stands behind that which it has put.
func TestG1ManyRowsInTheEnd(t *testing.T) {
	base := from(10, 40)
	b := append(from(0, 3), from(10, 37)...)
	checkMerge(t, "b has changed some for others", base, base, b, b)
	checkMerge(t, "a has", base, b, base, b)
	a := append(from(13, 37), from(90, 3)...)
	checkMerge(t, "each has", base, a, b, slices.Concat(from(0, 3), from(13, 34), from(90, 3)))
	more := append(from(0, 3), from(10, 38)...)
	checkErr(t, "too many in b itself", base, base, more, api.ErrMany)
	checkErr(t, "b has cut what a has cut, too", base, append(from(10, 37), from(90, 3)...), append(from(0, 3), from(10, 37)...), api.ErrMany)
}

// What only one has changed is so; a clash is just what both have changed, to other things.
func TestG2WhatOnlyOneHasChanged(t *testing.T) {
	for seed := range uint64(300) {
		d := sample.Drawer(seed)
		base := sample.Drawn(seed, int(seed%26))
		a, b := sample.Turned(&d, base), sample.Turned(&d, base)
		checkMerge(t, "a alone", base, a, base, a)
		checkMerge(t, "b alone", base, base, b, b)
		checkMerge(t, "both the same", base, a, a, a)
		checkMerge(t, "nobody", base, base, base, base)
		checkTurnedRound(t, base, a, b)
	}
}

// checkTurnedRound wants the same clashes, and but for them the same rows, whoever stands first.
func checkTurnedRound(t *testing.T, base, a, b []api.Row) {
	t.Helper()
	x, clash, e := three.Merge(base, a, b)
	y, other, f := three.Merge(base, b, a)
	if e != api.OK || f != api.OK || !slices.Equal(clash, other) {
		t.Fatalf("the clashes of %v, %v, %v are %v (%d), and %v (%d)", base, a, b, clash, e, other, f)
	}
	for key := range api.MaxKey + 1 {
		v, w := valueOf(x, key), valueOf(y, key)
		if clashes := slices.Contains(clash, key); clashes != (v != w) {
			t.Errorf("%d has %d and %d, and clashes: %v", key, v, w, clashes)
		}
	}
}

func ExampleMerge() {
	base := []api.Row{{Key: 2, Val: 5}, {Key: 7, Val: 0}, {Key: 9, Val: 30}}
	a := []api.Row{{Key: 2, Val: 6}, {Key: 7, Val: 0}, {Key: 9, Val: 31}}
	b := []api.Row{{Key: 2, Val: 5}, {Key: 8, Val: 1}, {Key: 9, Val: 32}}
	fmt.Println(three.Merge(base, a, b))
	// Output: [{2 6} {8 1} {9 31}] [9] 0
}
