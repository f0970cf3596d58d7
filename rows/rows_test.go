package rows_test

import (
	"fmt"
	"math"
	"slices"
	"testing"

	"pleach/api"
	"pleach/rows"
	"pleach/sample"
)

// even rows: n of them, with the keys 0, 2, 4 ..
func even(n int) []api.Row {
	var l []api.Row
	for k := range n {
		l = append(l, api.Row{Key: 2 * k, Val: 10 + k})
	}
	return l
}

// with is the few rows, one of them another.
func with(at int, r api.Row) []api.Row {
	l := sample.Few()
	l[at] = r
	return l
}

// wrong rows, and the error of each.
func wrong() map[string]struct {
	l []api.Row
	e api.Errno
} {
	type row = struct {
		l []api.Row
		e api.Errno
	}
	return map[string]row{
		"key twice":          {with(1, api.Row{Key: 2}), api.ErrForm},
		"key falls":          {with(1, api.Row{Key: 1}), api.ErrForm},
		"last key twice":     {with(2, api.Row{Key: 7}), api.ErrForm},
		"last key falls":     {with(2, api.Row{Key: 3}), api.ErrForm},
		"key below 0":        {with(0, api.Row{Key: -1}), api.ErrForm},
		"key far below":      {with(0, api.Row{Key: math.MinInt}), api.ErrForm},
		"key above MaxKey":   {with(2, api.Row{Key: 100}), api.ErrForm},
		"key far above":      {with(2, api.Row{Key: math.MaxInt}), api.ErrForm},
		"val None":           {with(1, api.Row{Key: 7, Val: api.None}), api.ErrForm},
		"val far below":      {with(0, api.Row{Key: 2, Val: math.MinInt}), api.ErrForm},
		"val above MaxVal":   {with(1, api.Row{Key: 7, Val: 997}), api.ErrForm},
		"val far above":      {with(2, api.Row{Key: 9, Val: math.MaxInt}), api.ErrForm},
		"one alone is wrong": {[]api.Row{{Key: 100}}, api.ErrForm},
		"40, the last wrong": {append(even(39), api.Row{Key: 76}), api.ErrForm},
		"41":                 {even(41), api.ErrMany},
		"41 of one key":      {make([]api.Row, 41), api.ErrMany},
		"very many":          {make([]api.Row, 1<<20), api.ErrMany},
	}
}

func TestA1CheckRight(t *testing.T) {
	for name, l := range map[string][]api.Row{
		"nil":          nil,
		"empty":        {},
		"few":          sample.Few(),
		"key 0, val 0": {{}},
		"all bounds":   {{Key: 0, Val: 0}, {Key: 1, Val: 996}, {Key: 99, Val: 996}},
		"neighbours":   {{Key: 98}, {Key: 99}},
		"as many":      even(40),
	} {
		if e := rows.Check(l); e != api.OK {
			t.Errorf("%s: Check is %d", name, e)
		}
	}
}

func TestA1CheckWrong(t *testing.T) {
	for name, w := range wrong() {
		if e := rows.Check(w.l); e != w.e {
			t.Errorf("%s: Check is %d, not %d", name, e, w.e)
		}
	}
}

func TestA1OthersTellItFirst(t *testing.T) {
	for name, w := range wrong() {
		for _, key := range []int{-1, 2, 7, 8, 99, 100} {
			if v, e := rows.Find(w.l, key); v != 0 || e != w.e {
				t.Errorf("%s: Find %d is %d %d, not 0 %d", name, key, v, e, w.e)
			}
			for _, val := range []int{-2, api.None, 0, 997} {
				if l, e := rows.Put(w.l, key, val); len(l) > 0 || e != w.e {
					t.Errorf("%s: Put %d %d is %v %d, not none %d", name, key, val, l, e, w.e)
				}
			}
		}
	}
}

func TestA1KeyOutOfRange(t *testing.T) {
	for _, l := range [][]api.Row{nil, sample.Few(), even(40)} {
		for _, key := range []int{math.MinInt, -1, 100, math.MaxInt} {
			if v, e := rows.Find(l, key); v != 0 || e != api.ErrRange {
				t.Errorf("Find %d is %d %d", key, v, e)
			}
			for _, val := range []int{-2, api.None, 0, 997} {
				if x, e := rows.Put(l, key, val); len(x) > 0 || e != api.ErrRange {
					t.Errorf("Put %d %d is %v %d", key, val, x, e)
				}
			}
		}
	}
}

// The document's first example.
func TestA2Example(t *testing.T) {
	for key, want := range map[int]int{7: 0, 8: api.None} {
		if v, e := rows.Find(sample.Few(), key); v != want || e != api.OK {
			t.Errorf("Find %d is %d %d, not %d", key, v, e, want)
		}
	}
	l, e := rows.Put(sample.Few(), 8, 1)
	want := []api.Row{{Key: 2, Val: 5}, {Key: 7, Val: 0}, {Key: 8, Val: 1}, {Key: 9, Val: 30}}
	if e != api.OK || !slices.Equal(l, want) {
		t.Errorf("Put is %v %d, not %v", l, e, want)
	}
	if v, e := rows.Find(l, 8); v != 1 || e != api.OK {
		t.Errorf("put, it has %d %d", v, e)
	}
}

// held has rows as an array by key; None where there is none.
func held(l []api.Row) [api.MaxKey + 1]int {
	var a [api.MaxKey + 1]int
	for k := range a {
		a[k] = api.None
	}
	for _, r := range l {
		a[r.Key] = r.Val
	}
	return a
}

func TestA2FindEveryKey(t *testing.T) {
	for _, l := range [][]api.Row{nil, {}, {{}}, {{Key: 99, Val: 996}}, sample.Few(), even(39), even(40)} {
		for key, want := range held(l) {
			if v, e := rows.Find(l, key); v != want || e != api.OK {
				t.Errorf("Find %d in %v is %d %d, not %d", key, l, v, e, want)
			}
		}
	}
}

func TestA2PutEveryKey(t *testing.T) {
	for _, l := range [][]api.Row{nil, {}, {{}}, {{Key: 99, Val: 996}}, sample.Few(), even(39)} {
		for key := range api.MaxKey + 1 {
			for _, val := range []int{api.None, 0, 1, 996} {
				want := held(l)
				want[key] = val
				checkPut(t, l, key, val, want)
			}
		}
	}
}

func checkPut(t *testing.T, l []api.Row, key, val int, want [api.MaxKey + 1]int) {
	t.Helper()
	x, e := rows.Put(l, key, val)
	if e != api.OK || rows.Check(x) != api.OK || held(x) != want {
		t.Errorf("Put %d %d to %v is %v %d", key, val, l, x, e)
	}
}

func TestA2PutValOutOfRange(t *testing.T) {
	for _, l := range [][]api.Row{nil, sample.Few(), even(40)} {
		for _, key := range []int{0, 1, 7, 99} {
			for _, val := range []int{math.MinInt, -2, 997, math.MaxInt} {
				if x, e := rows.Put(l, key, val); len(x) > 0 || e != api.ErrRange {
					t.Errorf("Put %d %d is %v %d", key, val, x, e)
				}
			}
		}
	}
}

func TestA2PutToAsManyAsMayBe(t *testing.T) {
	l := even(40)
	for key, old := range held(l) {
		for _, val := range []int{0, 996} {
			if old != api.None {
				want := held(l)
				want[key] = val
				checkPut(t, l, key, val, want)
			} else if x, e := rows.Put(l, key, val); len(x) > 0 || e != api.ErrMany {
				t.Errorf("Put %d %d is %v %d", key, val, x, e)
			}
		}
		want := held(l)
		want[key] = api.None
		checkPut(t, l, key, api.None, want)
	}
}

func ExamplePut() {
	l, e := rows.Put([]api.Row{{Key: 7, Val: 0}}, 8, 1)
	fmt.Println(l, e)
	// Output: [{7 0} {8 1}] 0
}
