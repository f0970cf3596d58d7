// Package rows: rows: see doc/01-rows.md.
package rows

import (
	"slices"
	"sort"

	"pleach/api"
)

// Check tells whether rows are right.
func Check(l []api.Row) api.Errno {
	if len(l) > api.MaxRows {
		return api.ErrMany
	}
	ahead := -1
	for _, r := range l {
		if r.Key <= ahead || r.Key > api.MaxKey || r.Val < 0 || r.Val > api.MaxVal {
			return api.ErrForm
		}
		ahead = r.Key
	}
	return api.OK
}

// Find tells the value of a key, None if it is not there.
func Find(l []api.Row, key int) (int, api.Errno) {
	if e := checkAsked(l, key); e != api.OK {
		return 0, e
	}
	at, there := place(l, key)
	if !there {
		return api.None, api.OK
	}
	return l[at].Val, api.OK
}

// Put tells the rows in which a key has a value, or, of None, is not there.
func Put(l []api.Row, key, val int) ([]api.Row, api.Errno) {
	if e := checkAsked(l, key); e != api.OK {
		return nil, e
	}
	if val < api.None || val > api.MaxVal {
		return nil, api.ErrRange
	}
	at, there := place(l, key)
	ahead, behind := l[:at], l[at:]
	if there {
		behind = behind[1:]
	}
	var own []api.Row
	if val != api.None {
		own = []api.Row{{Key: key, Val: val}}
	}
	if len(ahead)+len(own)+len(behind) > api.MaxRows {
		return nil, api.ErrMany
	}
	return slices.Concat(ahead, own, behind), api.OK
}

// checkAsked has the errors that Find and Put share, in their order.
func checkAsked(l []api.Row, key int) api.Errno {
	if e := Check(l); e != api.OK {
		return e
	}
	if key < 0 || key > api.MaxKey {
		return api.ErrRange
	}
	return api.OK
}

// place tells where a key stands in right rows, or where it would.
func place(l []api.Row, key int) (int, bool) {
	at := sort.Search(len(l), func(i int) bool { return l[i].Key >= key })
	return at, at < len(l) && l[at].Key == key
}
