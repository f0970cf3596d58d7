package work_test

import (
	"fmt"
	"slices"
	"testing"

	"pleach/api"
	"pleach/repo"
	"pleach/sample"
	"pleach/work"
)

// log has all that the commit of a number came from, and itself; falling.
func log(l []api.Commit, n int) []int {
	r := api.Repo{Commits: l, Heads: []api.Head{head("it", n)}}
	above, _ := repo.Log(r, "it")
	return above
}

// lastBase has the rows of the last commit that two have both come from and that no other such one came from.
// Numbers rise from parents on: the greatest that is above both is above no other one.
func lastBase(l []api.Commit, a, b int) []api.Row {
	for _, n := range log(l, a) {
		if slices.Contains(log(l, b), n) {
			return l[n].Rows
		}
	}
	return nil
}

// byKeys merges key by key, in the words of chapter 7.
func byKeys(base, a, b []api.Row) ([]api.Row, []int) {
	var l []api.Row
	var clash []int
	for key := range api.MaxKey + 1 {
		was, v, other := valueOf(base, key), valueOf(a, key), valueOf(b, key)
		if v == was {
			v = other
		} else if other != was && other != v {
			clash = append(clash, key)
		}
		if v != api.None {
			l = append(l, api.Row{Key: key, Val: v})
		}
	}
	return l, clash
}

func valueOf(l []api.Row, key int) int {
	for _, r := range l {
		if r.Key == key {
			return r.Val
		}
	}
	return api.None
}

// wantMerge tells what Merge must answer of a right repo and two heads' commits, the first that of head i.
func wantMerge(r api.Repo, i, a, b int) (api.Repo, []int, api.Errno) {
	heads := slices.Clone(r.Heads)
	if slices.Contains(log(r.Commits, a), b) {
		return api.Repo{}, nil, api.ErrSame
	}
	if slices.Contains(log(r.Commits, b), a) {
		heads[i].At = b
		return api.Repo{Commits: r.Commits, Heads: heads}, nil, api.OK
	}
	merged, clash := byKeys(lastBase(r.Commits, a, b), r.Commits[a].Rows, r.Commits[b].Rows)
	switch {
	case len(r.Commits) == api.MaxCommits || len(merged) > api.MaxRows:
		return api.Repo{}, nil, api.ErrMany
	case len(clash) > 0:
		return api.Repo{}, clash, api.ErrClash
	}
	heads[i].At = len(r.Commits)
	return behind(r, api.Commit{Rows: merged, Parents: []int{min(a, b), max(a, b)}}, heads...), nil, api.OK
}

// Each two commits of drawn histories are merged, with room for one more commit and without.
func TestJ2MergesOfDrawnHistories(t *testing.T) {
	seen := map[api.Errno]int{}
	for seed := range uint64(60) {
		l := sample.History(seed, 13+int(seed%5)/4)
		for a := range l {
			for b := range l {
				r := api.Repo{Commits: l, Heads: []api.Head{head("main", a), head("other", 0), head("side", b)}}
				want, keys, wantErr := wantMerge(r, 0, a, b)
				x, clash, e := work.Merge(r, "main", "side")
				if e != wantErr || !sample.SameRepo(x, want) || !slices.Equal(clash, keys) {
					t.Errorf("seed %d: Merge of %d and %d is %v %v (%d), not %v %v (%d)", seed, a, b, x, clash, e, want, keys, wantErr)
				}
				seen[e]++
			}
		}
	}
	for _, e := range []api.Errno{api.OK, api.ErrSame, api.ErrMany, api.ErrClash} {
		if seen[e] < 50 {
			t.Errorf("%d merges had %d", seen[e], e)
		}
	}
}

// drawnAct does one drawn thing; it tells also what it was, and, of a merge, the name that was merged into, and from.
func drawnAct(d *sample.Drawer, r api.Repo) (x api.Repo, e api.Errno, what, into, from string) {
	names := []string{"main", "side", "a", "S"}
	one, two := names[d.Next(4)], names[d.Next(3)]
	switch d.Next(8) {
	case 0, 1:
		x, e = work.Branch(r, one, two)
		return x, e, "Branch " + one + " " + two, "", ""
	case 2:
		x, e = work.Drop(r, one)
		return x, e, "Drop " + one, "", ""
	case 3, 4, 5:
		x, _, e = work.Merge(r, one, two)
		return x, e, "Merge " + one + " " + two, one, two
	}
	n, _ := repo.Head(r, one)
	key := d.Next(8)
	l := put(key, valueOf(r.Commits[n].Rows, key), d.Next(4)-1)
	x, e = work.Put(r, one, l)
	return x, e, fmt.Sprint("Put ", one, " ", l), "", ""
}

// No commit is ever changed or lost; what was merged is in; what has no error is right, and turns something.
func TestJ2WhatTheWholePromises(t *testing.T) {
	merges := 0
	for seed := range uint64(600) {
		d := sample.Drawer(seed)
		r := repo.Begin()
		for range 60 {
			x, e, what, into, from := drawnAct(&d, r)
			if e != api.OK {
				checkNo(t, what, x, e, e)
				continue
			}
			if repo.Check(x) != api.OK || sample.SameRepo(x, r) {
				t.Fatalf("%s: of %v it made %v", what, r, x)
			}
			lost := len(x.Commits) < len(r.Commits)
			if lost || !sample.SameRepo(api.Repo{Commits: x.Commits[:len(r.Commits)]}, api.Repo{Commits: r.Commits}) {
				t.Fatalf("%s: commits %v are %v", what, r.Commits, x.Commits)
			}
			if into != "" {
				checkIn(t, r, x, into, from)
				merges++
			}
			r = x
		}
	}
	if merges < 300 {
		t.Errorf("there were %d merges", merges)
	}
}

// checkIn: what both heads had come from, the one has come from now, and the other is where it was.
func checkIn(t *testing.T, was, is api.Repo, into, from string) {
	t.Helper()
	now, _ := repo.Log(is, into)
	for _, name := range []string{into, from} {
		l, _ := repo.Log(was, name)
		for _, n := range l {
			if !slices.Contains(now, n) {
				t.Errorf("Merge %s %s: %d of %s is not in %v", into, from, n, name, now)
			}
		}
	}
	a, _ := repo.Head(was, from)
	if b, e := repo.Head(is, from); b != a || e != api.OK {
		t.Errorf("Merge %s %s: %s was at %d, and is at %d (%d)", into, from, from, a, b, e)
	}
}
