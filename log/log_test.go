package log_test

import (
	"fmt"
	"math"
	"reflect"
	"slices"
	"strings"
	"testing"

	"pleach/api"
	"pleach/log"
	"pleach/repo"
	"pleach/sample"
	"pleach/work"
)

// byHand does an act by the call that the promise names for its kind.
func byHand(r api.Repo, x api.Act) (api.Repo, api.Errno) {
	switch x.Kind {
	case 1:
		return work.Put(r, x.One, x.Changes)
	case 2:
		return work.Branch(r, x.One, x.Two)
	case 3:
		merged, _, e := work.Merge(r, x.One, x.Two)
		return merged, e
	}
	return work.Drop(r, x.One)
}

// checkDo wants of Do a repo and an error.
func checkDo(t *testing.T, r api.Repo, x api.Act, want api.Repo, err api.Errno) {
	t.Helper()
	is, e := log.Do(r, x)
	if e != err || !sample.SameRepo(is, want) {
		t.Errorf("Do %v of %v is %v (%d), not %v (%d)", x, r, is, e, want, err)
	}
	if e != api.OK && !reflect.ValueOf(is).IsZero() {
		t.Errorf("Do %v: with error %d it is %v", x, e, is)
	}
}

// shopWith is the shop with other heads, and other commits behind all.
func shopWith(heads []api.Head, commits ...api.Commit) api.Repo {
	return api.Repo{Commits: append(sample.Cross(), commits...), Heads: heads}
}

func TestK1DoOfAShop(t *testing.T) {
	shop := sample.Shop()
	both := []api.Head{{Name: "main", At: 3}, {Name: "side", At: 6}}
	turned := api.Commit{Rows: []api.Row{{Key: 2, Val: 5}, {Key: 7, Val: 4}, {Key: 9, Val: 30}}, Parents: []int{1}}
	changes := []api.Change{{Key: 7, Old: 0, New: 4}}
	checkDo(t, shop, api.Act{Kind: api.ActPut, One: "side", Changes: changes}, shopWith(both, turned), api.OK)

	three := []api.Head{{Name: "main", At: 3}, {Name: "new", At: 1}, {Name: "side", At: 1}}
	checkDo(t, shop, api.Act{Kind: api.ActBranch, One: "new", Two: "side"}, shopWith(three), api.OK)
	checkDo(t, shop, api.Act{Kind: api.ActMerge, One: "side", Two: "main"}, shopWith([]api.Head{{Name: "main", At: 3}, {Name: "side", At: 3}}), api.OK)
	checkDo(t, shop, api.Act{Kind: api.ActDrop, One: "main"}, shopWith([]api.Head{{Name: "side", At: 1}}), api.OK)
}

// Of each kind all errors of its call come through.
func TestK1ErrorsOfTheCalls(t *testing.T) {
	shop, four := sample.Shop(), shopWith([]api.Head{{Name: "a"}, {Name: "b"}, {Name: "main", At: 3}, {Name: "side", At: 1}})
	parted := shopWith([]api.Head{{Name: "main", At: 1}, {Name: "side", At: 6}}, api.Commit{Rows: []api.Row{{Key: 2, Val: 8}}, Parents: []int{0}})
	change := func(key, old, val int) []api.Change { return []api.Change{{Key: key, Old: old, New: val}} }
	for _, c := range []struct {
		repo api.Repo
		act  api.Act
		want api.Errno
	}{
		{shop, api.Act{Kind: 1, One: "none", Changes: change(7, 0, 4)}, api.ErrNone},
		{shop, api.Act{Kind: 1, One: "side", Changes: change(7, 0, 0)}, api.ErrForm},
		{shop, api.Act{Kind: 1, One: "side"}, api.ErrSame},
		{shop, api.Act{Kind: 1, One: "side", Changes: change(7, 1, 4)}, api.ErrClash},
		{shop, api.Act{Kind: 2, One: "new", Two: "none"}, api.ErrNone},
		{shop, api.Act{Kind: 2, One: "New", Two: "main"}, api.ErrName},
		{shop, api.Act{Kind: 2, One: "side", Two: "main"}, api.ErrThere},
		{four, api.Act{Kind: 2, One: "new", Two: "main"}, api.ErrMany},
		{shop, api.Act{Kind: 3, One: "none", Two: "main"}, api.ErrNone},
		{shop, api.Act{Kind: 3, One: "main", Two: "none"}, api.ErrNone},
		{shop, api.Act{Kind: 3, One: "main", Two: "side"}, api.ErrSame},
		{parted, api.Act{Kind: 3, One: "main", Two: "side"}, api.ErrClash},
		{shop, api.Act{Kind: 4, One: "none"}, api.ErrNone},
		{repo.Begin(), api.Act{Kind: 4, One: "main"}, api.ErrForm},
	} {
		checkDo(t, c.repo, c.act, api.Repo{}, c.want)
	}
}

func TestK1DrawnActs(t *testing.T) {
	seen := map[api.Errno]int{}
	for i, r := range sample.Repos() {
		for _, x := range sample.Acts(uint64(i), 40) {
			want, err := api.Repo{}, api.ErrKind
			if x.Kind <= api.ActDrop {
				want, err = byHand(r, x)
			}
			checkDo(t, r, x, want, err)
			seen[err]++
		}
	}
	for e := api.OK; e <= api.ErrSame; e++ {
		if e != api.ErrRange && seen[e] == 0 {
			t.Errorf("no act had %d", e)
		}
	}
}

// No such kind is told ahead of whatever else is wrong; with a kind, what is wrong with the repo is told.
func TestK1Kinds(t *testing.T) {
	repos := []sample.WrongRepo{{What: "right", Repo: sample.Shop()}}
	for _, w := range append(repos, sample.WrongRepos()...) {
		for _, kind := range []int{math.MinInt, -1, 0, 5, 6, 255, 256, 257, math.MaxInt} {
			for _, name := range []string{"main", "side", "none", "S", ""} {
				checkDo(t, w.Repo, api.Act{Kind: kind, One: name, Two: name}, api.Repo{}, api.ErrKind)
			}
		}
		for kind := api.ActPut; kind <= api.ActDrop && w.Err != api.OK; kind++ {
			checkDo(t, w.Repo, api.Act{Kind: kind, One: "main", Two: "side"}, api.Repo{}, w.Err)
		}
	}
}

// What is not named counts for nothing: neither Two nor Changes, where the call has none.
func TestK1WhatIsNotNamed(t *testing.T) {
	shop := sample.Shop()
	for _, two := range []string{"", "side", "none", "S", strings.Repeat("z", 300)} {
		for _, l := range [][]api.Change{nil, {{Key: 7, Old: 0, New: 4}}, {{Key: -1}}, make([]api.Change, 300)} {
			for _, x := range []api.Act{
				{Kind: api.ActPut, One: "side", Two: two, Changes: []api.Change{{Key: 7, Old: 0, New: 4}}},
				{Kind: api.ActBranch, One: "new", Two: "side", Changes: l},
				{Kind: api.ActMerge, One: "side", Two: "main", Changes: l},
				{Kind: api.ActDrop, One: "side", Two: two, Changes: l},
			} {
				want, e := byHand(shop, x)
				if e != api.OK {
					t.Fatalf("%v has error %d", x, e)
				}
				checkDo(t, shop, x, want, api.OK)
			}
		}
	}
}

func ExampleDo() {
	r, e := log.Do(repo.Begin(), api.Act{Kind: api.ActBranch, One: "side", Two: "main"})
	fmt.Println(r.Heads, e)
	_, e = log.Do(r, api.Act{Kind: 5})
	fmt.Println(e)
	// Output:
	// [{main 0} {side 0}] 0
	// 8
}

// sameAct: a list without elements counts as none.
func sameAct(a, b api.Act) bool {
	return a.Kind == b.Kind && a.One == b.One && a.Two == b.Two && slices.Equal(a.Changes, b.Changes)
}
