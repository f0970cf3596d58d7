package work_test

import (
	"fmt"
	"reflect"
	"slices"
	"testing"

	"pleach/api"
	"pleach/repo"
	"pleach/sample"
	"pleach/work"
)

// checkRepo wants a repo of a call that has no error.
func checkRepo(t *testing.T, what string, r api.Repo, e api.Errno, want api.Repo) {
	t.Helper()
	if e != api.OK || !sample.SameRepo(r, want) {
		t.Errorf("%s: it is %v (%d), not %v", what, r, e, want)
	}
	if e := repo.Check(r); e != api.OK {
		t.Errorf("%s: Check of %v is %d", what, r, e)
	}
}

// checkNo wants an error of a call, and no repo.
func checkNo(t *testing.T, what string, r api.Repo, e, want api.Errno) {
	t.Helper()
	if e != want || !reflect.ValueOf(r).IsZero() {
		t.Errorf("%s: it is %v (%d), not %d", what, r, e, want)
	}
}

// checkNoMerge wants an error of Merge, no repo, and those keys.
func checkNoMerge(t *testing.T, what string, r api.Repo, into, from string, want api.Errno, keys ...int) {
	t.Helper()
	x, clash, e := work.Merge(r, into, from)
	checkNo(t, what+": Merge", x, e, want)
	if !slices.Equal(clash, keys) {
		t.Errorf("%s: Merge tells %v, not %v", what, clash, keys)
	}
}

func head(name string, at int) api.Head { return api.Head{Name: name, At: at} }

// shopWith is the shop with other heads.
func shopWith(heads ...api.Head) api.Repo { return api.Repo{Commits: sample.Cross(), Heads: heads} }

// behind has a commit behind those of a repo, and other heads.
func behind(r api.Repo, c api.Commit, heads ...api.Head) api.Repo {
	return api.Repo{Commits: append(slices.Clone(r.Commits), c), Heads: heads}
}

// full is the shop with as many commits as there may be.
func full(heads ...api.Head) api.Repo {
	r := shopWith(heads...)
	for len(r.Commits) < api.MaxCommits {
		r.Commits = append(r.Commits, api.Commit{Rows: sample.Few(), Parents: []int{0}})
	}
	return r
}

// put of one change.
func put(key, old, val int) []api.Change { return []api.Change{{Key: key, Old: old, New: val}} }

// wrongChanges has changes that are not right.
func wrongChanges() [][]api.Change {
	return [][]api.Change{
		put(7, 1, 1), put(7, 0, 0), put(7, api.None, api.None), put(-1, 0, 1), put(100, api.None, 1), put(7, -2, 1),
		put(7, 0, -2), put(7, 997, 1), put(7, 0, 997), make([]api.Change, 1), make([]api.Change, 200),
		{{Key: 7, Old: 0, New: 1}, {Key: 7, Old: 1, New: 2}}, {{Key: 7, Old: 0, New: 1}, {Key: 2, Old: 5, New: 6}},
	}
}

func TestJ1WrongRepos(t *testing.T) {
	names := []string{"a", "main", "side", "none", "S", ""}
	for _, w := range sample.WrongRepos() {
		for _, one := range names {
			for _, two := range names {
				r, e := work.Branch(w.Repo, one, two)
				checkNo(t, w.What+": Branch", r, e, w.Err)
				checkNoMerge(t, w.What, w.Repo, one, two, w.Err)
			}
			r, e := work.Drop(w.Repo, one)
			checkNo(t, w.What+": Drop", r, e, w.Err)
			for _, l := range [][]api.Change{nil, put(7, 0, 4), put(7, 1, 2), put(7, 1, 1)} {
				r, e := work.Put(w.Repo, one, l)
				checkNo(t, w.What+": Put", r, e, w.Err)
			}
		}
	}
}

// No such head is told ahead of whatever else is wrong.
func TestJ1NoSuchHead(t *testing.T) {
	noHeads := append(sample.NoNames(), "none", "mai", "mainn", "sides", "zzzzzzzz")
	for _, r := range []api.Repo{{}, shopWith(), sample.Shop(), full(head("a", 0), head("b", 0), head("main", 1), head("side", 2))} {
		for _, name := range noHeads {
			for _, l := range append(wrongChanges(), nil, put(7, 0, 4), put(7, 1, 2)) {
				x, e := work.Put(r, name, l)
				checkNo(t, "Put", x, e, api.ErrNone)
			}
			for _, other := range []string{"new", "main", "S", "", name} {
				x, e := work.Branch(r, other, name)
				checkNo(t, "Branch", x, e, api.ErrNone)
			}
			for _, other := range []string{"main", "side", "S", name} {
				checkNoMerge(t, "no into", r, name, other, api.ErrNone)
				checkNoMerge(t, "no from", r, other, name, api.ErrNone)
			}
			x, e := work.Drop(r, name)
			checkNo(t, "Drop", x, e, api.ErrNone)
		}
	}
}

func TestJ1PutIsANewCommit(t *testing.T) {
	shop := sample.Shop()
	r, e := work.Put(shop, "side", put(7, 0, 4))
	turned := api.Commit{Rows: []api.Row{{Key: 2, Val: 5}, {Key: 7, Val: 4}, {Key: 9, Val: 30}}, Parents: []int{1}}
	checkRepo(t, "one change", r, e, behind(shop, turned, head("main", 3), head("side", 6)))

	r, e = work.Put(r, "side", []api.Change{{Key: 2, Old: 5, New: api.None}, {Key: 8, Old: api.None, New: 996}, {Key: 9, Old: 30, New: 0}})
	next := api.Commit{Rows: []api.Row{{Key: 7, Val: 4}, {Key: 8, Val: 996}, {Key: 9, Val: 0}}, Parents: []int{6}}
	checkRepo(t, "three changes", r, e, behind(behind(shop, turned), next, head("main", 3), head("side", 7)))

	r, e = work.Put(r, "main", put(0, api.None, 0))
	last := api.Commit{Rows: []api.Row{{Key: 0, Val: 0}}, Parents: []int{3}}
	checkRepo(t, "another head", r, e, behind(behind(behind(shop, turned), next), last, head("main", 8), head("side", 7)))

	r, e = work.Put(r, "main", put(0, 0, api.None))
	gone := api.Commit{Parents: []int{8}}
	checkRepo(t, "the last row goes", r, e, behind(behind(behind(behind(shop, turned), next), last), gone, head("main", 9), head("side", 7)))
}

// Only the head that is named goes on, whoever else is at its commit.
func TestJ1PutMovesOneHead(t *testing.T) {
	shop := shopWith(head("a", 1), head("b", 1), head("c", 1), head("d", 1))
	c := api.Commit{Rows: []api.Row{{Key: 2, Val: 5}, {Key: 9, Val: 30}}, Parents: []int{1}}
	for i := range shop.Heads {
		want := behind(shop, c, slices.Clone(shop.Heads)...)
		want.Heads[i].At = 6
		r, e := work.Put(shop, shop.Heads[i].Name, put(7, 0, api.None))
		checkRepo(t, "one of four", r, e, want)
	}
}

// Asked in this order: ErrForm of the changes, ErrSame, ErrMany, then Patch's others.
func TestJ1PutTellsInOrder(t *testing.T) {
	room, none := sample.Shop(), full(head("main", 3), head("side", 1))
	for _, l := range wrongChanges() {
		for _, r := range []api.Repo{room, none} {
			x, e := work.Put(r, "side", l)
			checkNo(t, fmt.Sprint("wrong changes ", l), x, e, api.ErrForm)
		}
	}
	for _, l := range [][]api.Change{nil, {}} {
		for _, r := range []api.Repo{room, none} {
			x, e := work.Put(r, "side", l)
			checkNo(t, "no changes", x, e, api.ErrSame)
		}
	}
	for _, l := range [][]api.Change{put(7, 0, 4), put(7, 1, 2), put(8, 0, 4), put(7, api.None, 4)} {
		x, e := work.Put(none, "side", l)
		checkNo(t, "no room for a commit", x, e, api.ErrMany)
	}
	for _, l := range [][]api.Change{put(7, 1, 2), put(8, 0, 4), put(7, api.None, 4), {{Key: 2, Old: 5, New: 6}, {Key: 9, Old: 31, New: 30}}} {
		x, e := work.Put(room, "side", l)
		checkNo(t, "a key has not its Old", x, e, api.ErrClash)
	}
}

func TestJ1PutIntoFullRows(t *testing.T) {
	r := api.Repo{Commits: []api.Commit{{Rows: sample.Highest()}}, Heads: []api.Head{head("main", 0)}}
	x, e := work.Put(r, "main", put(40, api.None, 1))
	checkNo(t, "one row too many", x, e, api.ErrMany)
	x, e = work.Put(r, "main", []api.Change{{Key: 0, Old: 1, New: 2}, {Key: 40, Old: api.None, New: 1}})
	checkNo(t, "one row too many, and a clash", x, e, api.ErrClash)
	x, e = work.Put(r, "main", []api.Change{{Key: 39, Old: 702, New: api.None}, {Key: 40, Old: api.None, New: 1}})
	c := api.Commit{Rows: append(sample.Highest()[:39], api.Row{Key: 40, Val: 1}), Parents: []int{0}}
	checkRepo(t, "one goes, and one comes", x, e, behind(r, c, head("main", 1)))
}

func TestJ1PutUpToAllCommits(t *testing.T) {
	r := repo.Begin()
	for n := 1; n < api.MaxCommits; n++ {
		x, e := work.Put(r, "main", put(0, n-2, n-1))
		c := api.Commit{Rows: []api.Row{{Key: 0, Val: n - 1}}, Parents: []int{n - 1}}
		checkRepo(t, "one more", x, e, behind(r, c, head("main", n)))
		r = x
	}
	x, e := work.Put(r, "main", put(0, api.MaxCommits-2, 0))
	checkNo(t, "one too many", x, e, api.ErrMany)
}

func TestJ1BranchIsWhereFromIs(t *testing.T) {
	r, e := work.Branch(sample.Shop(), "new", "side")
	checkRepo(t, "between", r, e, shopWith(head("main", 3), head("new", 1), head("side", 1)))
	r, e = work.Branch(r, "zoo", "main")
	checkRepo(t, "behind all", r, e, shopWith(head("main", 3), head("new", 1), head("side", 1), head("zoo", 3)))
	r, e = work.Branch(sample.Shop(), "a", "main")
	checkRepo(t, "ahead of all", r, e, shopWith(head("a", 3), head("main", 3), head("side", 1)))
	r, e = work.Branch(r, "aa", "a")
	checkRepo(t, "a longer name", r, e, shopWith(head("a", 3), head("aa", 3), head("main", 3), head("side", 1)))
}

// Whatever names branches have and in whatever order they come, the heads rise.
func TestJ1BranchesInEachOrder(t *testing.T) {
	names := sample.Names()
	for seed := range uint64(200) {
		d := sample.Drawer(seed)
		some := sample.Shuffled(&d, names)[:api.MaxHeads]
		r := shopWith(head(some[0], 5))
		for i, name := range some[1:] {
			x, e := work.Branch(r, name, some[d.Next(i+1)])
			want := shopWith(append(slices.Clone(r.Heads), head(name, 5))...)
			slices.SortFunc(want.Heads, func(a, b api.Head) int { return slices.Index(names, a.Name) - slices.Index(names, b.Name) })
			checkRepo(t, "one more", x, e, want)
			r = x
		}
	}
}

// ErrName, ErrThere, ErrMany: in this order.
func TestJ1BranchTellsInOrder(t *testing.T) {
	room, none := sample.Shop(), shopWith(head("a", 0), head("b", 0), head("main", 3), head("side", 1))
	for _, r := range []api.Repo{room, none} {
		for _, name := range sample.NoNames() {
			x, e := work.Branch(r, name, "main")
			checkNo(t, "no name", x, e, api.ErrName)
		}
		for _, name := range []string{"main", "side"} {
			for _, from := range []string{"main", "side"} {
				x, e := work.Branch(r, name, from)
				checkNo(t, "it is there", x, e, api.ErrThere)
			}
		}
	}
	for _, name := range []string{"aa", "new", "zzzzzzzz"} {
		x, e := work.Branch(none, name, "main")
		checkNo(t, "one too many", x, e, api.ErrMany)
	}
}

// A new head needs no new commit.
func TestJ1BranchWhereCommitsAreFull(t *testing.T) {
	r, e := work.Branch(full(head("main", 13)), "new", "main")
	checkRepo(t, "as many commits as may be", r, e, full(head("main", 13), head("new", 13)))
}

func TestJ1Drop(t *testing.T) {
	four := []api.Head{head("a", 0), head("b", 5), head("c", 3), head("d", 3)}
	for i, h := range four {
		r, e := work.Drop(shopWith(four...), h.Name)
		checkRepo(t, "one of four", r, e, shopWith(slices.Delete(slices.Clone(four), i, i+1)...))
	}
	r, e := work.Drop(sample.Shop(), "main")
	checkRepo(t, "one of two", r, e, shopWith(head("side", 1)))
	r, e = work.Drop(r, "side")
	checkNo(t, "the only one", r, e, api.ErrForm)
	r, e = work.Drop(repo.Begin(), "main")
	checkNo(t, "the only one in the beginning", r, e, api.ErrForm)
	r, e = work.Drop(repo.Begin(), "side")
	checkNo(t, "none, beside the only one", r, e, api.ErrNone)
	r, e = work.Drop(full(head("a", 13), head("b", 12)), "b")
	checkRepo(t, "as many commits as may be", r, e, full(head("a", 13)))
}

func TestJ2NothingToMerge(t *testing.T) {
	for _, c := range []struct{ into, from int }{{3, 3}, {3, 1}, {3, 2}, {3, 0}, {1, 0}, {1, 1}, {0, 0}, {4, 0}, {5, 5}} {
		checkNoMerge(t, "from is above", shopWith(head("a", c.into), head("b", c.from)), "a", "b", api.ErrSame)
		checkNoMerge(t, "from is above, no room", full(head("a", c.into), head("b", c.from)), "a", "b", api.ErrSame)
		checkNoMerge(t, "a head with itself", shopWith(head("a", c.into), head("b", c.from)), "a", "a", api.ErrSame)
	}
}

// checkMerge wants a repo of Merge, and no keys.
func checkMerge(t *testing.T, what string, r api.Repo, into, from string, want api.Repo) {
	t.Helper()
	x, clash, e := work.Merge(r, into, from)
	checkRepo(t, what, x, e, want)
	if len(clash) > 0 {
		t.Errorf("%s: %v clash", what, clash)
	}
}

// The first is the document's tenth example: side goes on to where main is.
func TestJ2GoesOn(t *testing.T) {
	checkMerge(t, "side goes on", sample.Shop(), "side", "main", shopWith(head("main", 3), head("side", 3)))
	for _, c := range []struct{ into, from int }{{0, 1}, {0, 2}, {0, 3}, {1, 3}, {2, 3}, {2, 4}} {
		checkMerge(t, "it goes on", shopWith(head("a", c.into), head("b", c.from)), "a", "b", shopWith(head("a", c.from), head("b", c.from)))
		checkMerge(t, "the other goes on", shopWith(head("a", c.from), head("b", c.into)), "b", "a", shopWith(head("a", c.from), head("b", c.from)))
		// No new commit is needed: there may be as many as may be.
		checkMerge(t, "it goes on, no room", full(head("a", c.into), head("b", c.from)), "a", "b", full(head("a", c.from), head("b", c.from)))
	}
}

// parted is a repo of two commits that came from one.
func parted(base, ours, theirs []api.Row) api.Repo {
	return api.Repo{
		Commits: []api.Commit{{Rows: base}, {Rows: ours, Parents: []int{0}}, {Rows: theirs, Parents: []int{0}}},
		Heads:   []api.Head{head("main", 1), head("side", 2)},
	}
}

func TestJ2NewCommit(t *testing.T) {
	few := sample.Few()
	r := parted(few, []api.Row{{Key: 2, Val: 6}, few[1], few[2]}, []api.Row{few[0], {Key: 8, Val: 1}, few[2]})
	both := api.Commit{Rows: []api.Row{{Key: 2, Val: 6}, {Key: 8, Val: 1}, few[2]}, Parents: []int{1, 2}}
	checkMerge(t, "side into main", r, "main", "side", behind(r, both, head("main", 3), head("side", 2)))
	// Parents rise, whichever is merged into the other.
	checkMerge(t, "main into side", r, "side", "main", behind(r, both, head("main", 1), head("side", 3)))
}

func TestJ2Clash(t *testing.T) {
	few := sample.Few()
	ours := []api.Row{{Key: 2, Val: 6}, {Key: 8, Val: 2}, {Key: 9, Val: 31}}
	theirs := []api.Row{few[0], few[1], {Key: 8, Val: 1}, {Key: 9, Val: 32}}
	r := parted(few, ours, theirs)
	checkNoMerge(t, "two keys", r, "main", "side", api.ErrClash, 8, 9)
	checkNoMerge(t, "two keys, the other way", r, "side", "main", api.ErrClash, 8, 9)
	if !sample.SameRepo(r, parted(few, ours, theirs)) {
		t.Errorf("with a clash, it is %v", r)
	}
}

// With two Bases, the last one is the base.
func TestJ2LastOfTheBases(t *testing.T) {
	l := sample.Cross()
	l[2].Rows = []api.Row{{Key: 2, Val: 8}}
	l[3].Rows = []api.Row{{Key: 2, Val: 8}, {Key: 50, Val: 1}} // 2 is as it is in 2
	l[4].Rows = []api.Row{{Key: 2, Val: 5}, {Key: 60, Val: 1}} // 2 is as it is in 1
	r := api.Repo{Commits: l, Heads: []api.Head{head("main", 3), head("side", 4)}}
	both := api.Commit{Rows: []api.Row{{Key: 2, Val: 5}, {Key: 50, Val: 1}, {Key: 60, Val: 1}}, Parents: []int{3, 4}}
	checkMerge(t, "side into main", r, "main", "side", behind(r, both, head("main", 6), head("side", 4)))
	checkMerge(t, "main into side", r, "side", "main", behind(r, both, head("main", 3), head("side", 6)))
}

// Where there is no base, both have changed whatever they have.
func TestJ2NoBase(t *testing.T) {
	few := sample.Few()
	r := parted(nil, few, []api.Row{{Key: 1, Val: 1}, few[1]})
	r.Commits[1].Parents, r.Commits[2].Parents = nil, nil
	both := api.Commit{Rows: append([]api.Row{{Key: 1, Val: 1}}, few...), Parents: []int{1, 2}}
	checkMerge(t, "they never were one", r, "main", "side", behind(r, both, head("main", 3), head("side", 2)))
	r.Commits[0].Rows = few // which neither came from
	checkMerge(t, "they never were one", r, "main", "side", behind(r, both, head("main", 3), head("side", 2)))
	r.Commits[2].Rows = []api.Row{{Key: 2, Val: 4}, {Key: 9, Val: 30}}
	checkNoMerge(t, "they never were one", r, "main", "side", api.ErrClash, 2)
}

// halves has a half of the rows that there may be, and another one with one row more.
func halves() ([]api.Row, []api.Row) {
	var one, other []api.Row
	for k := range 20 {
		one = append(one, api.Row{Key: k})
		other = append(other, api.Row{Key: 50 + k})
	}
	return one, append(other, api.Row{Key: 80})
}

func TestJ2TooManyRows(t *testing.T) {
	one, other := halves()
	r := parted(nil, one, other[:20])
	both := api.Commit{Rows: slices.Concat(one, other[:20]), Parents: []int{1, 2}}
	checkMerge(t, "as many as may be", r, "main", "side", behind(r, both, head("main", 3), head("side", 2)))
	checkNoMerge(t, "one too many", parted(nil, one, other), "main", "side", api.ErrMany)
	checkNoMerge(t, "one too many", parted(nil, one, other), "side", "main", api.ErrMany)
	other[0] = api.Row{Key: 19, Val: 5}
	other = append(other, api.Row{Key: 90})
	checkNoMerge(t, "one too many, and a clash", parted(nil, one, other), "main", "side", api.ErrMany)
}

func TestJ2TooManyCommits(t *testing.T) {
	few := sample.Few()
	r := parted(few, few[:2], few[1:])
	for len(r.Commits) < api.MaxCommits-1 {
		r.Commits = append(r.Commits, api.Commit{})
	}
	both := api.Commit{Rows: few[1:2], Parents: []int{1, 2}}
	checkMerge(t, "the last that may be", r, "main", "side", behind(r, both, head("main", 13), head("side", 2)))
	r.Commits = append(r.Commits, api.Commit{})
	checkNoMerge(t, "one too many", r, "main", "side", api.ErrMany)
	r.Commits[2].Rows = []api.Row{{Key: 9, Val: 31}}
	checkNoMerge(t, "one too many, and a clash", r, "main", "side", api.ErrMany)
	r.Commits[1].Rows, r.Commits[2].Rows = halves()
	checkNoMerge(t, "one too many, and too many rows", r, "main", "side", api.ErrMany)
}

// Lists without elements may be nil or not.
func TestJ2NilAndEmptyLists(t *testing.T) {
	nils, empty := sample.Shop(), sample.Shop()
	for n, c := range empty.Commits {
		empty.Commits[n] = api.Commit{Rows: append([]api.Row{}, c.Rows...), Parents: append([]int{}, c.Parents...)}
	}
	for _, h := range []api.Head{head("side", 0), head("side", 2), head("side", 5)} {
		nils.Heads[1], empty.Heads[1] = h, h
		want, _, e := work.Merge(nils, "main", "side")
		x, _, f := work.Merge(empty, "main", "side")
		if e != f || !sample.SameRepo(x, want) {
			t.Errorf("Merge is %v (%d) of nil, %v (%d) of empty lists", want, e, x, f)
		}
		want, e = work.Put(nils, "side", put(1, api.None, 1))
		x, f = work.Put(empty, "side", put(1, api.None, 1))
		if e != api.OK || f != api.OK || !sample.SameRepo(x, want) {
			t.Errorf("Put is %v (%d) of nil, %v (%d) of empty lists", want, e, x, f)
		}
	}
}

func ExampleMerge() {
	r := repo.Begin()
	r, _ = work.Put(r, "main", []api.Change{{Key: 9, Old: api.None, New: 30}})
	r, _ = work.Branch(r, "side", "main")
	r, _ = work.Put(r, "main", []api.Change{{Key: 9, Old: 30, New: 31}})
	r, _ = work.Put(r, "side", []api.Change{{Key: 2, Old: api.None, New: 5}})
	merged, clash, e := work.Merge(r, "main", "side")
	fmt.Println(merged.Commits[4], merged.Heads, clash, e)

	r, _ = work.Put(r, "side", []api.Change{{Key: 9, Old: 30, New: 32}})
	fmt.Println(work.Merge(r, "main", "side"))
	// Output:
	// {[{2 5} {9 31}] [2 3]} [{main 4} {side 3}] [] 0
	// {[] []} [9] 7
}
