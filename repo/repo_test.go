package repo_test

import (
	"fmt"
	"slices"
	"strings"
	"testing"

	"pleach/api"
	"pleach/repo"
	"pleach/sample"
)

// asked has names that are tried with every repo: some are heads, some could be, some are no names.
func asked() []string {
	return slices.Concat(sample.Names(), sample.NoNames())
}

// checkErr wants an error of all calls, and nothing with it.
func checkErr(t *testing.T, what string, r api.Repo, want api.Errno) {
	t.Helper()
	if e := repo.Check(r); e != want {
		t.Errorf("%s: Check of %v is %d, not %d", what, r.Heads, e, want)
	}
	for _, name := range asked() {
		checkAskedErr(t, what, r, name, want)
	}
}

func checkAskedErr(t *testing.T, what string, r api.Repo, name string, want api.Errno) {
	t.Helper()
	if n, e := repo.Head(r, name); n != 0 || e != want {
		t.Errorf("%s: Head %q of %v is %d (%d), not %d", what, name, r.Heads, n, e, want)
	}
	if l, e := repo.Log(r, name); len(l) > 0 || e != want {
		t.Errorf("%s: Log %q of %v is %v (%d), not %d", what, name, r.Heads, l, e, want)
	}
}

func checkHead(t *testing.T, r api.Repo, name string, at int, log []int) {
	t.Helper()
	if n, e := repo.Head(r, name); n != at || e != api.OK {
		t.Errorf("Head %q of %v is %d (%d), not %d", name, r.Heads, n, e, at)
	}
	if l, e := repo.Log(r, name); !slices.Equal(l, log) || e != api.OK {
		t.Errorf("Log %q of %v is %v (%d), not %v", name, r.Heads, l, e, log)
	}
}

func TestI1CheckOfRightRepos(t *testing.T) {
	for what, r := range map[string]api.Repo{
		"nothing":                 {},
		"empty lists":             {Commits: []api.Commit{}, Heads: []api.Head{}},
		"commits, and no heads":   {Commits: sample.Cross()},
		"a shop":                  sample.Shop(),
		"as much as may be":       {Commits: make([]api.Commit, 14), Heads: []api.Head{{Name: "a", At: 13}, {Name: "b", At: 13}, {Name: "c"}, {Name: "d", At: 5}}},
		"two heads at one commit": {Commits: []api.Commit{{}}, Heads: []api.Head{{Name: "a"}, {Name: "b"}}},
	} {
		if e := repo.Check(r); e != api.OK {
			t.Errorf("%s: Check is %d", what, e)
		}
	}
}

func TestI1Names(t *testing.T) {
	for _, name := range sample.Names() {
		r := api.Repo{Commits: []api.Commit{{}}, Heads: []api.Head{{Name: name}}}
		if e := repo.Check(r); e != api.OK {
			t.Errorf("%q: Check is %d", name, e)
		}
	}
	for c := range 256 {
		want := api.ErrName
		if strings.IndexByte("abcdefghijklmnopqrstuvwxyz", byte(c)) >= 0 {
			want = api.OK
		}
		b := string([]byte{byte(c)})
		for _, name := range []string{b, b + "a", "a" + b, "abcdefg" + b, b + "abcdefg", "abc" + b + "def"} {
			r := api.Repo{Commits: []api.Commit{{}}, Heads: []api.Head{{Name: name}}}
			if e := repo.Check(r); e != want {
				t.Errorf("%q: Check is %d, not %d", name, e, want)
			}
		}
	}
	for n := range 20 {
		want := api.ErrName
		if n >= 1 && n <= 8 {
			want = api.OK
		}
		r := api.Repo{Commits: []api.Commit{{}}, Heads: []api.Head{{Name: strings.Repeat("q", n)}}}
		if e := repo.Check(r); e != want {
			t.Errorf("a name of %d bytes: Check is %d, not %d", n, e, want)
		}
	}
}

// Of each two names the one is ahead of the other, by its bytes; no name is there twice.
func TestI1NamesRise(t *testing.T) {
	names := sample.Names()
	for i, one := range names {
		for j, other := range names {
			r := api.Repo{Commits: []api.Commit{{}}, Heads: []api.Head{{Name: one}, {Name: other}}}
			if e := repo.Check(r); i < j && e != api.OK || i >= j && e != api.ErrForm {
				t.Errorf("%q, then %q: Check is %d", one, other, e)
			}
		}
	}
}

func TestI1WrongRepos(t *testing.T) {
	for _, w := range sample.WrongRepos() {
		checkErr(t, w.What, w.Repo, w.Err)
	}
}

// The first wrong commit tells its error, as it does in dag.Check.
func TestI1CommitByCommit(t *testing.T) {
	r := sample.Shop()
	r.Commits[2].Parents, r.Commits[3].Rows = []int{2}, make([]api.Row, 41)
	checkErr(t, "wrong parents, then too many rows", r, api.ErrForm)
	r.Commits[1].Rows = make([]api.Row, 41)
	checkErr(t, "too many rows, then wrong parents", r, api.ErrMany)
}

func TestI1Begin(t *testing.T) {
	r := repo.Begin()
	if e := repo.Check(r); e != api.OK {
		t.Errorf("Check is %d", e)
	}
	if len(r.Commits) != 1 || len(r.Commits[0].Rows) != 0 || len(r.Commits[0].Parents) != 0 {
		t.Errorf("its commits are %v", r.Commits)
	}
	if !slices.Equal(r.Heads, []api.Head{{Name: "main", At: 0}}) {
		t.Errorf("its heads are %v", r.Heads)
	}
	checkHead(t, r, "main", 0, []int{0})
	r.Heads[0].Name, r.Commits[0].Parents = "other", []int{7}
	if again := repo.Begin(); again.Heads[0].Name != "main" || len(again.Commits[0].Parents) != 0 {
		t.Errorf("when it was changed, another is %v", again)
	}
}

func TestI2NoSuchHead(t *testing.T) {
	for _, r := range []api.Repo{{}, {Commits: sample.Cross()}, repo.Begin(), sample.Shop()} {
		for _, name := range asked() {
			if !slices.ContainsFunc(r.Heads, func(h api.Head) bool { return h.Name == name }) {
				checkAskedErr(t, "no such head", r, name, api.ErrNone)
			}
		}
		for _, name := range []string{"mai", "mainn", "main ", "MAIN", "sid", "sidee"} {
			checkAskedErr(t, "nearly a head", r, name, api.ErrNone)
		}
	}
}

// The log of main is the document's ninth example.
func TestI2HeadsOfAShop(t *testing.T) {
	r := sample.Shop()
	checkHead(t, r, "main", 3, []int{3, 2, 1, 0})
	checkHead(t, r, "side", 1, []int{1, 0})
	for n, log := range [][]int{{0}, {1, 0}, {2, 0}, {3, 2, 1, 0}, {4, 2, 1, 0}, {5}} {
		r.Heads = []api.Head{{Name: "a", At: 2}, {Name: "b", At: n}, {Name: "c", At: 5}, {Name: "d", At: 5}}
		checkHead(t, r, "b", n, log)
		checkHead(t, r, "a", 2, []int{2, 0})
		checkHead(t, r, "d", 5, []int{5})
	}
}

// logOf has those that a commit came from, found by going from each to its parents.
func logOf(l []api.Commit, n int) []int {
	log := []int{n}
	for _, p := range l[n].Parents {
		log = append(log, logOf(l, p)...)
	}
	slices.Sort(log)
	log = slices.Compact(log)
	slices.Reverse(log)
	return log
}

func TestI2LogsOfDrawnHistories(t *testing.T) {
	for seed := range uint64(100) {
		l := sample.History(seed, 14)
		for n := range l {
			r := api.Repo{Commits: l, Heads: []api.Head{{Name: "main", At: n}, {Name: "side", At: 13 - n}}}
			checkHead(t, r, "main", n, logOf(l, n))
			checkHead(t, r, "side", 13-n, logOf(l, 13-n))
		}
	}
}

func ExampleLog() {
	r := api.Repo{
		Commits: []api.Commit{{}, {Parents: []int{0}}, {Parents: []int{0}}, {Parents: []int{1, 2}}},
		Heads:   []api.Head{{Name: "main", At: 3}, {Name: "side", At: 1}},
	}
	fmt.Println(repo.Log(r, "main"))
	fmt.Println(repo.Head(r, "side"))
	fmt.Println(repo.Begin())
	// Output:
	// [3 2 1 0] 0
	// 1 0
	// {[{[] []}] [{main 0}]}
}
