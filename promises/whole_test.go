package promises

import (
	"reflect"
	"slices"
	"testing"

	"pleach/api"
	"pleach/chunk"
	"pleach/dag"
	"pleach/diff"
	"pleach/edit"
	"pleach/log"
	"pleach/repo"
	"pleach/sample"
	"pleach/three"
	"pleach/tree"
	"pleach/wire"
)

// What the document's section 'What the whole promises' says, held against repos that drawn acts have made: all layers are in it.

// doneRepos has the repos that each prefix of drawn acts makes, and the acts.
func doneRepos(seed uint64) ([]api.Repo, []api.Act) {
	acts := sample.Acts(seed, api.MaxActs)
	l := []api.Repo{repo.Begin()}
	for _, x := range acts {
		r := l[len(l)-1]
		if next, e := log.Do(r, x); e == api.OK {
			r = next
		}
		l = append(l, r)
	}
	return l, acts
}

// lastRepos has repos that drawn acts have made, and those of drawn histories, whose rows are more.
func lastRepos() []api.Repo {
	var l []api.Repo
	for seed := range uint64(40) {
		done, _ := doneRepos(seed)
		l = append(l, done[len(done)-1], api.Repo{Commits: sample.History(seed, 10), Heads: []api.Head{{Name: "main", At: 9}}})
	}
	return l
}

// eachTwo goes through each two commits of all these repos.
func eachTwo(look func(r api.Repo, a, b int)) {
	for _, r := range lastRepos() {
		for a := range r.Commits {
			for b := range r.Commits {
				look(r, a, b)
			}
		}
	}
}

func sameTree(a, b [][][]api.Row) bool {
	return len(a) == 0 && len(b) == 0 || reflect.DeepEqual(a, b)
}

func TestWholeBehindAChunkIsCutAsAlone(t *testing.T) {
	for _, l := range sample.All() {
		for level := range 10 {
			cut, _ := chunk.Cut(l, level)
			behind := l
			for i, c := range cut {
				if alone, e := chunk.Cut(behind, level); e != api.OK || !reflect.DeepEqual(alone, cut[i:]) {
					t.Errorf("behind %d chunks of %v it is %v (%d)", i, cut, alone, e)
				}
				behind = behind[len(c):]
			}
		}
	}
}

func TestWholeATreeHasItsRows(t *testing.T) {
	for _, r := range lastRepos() {
		for _, c := range r.Commits {
			built, _ := tree.Build(c.Rows)
			l, e := tree.Rows(built)
			if e != api.OK || !slices.Equal(l, c.Rows) {
				t.Errorf("the tree of %v has %v (%d)", c.Rows, l, e)
			}
			if again, _ := tree.Build(slices.Clone(l)); !sameTree(again, built) {
				t.Errorf("of %v there are two trees, %v and %v", l, built, again)
			}
		}
	}
}

// From one commit's rows to another's by edits, in an order that is drawn.
func TestWholeATreeThatIsEditedIsAsBuilt(t *testing.T) {
	d := sample.Drawer(0)
	eachTwo(func(r api.Repo, a, b int) {
		from, to := sample.Tree(r.Commits[a].Rows), sample.Tree(r.Commits[b].Rows)
		changes, _ := diff.Of(from, to)
		edited, e := edit.All(from, sample.Shuffled(&d, changes))
		if e != api.OK || !sameTree(edited, to) {
			t.Errorf("%v, edited by %v, is %v (%d), not %v", from, changes, edited, e, to)
		}
	})
}

func TestWholePatchOfOf(t *testing.T) {
	eachTwo(func(r api.Repo, a, b int) {
		one, other := r.Commits[a].Rows, r.Commits[b].Rows
		d, _ := diff.Of(sample.Tree(one), sample.Tree(other))
		there, e := diff.Patch(one, d)
		back, _ := diff.Back(d)
		again, f := diff.Patch(other, back)
		if e != api.OK || f != api.OK || !slices.Equal(there, other) || !slices.Equal(again, one) {
			t.Errorf("%v and %v: there is %v (%d), and back %v (%d)", one, other, there, e, again, f)
		}
	})
}

// values of all keys; None, if it is not there.
func values(l []api.Row) [api.MaxKey + 1]int {
	var v [api.MaxKey + 1]int
	for key := range v {
		v[key] = api.None
	}
	for _, r := range l {
		v[r.Key] = r.Val
	}
	return v
}

func TestWholeWhatOnlyOneHasChanged(t *testing.T) {
	eachTwo(func(r api.Repo, a, b int) {
		rows := [][]api.Row{r.Commits[0].Rows, r.Commits[a].Rows, r.Commits[b].Rows}
		l, clash, e := three.Merge(rows[0], rows[1], rows[2])
		if e != api.OK {
			t.Fatalf("Merge of %v has error %d", rows, e)
		}
		base, one, other, is := values(rows[0]), values(rows[1]), values(rows[2]), values(l)
		for key := range base {
			byOne, byOther := one[key] != base[key], other[key] != base[key]
			if byOne && is[key] != one[key] || byOther && !byOne && is[key] != other[key] || !byOne && !byOther && is[key] != base[key] {
				t.Errorf("%d of %v is %d", key, rows, is[key])
			}
			if slices.Contains(clash, key) != (byOne && byOther && one[key] != other[key]) {
				t.Errorf("%d of %v clashes or not: %v", key, rows, clash)
			}
		}
	})
}

func TestWholeWhoeverIsAboveBoth(t *testing.T) {
	eachTwo(func(r api.Repo, a, b int) {
		bases, _ := dag.Bases(r.Commits, a, b)
		aboveA, _ := dag.Above(r.Commits, a)
		aboveB, _ := dag.Above(r.Commits, b)
		for n := range r.Commits {
			is := slices.ContainsFunc(bases, func(m int) bool {
				above, _ := dag.Above(r.Commits, m)
				return above[n]
			})
			if is != (aboveA[n] && aboveB[n]) {
				t.Errorf("%d, of %d and %d in %v with Bases %v", n, a, b, r.Commits, bases)
			}
		}
	})
}

// merged tells whether a repo's head has all that a head had come from.
func merged(is, was api.Repo, into, from string) bool {
	now, _ := repo.Log(is, into)
	l, _ := repo.Log(was, from)
	return !slices.ContainsFunc(l, func(n int) bool { return !slices.Contains(now, n) })
}

func TestWholeNoCommitIsChangedOrLost(t *testing.T) {
	merges := 0
	for seed := range uint64(100) {
		l, acts := doneRepos(seed)
		for i, x := range acts {
			was, is := l[i], l[i+1]
			if len(is.Commits) < len(was.Commits) || !sample.SameRepo(api.Repo{Commits: is.Commits[:len(was.Commits)]}, api.Repo{Commits: was.Commits}) {
				t.Fatalf("%v: commits %v are %v", x, was.Commits, is.Commits)
			}
			if x.Kind != api.ActMerge || sample.SameRepo(was, is) {
				continue
			}
			merges++
			if !merged(is, was, x.One, x.Two) || !merged(is, was, x.One, x.One) {
				t.Errorf("%v: of %v it made %v", x, was, is)
			}
		}
	}
	if merges < 20 {
		t.Errorf("there were %d merges", merges)
	}
}

func TestWholeWhereverALogIsCut(t *testing.T) {
	for seed := range uint64(20) {
		l, acts := doneRepos(seed)
		b := ""
		for i, x := range acts {
			next, _ := log.Write(x)
			for cut := range len(next) {
				if r, n, e := log.Recover(b + next[:cut]); e != api.OK || n != i || !sample.SameRepo(r, l[i]) {
					t.Fatalf("cut %d behind %d acts, it is %v %d (%d), not %v", cut, i, r, n, e, l[i])
				}
			}
			b += next
		}
		if r, n, e := log.Recover(b); e != api.OK || n != len(acts) || !sample.SameRepo(r, l[len(acts)]) {
			t.Fatalf("all is %v %d (%d), not %v", r, n, e, l[len(acts)])
		}
	}
}

func TestWholeWhatIsWrittenIsRead(t *testing.T) {
	d := sample.Drawer(0)
	for _, r := range lastRepos() {
		b, e := wire.Write(r)
		if is, f := wire.Read(b); e != api.OK || f != api.OK || !sample.SameRepo(is, r) {
			t.Errorf("%v is written as %q (%d), and read as %v (%d)", r, b, e, is, f)
		}
		for range 100 {
			turned := []byte(b)
			turned[d.Next(len(b))] = byte(d.Next(12))
			is, e := wire.Read(string(turned))
			if again, _ := wire.Write(is); e == api.OK && again != string(turned) {
				t.Errorf("%q is read as %v, of which the bytes are %q", turned, is, again)
			}
		}
	}
}
