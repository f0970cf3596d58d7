package work

import (
	"slices"

	"pleach/api"
	"pleach/dag"
	"pleach/repo"
)

// desk has a right repo that is worked on, and the commits of the heads that the work asks for.
// The repo's lists are the desk's alone: they may be changed, and given out.
type desk struct {
	api.Repo
	at []int
}

// open lays a repo on a desk, and tells where the heads of these names are.
func open(r api.Repo, names ...string) (*desk, api.Errno) {
	d := &desk{}
	for _, name := range names {
		n, e := repo.Head(r, name)
		if e != api.OK {
			return nil, e
		}
		d.at = append(d.at, n)
	}
	d.Heads = slices.Clone(r.Heads)
	for _, c := range r.Commits {
		d.Commits = append(d.Commits, api.Commit{Rows: slices.Clone(c.Rows), Parents: slices.Clone(c.Parents)})
	}
	return d, api.OK
}

// rows of a commit.
func (d *desk) rows(n int) []api.Row { return d.Commits[n].Rows }

// place tells where a head stands, -1 if it is not there.
func (d *desk) place(name string) int {
	return slices.IndexFunc(d.Heads, func(h api.Head) bool { return h.Name == name })
}

// move has a head, which is there, at another commit.
func (d *desk) move(name string, n int) { d.Heads[d.place(name)].At = n }

// commit puts a new commit behind all, and has a head at it.
func (d *desk) commit(name string, l []api.Row, parents ...int) {
	d.Commits = append(d.Commits, api.Commit{Rows: l, Parents: parents})
	d.move(name, len(d.Commits)-1)
}

// isAbove tells whether a commit is n, or one that n came from.
func (d *desk) isAbove(one, n int) bool {
	above, e := dag.Above(d.Commits, n)
	return e == api.OK && above[one]
}

// base has the rows from which two commits have parted: none, if they never were one.
func (d *desk) base(a, b int) []api.Row {
	bases, e := dag.Bases(d.Commits, a, b)
	if e != api.OK || len(bases) == 0 {
		return nil
	}
	return d.rows(bases[len(bases)-1])
}
