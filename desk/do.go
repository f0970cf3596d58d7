package desk

import (
	"strconv"
	"strings"

	"pleach/api"
	"pleach/diff"
	"pleach/repo"
	"pleach/rows"
	"pleach/tree"
	"pleach/work"
)

// done is given by what has no more to tell.
const done = "ok"

func put(r api.Repo, x asked) (api.Repo, string) {
	return change(r, x.heads[0], x.numbers[0], x.numbers[1]), done
}

func cut(r api.Repo, x asked) (api.Repo, string) {
	return change(r, x.heads[0], x.numbers[0], api.None), done
}

func branch(r api.Repo, x asked) (api.Repo, string) {
	return must(work.Branch(r, x.heads[0], x.heads[1])), done
}

func drop(r api.Repo, x asked) (api.Repo, string) {
	return must(work.Drop(r, x.heads[0])), done
}

func merge(r api.Repo, x asked) (api.Repo, string) {
	merged, clash, e := work.Merge(r, x.heads[0], x.heads[1])
	if e == api.ErrClash {
		return r, "clash " + tell(clash, strconv.Itoa)
	}
	return must(merged, e), done
}

func showRows(r api.Repo, x asked) (api.Repo, string) {
	return r, tell(rowsOf(r, x.heads[0]), func(row api.Row) string {
		return strconv.Itoa(row.Key) + "=" + strconv.Itoa(row.Val)
	})
}

func showRoot(r api.Repo, x asked) (api.Repo, string) {
	return r, strconv.Itoa(must(tree.Root(treeOf(r, x.heads[0]))))
}

func showLog(r api.Repo, x asked) (api.Repo, string) {
	return r, tell(must(repo.Log(r, x.heads[0])), strconv.Itoa)
}

func showDiff(r api.Repo, x asked) (api.Repo, string) {
	d := must(diff.Of(treeOf(r, x.heads[0]), treeOf(r, x.heads[1])))
	return r, tell(d, func(c api.Change) string {
		return strconv.Itoa(c.Key) + ":" + value(c.Old) + ">" + value(c.New)
	})
}

// change tells the repo in which a head's key has another value than it had.
func change(r api.Repo, name string, key, val int) api.Repo {
	old := must(rows.Find(rowsOf(r, name), key))
	if val > api.MaxVal {
		panic(api.ErrRange)
	}
	// Put would tell a change to the same as one that is not right.
	if old == val {
		panic(api.ErrSame)
	}
	return must(work.Put(r, name, []api.Change{{Key: key, Old: old, New: val}}))
}

func rowsOf(r api.Repo, name string) []api.Row { return r.Commits[must(repo.Head(r, name))].Rows }

func treeOf(r api.Repo, name string) [][][]api.Row { return must(tree.Build(rowsOf(r, name))) }

// tell has things with a blank between each two, or what stands for none.
func tell[T any](l []T, text func(x T) string) string {
	if len(l) == 0 {
		return none
	}
	var texts []string
	for _, x := range l {
		texts = append(texts, text(x))
	}
	return strings.Join(texts, " ")
}

// none is given where there is nothing.
const none = "-"

func value(v int) string {
	if v == api.None {
		return none
	}
	return strconv.Itoa(v)
}
