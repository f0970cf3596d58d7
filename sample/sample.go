// Package sample has what the tests of all layers are made with. The program itself calls none of it.
package sample

import (
	"math"
	"slices"
	"strings"

	"pleach/api"
	"pleach/rows"
	"pleach/tree"
)

// Few rows: three, which are one chunk.
func Few() []api.Row { return []api.Row{{Key: 2, Val: 5}, {Key: 7, Val: 0}, {Key: 9, Val: 30}} }

// Twelve rows, those of the document's examples.
func Twelve() []api.Row {
	var l []api.Row
	for k := range 12 {
		l = append(l, api.Row{Key: 3 * k, Val: k})
	}
	return l
}

// Highest has rows of which the tree is as high as one can be: each chunk ends as early as it may.
func Highest() []api.Row {
	var l []api.Row
	for k, v := range []int{
		904, 413, 198, 294, 248, 640, 331, 833, 36, 387, 162, 394, 877, 767, 294, 201, 407, 67, 144, 56,
		7, 519, 63, 646, 448, 920, 991, 516, 900, 307, 268, 137, 969, 312, 574, 970, 500, 68, 86, 702,
	} {
		l = append(l, api.Row{Key: k, Val: v})
	}
	return l
}

// Drawer draws numbers, the same ones for the same seed.
type Drawer uint64

// Next draws a number from 0 to n - 1.
func (d *Drawer) Next(n int) int {
	*d = *d*6364136223846793005 + 1442695040888963407
	return int(uint64(*d) >> 33 % uint64(n))
}

// Shuffled has what a list has, in an order that is drawn.
func Shuffled[T any](d *Drawer, l []T) []T {
	out := slices.Clone(l)
	for i := range out {
		j := i + d.Next(len(out)-i)
		out[i], out[j] = out[j], out[i]
	}
	return out
}

// Drawn has rows, at most n, the same ones for the same seed.
func Drawn(seed uint64, n int) []api.Row {
	d := Drawer(seed)
	var l []api.Row
	for k := d.Next(3); k <= api.MaxKey && len(l) < n; k += 1 + d.Next(3) {
		l = append(l, api.Row{Key: k, Val: d.Next(api.MaxVal + 1)})
	}
	return l
}

// All has rows of each number, and those of the edges.
func All() [][]api.Row {
	l := [][]api.Row{nil, {}, {{}}, {{Key: 99, Val: 996}}, Few(), Twelve(), Highest()}
	for seed := range uint64(120) {
		l = append(l, Drawn(seed, int(seed%41)))
	}
	return l
}

// Turned has rows that came from others by some edits; its values are few, so that two often have the same.
func Turned(d *Drawer, l []api.Row) []api.Row {
	out := slices.Clone(l)
	for range d.Next(8) {
		key := d.Next(api.MaxKey + 1)
		if len(out) > 0 && d.Next(2) == 0 {
			key = out[d.Next(len(out))].Key
		}
		if next, e := rows.Put(out, key, d.Next(4)-1); e == api.OK {
			out = next
		}
	}
	return out
}

// Wrong has rows that are not right, and what is told of them.
type Wrong struct {
	What string
	Rows []api.Row
	Err  api.Errno
}

// WrongRows has rows that are not right, in each way.
func WrongRows() []Wrong {
	l := []Wrong{
		{"a key twice", []api.Row{{Key: 7}, {Key: 7}}, api.ErrForm},
		{"keys fall", []api.Row{{Key: 7}, {Key: 2}}, api.ErrForm},
		{"a key below all", []api.Row{{Key: -1}}, api.ErrForm},
		{"a key above all", []api.Row{{Key: 2}, {Key: 100}}, api.ErrForm},
		{"a value of none", []api.Row{{Key: 2, Val: api.None}}, api.ErrForm},
		{"a value above all", []api.Row{{Key: 2, Val: 997}}, api.ErrForm},
		{"far out", []api.Row{{Key: math.MinInt, Val: math.MinInt}, {Key: math.MaxInt, Val: math.MaxInt}}, api.ErrForm},
		{"as many as may be, all the same", make([]api.Row, api.MaxRows), api.ErrForm},
		{"too many, all the same", make([]api.Row, api.MaxRows+1), api.ErrMany},
	}
	many := append(Highest(), api.Row{Key: 99})
	return append(l, Wrong{"one too many", many, api.ErrMany})
}

// Cross has commits of which two came from the same two.
func Cross() []api.Commit {
	return []api.Commit{{}, {Rows: Few(), Parents: []int{0}}, {Parents: []int{0}}, {Parents: []int{1, 2}}, {Parents: []int{1, 2}}, {}}
}

// Parents has all parents that the commit of a number may have.
func Parents(n int) [][]int {
	all := [][]int{nil}
	for q := range n {
		all = append(all, []int{q})
		for p := range q {
			all = append(all, []int{p, q})
		}
	}
	return all
}

// History has n commits that came from drawn ones ahead, with rows turned from those of the last one of them.
// Those with two parents are many, and make the histories in which two have parted in several places.
func History(seed uint64, n int) []api.Commit {
	d := Drawer(seed)
	var l []api.Commit
	for len(l) < n {
		all := Parents(len(l))
		c := api.Commit{Rows: Few(), Parents: all[d.Next(len(all))]}
		if last := len(c.Parents) - 1; last >= 0 {
			c.Rows = l[c.Parents[last]].Rows
		}
		c.Rows = Turned(&d, c.Rows)
		l = append(l, c)
	}
	return l
}

// Shop is a repo of those commits, with two heads; the one has come from the other.
func Shop() api.Repo {
	return api.Repo{Commits: Cross(), Heads: []api.Head{{Name: "main", At: 3}, {Name: "side", At: 1}}}
}

// SameRepo tells whether two repos are the same; a list without elements counts as none.
func SameRepo(a, b api.Repo) bool {
	sameCommit := func(c, d api.Commit) bool {
		return slices.Equal(c.Rows, d.Rows) && slices.Equal(c.Parents, d.Parents)
	}
	return slices.EqualFunc(a.Commits, b.Commits, sameCommit) && slices.Equal(a.Heads, b.Heads)
}

// Repos has right repos: small ones, drawn ones, and the greatest there may be.
func Repos() []api.Repo {
	begin := api.Repo{Commits: make([]api.Commit, 1), Heads: []api.Head{{Name: "main"}}}
	l := []api.Repo{{}, begin, Shop(), {Commits: Cross()}, Greatest()}
	for seed := range uint64(60) {
		d := Drawer(seed)
		r := api.Repo{Commits: History(seed, 1+d.Next(api.MaxCommits))}
		names := Shuffled(&d, Names())[:d.Next(api.MaxHeads+1)]
		slices.Sort(names)
		for _, name := range names {
			r.Heads = append(r.Heads, api.Head{Name: name, At: d.Next(len(r.Commits))})
		}
		l = append(l, r)
	}
	return l
}

// Greatest is a repo that has as much as may be of each thing.
func Greatest() api.Repo {
	var r api.Repo
	for n := range api.MaxCommits {
		c := api.Commit{Parents: []int{n - 2, n - 1}[max(0, 2-n):]} // the first has none, and the second one
		for k := range api.MaxRows {
			c.Rows = append(c.Rows, api.Row{Key: api.MaxKey + 1 - api.MaxRows + k, Val: api.MaxVal})
		}
		r.Commits = append(r.Commits, c)
	}
	for _, letter := range []string{"a", "b", "c", "d"} {
		r.Heads = append(r.Heads, api.Head{Name: strings.Repeat(letter, api.MaxName), At: api.MaxCommits - 1})
	}
	return r
}

// Acts has n drawn acts. Keys and values are few, so that many of them can be done, and many have an error.
func Acts(seed uint64, n int) []api.Act {
	d := Drawer(seed)
	names := []string{"main", "main", "main", "side", "side", "a", "S"}
	kinds := []int{1, 1, 1, 1, 1, 1, 1, 1, 2, 2, 2, 3, 3, 3, 4, 5}
	var l []api.Act
	for len(l) < n {
		x := api.Act{Kind: kinds[d.Next(len(kinds))], One: names[d.Next(7)], Two: names[d.Next(6)]}
		if x.Kind == api.ActDrop && d.Next(3) > 0 {
			x.One = "side" // without main most acts would have an error
		}
		for key := d.Next(2); key < 3 && d.Next(8) > 0; key += 1 + d.Next(6) {
			old := d.Next(3)
			x.Changes = append(x.Changes, api.Change{Key: key, Old: old - 1, New: (old+1+d.Next(2))%3 - 1})
		}
		l = append(l, x)
	}
	return l
}

// WrongRepo is a repo that is not right, and what is told of it.
type WrongRepo struct {
	What string
	Repo api.Repo
	Err  api.Errno
}

// WrongRepos has repos that are not right, in each way, and with what is told first where more than one thing is wrong.
func WrongRepos() []WrongRepo {
	l := wrongHeads()
	for _, w := range WrongRows() {
		r := Shop()
		r.Commits[4].Rows = w.Rows
		l = append(l, WrongRepo{w.What, r, w.Err})
		r.Heads = append(make([]api.Head, api.MaxHeads), api.Head{Name: "S", At: -1})
		l = append(l, WrongRepo{w.What + ", and wrong heads", r, w.Err})
	}
	r := Shop()
	r.Commits[4].Parents = []int{4}
	l = append(l, WrongRepo{"a parent that is not ahead", r, api.ErrForm})
	r.Heads = make([]api.Head, api.MaxHeads+1)
	l = append(l, WrongRepo{"a parent that is not ahead, and too many heads", r, api.ErrForm})
	r = Shop()
	r.Commits = make([]api.Commit, api.MaxCommits+1)
	l = append(l, WrongRepo{"too many commits", r, api.ErrMany})
	r.Heads[0].Name = "Main"
	return append(l, WrongRepo{"too many commits, and no name", r, api.ErrMany})
}

// wrongHeads has repos of right commits whose heads are not right.
func wrongHeads() []WrongRepo {
	head := func(name string, at int) api.Head { return api.Head{Name: name, At: at} }
	one, two, three := head("a", 0), head("b", 5), head("bb", 3)
	four, five := head("c", 3), head("d", 3)
	var l []WrongRepo
	add := func(what string, err api.Errno, heads ...api.Head) {
		l = append(l, WrongRepo{what, api.Repo{Commits: Cross(), Heads: heads}, err})
	}
	add("too many heads", api.ErrMany, one, two, three, four, five)
	add("too many heads, of no names", api.ErrMany, make([]api.Head, api.MaxHeads+1)...)
	for _, name := range NoNames() {
		add("no name", api.ErrName, head(name, 0))
		add("no name ahead", api.ErrName, head(name, 0), head("zzzzzzzz", 0))
		add("no name behind", api.ErrName, one, head(name, 0))
		add("no name, and a head twice, at no commit", api.ErrName, head("a", 9), head("a", 9), head(name, 9))
	}
	add("a head twice", api.ErrForm, one, two, two)
	add("a head twice, at two commits", api.ErrForm, one, head("b", 1), head("b", 2))
	add("names fall", api.ErrForm, two, one)
	add("the last name falls", api.ErrForm, one, three, two)
	add("as many heads as may be, and the last falls", api.ErrForm, one, two, four, three)
	add("longer names behind shorter ones", api.ErrForm, head("b", 0), head("aa", 0))
	for _, n := range []int{-1, 6, 7, 14, math.MinInt, math.MaxInt} {
		add("the first head at no commit", api.ErrForm, head("a", n), two)
		add("the last head at no commit", api.ErrForm, one, head("b", n))
	}
	l = append(l, WrongRepo{"a head, and no commits", api.Repo{Heads: []api.Head{one}}, api.ErrForm})
	return l
}

// NoNames has texts that are no names of heads.
func NoNames() []string {
	return []string{
		"", " ", "A", "Main", "maiN", "a ", " a", "a1", "0", "a-b", "a_b", "`", "{", "a\x00", "\x00", "a\n",
		"ninebytes", "aaaaaaaaa", strings.Repeat("z", 1000), "\xff", "a\xffb", "é", "naïve", "ａ", "a\u0301", "\ufffd",
	}
}

// Names has texts that are names of heads, rising.
func Names() []string {
	return []string{"a", "aa", "aaaaaaaa", "ab", "abcdefgh", "b", "m", "main", "side", "z", "zy", "zzzzzzzz"}
}

// Tree of rows that are right.
func Tree(l []api.Row) [][][]api.Row {
	t, _ := tree.Build(l)
	return t
}

// NoTrees has what is not what Build makes of its rows, each by what is wrong with it.
func NoTrees() map[string][][][]api.Row {
	one := [][]api.Row{{{Key: 1, Val: 1}}}
	many := make([]api.Row, api.MaxRows+1)
	for k := range many {
		many[k].Key = k
	}
	l := Twelve()
	ground := [][]api.Row{l[0:4], l[4:7], l[7:10], l[10:12]}
	top := [][]api.Row{{{Key: 9, Val: 814}, {Key: 18, Val: 251}, {Key: 27, Val: 984}, {Key: 33, Val: 79}}}
	turned := Twelve()
	turned[0].Val = 9
	return map[string][][][]api.Row{
		"a level of no chunks":      {{}},
		"a chunk of no rows":        {{{}}},
		"two chunks of no rows":     {{{}, {}}},
		"levels of no chunks":       {{}, {}},
		"one level too many":        {one, {{{Key: 1, Val: 40}}}},
		"a level of none on top":    {one, {}},
		"the first level is none":   {{}, one},
		"a chunk of no rows behind": {{one[0], {}}},
		"a chunk of no rows ahead":  {{{}, one[0]}},
		"wrong rows":                {{{{Key: 100}}}},
		"keys twice":                {{{{Key: 1}, {Key: 1}}}},
		"more rows than may be":     {{many}},
		"too many rows, cut":        {slices.Collect(slices.Chunk(many, api.MostChunk))},
		"far out":                   {{{{Key: math.MinInt, Val: math.MaxInt}}}},
		"no level on top":           {ground},
		"no level beneath":          {top},
		"rows not cut":              {{l}},
		"a row is another":          {{turned[0:4], l[4:7], l[7:10], l[10:12]}, top},
		"levels changed":            {top, ground},
	}
}
