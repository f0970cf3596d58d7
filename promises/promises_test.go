// Package promises tests what the document promises for all chapters (P1 to P4), of every call that has landed.
package promises

import (
	"math"
	"reflect"
	"slices"
	"strings"
	"sync"
	"testing"

	"pleach/api"
	"pleach/chunk"
	"pleach/dag"
	"pleach/desk"
	"pleach/diff"
	"pleach/edit"
	"pleach/log"
	"pleach/repo"
	"pleach/rows"
	"pleach/sample"
	"pleach/seek"
	"pleach/three"
	"pleach/tree"
	"pleach/wire"
	"pleach/work"
)

// given is what a call is handed; each takes of it what it asks for.
type given struct {
	Rows    []api.Row
	Second  []api.Row
	Third   []api.Row
	Tree    [][][]api.Row
	Other   [][][]api.Row
	Changes []api.Change
	Commits []api.Commit
	Repo    api.Repo
	One     int
	Two     int
	Name    string
	From    string
	Text    string
}

// act of what is given: its kind is the first number.
func (g given) act() api.Act {
	return api.Act{Kind: g.One, One: g.Name, Two: g.From, Changes: g.Changes}
}

// call of the program, with all its results in a list.
type call struct {
	name string
	run  func(g given) []any
}

func results(a ...any) []any { return a }

func calls() []call {
	return []call{
		{"rows.Check", func(g given) []any { return results(rows.Check(g.Rows)) }},
		{"rows.Find", func(g given) []any { return results(rows.Find(g.Rows, g.One)) }},
		{"rows.Put", func(g given) []any { return results(rows.Put(g.Rows, g.One, g.Two)) }},
		{"chunk.Ends", func(g given) []any { return results(chunk.Ends(api.Row{Key: g.One, Val: g.Two}, g.Two)) }},
		{"chunk.Cut", func(g given) []any { return results(chunk.Cut(g.Rows, g.One)) }},
		{"chunk.Sum", func(g given) []any { return results(chunk.Sum(g.Rows)) }},
		{"tree.Build", func(g given) []any { return results(tree.Build(g.Rows)) }},
		{"tree.Check", func(g given) []any { return results(tree.Check(g.Tree)) }},
		{"tree.Rows", func(g given) []any { return results(tree.Rows(g.Tree)) }},
		{"tree.Root", func(g given) []any { return results(tree.Root(g.Tree)) }},
		{"seek.Find", func(g given) []any { return results(seek.Find(g.Tree, g.One)) }},
		{"seek.Range", func(g given) []any { return results(seek.Range(g.Tree, g.One, g.Two)) }},
		{"edit.Put", func(g given) []any { return results(edit.Put(g.Tree, g.One, g.Two)) }},
		{"edit.All", func(g given) []any { return results(edit.All(g.Tree, g.Changes)) }},
		{"diff.Of", func(g given) []any { return results(diff.Of(g.Tree, g.Other)) }},
		{"diff.Patch", func(g given) []any { return results(diff.Patch(g.Rows, g.Changes)) }},
		{"diff.Back", func(g given) []any { return results(diff.Back(g.Changes)) }},
		{"three.Merge", func(g given) []any { return results(three.Merge(g.Rows, g.Second, g.Third)) }},
		{"dag.Check", func(g given) []any { return results(dag.Check(g.Commits)) }},
		{"dag.Above", func(g given) []any { return results(dag.Above(g.Commits, g.One)) }},
		{"dag.Bases", func(g given) []any { return results(dag.Bases(g.Commits, g.One, g.Two)) }},
		{"repo.Check", func(g given) []any { return results(repo.Check(g.Repo)) }},
		{"repo.Begin", func(g given) []any { return results(repo.Begin()) }},
		{"repo.Head", func(g given) []any { return results(repo.Head(g.Repo, g.Name)) }},
		{"repo.Log", func(g given) []any { return results(repo.Log(g.Repo, g.Name)) }},
		{"work.Put", func(g given) []any { return results(work.Put(g.Repo, g.Name, g.Changes)) }},
		{"work.Branch", func(g given) []any { return results(work.Branch(g.Repo, g.Name, g.From)) }},
		{"work.Drop", func(g given) []any { return results(work.Drop(g.Repo, g.Name)) }},
		{"work.Merge", func(g given) []any { return results(work.Merge(g.Repo, g.Name, g.From)) }},
		{"log.Do", func(g given) []any { return results(log.Do(g.Repo, g.act())) }},
		{"log.Write", func(g given) []any { return results(log.Write(g.act())) }},
		{"log.Replay", func(g given) []any { return results(log.Replay(g.Text)) }},
		{"log.Recover", func(g given) []any { return results(log.Recover(g.Text)) }},
		{"wire.Write", func(g given) []any { return results(wire.Write(g.Repo)) }},
		{"wire.Read", func(g given) []any { return results(wire.Read(g.Text)) }},
		{"desk.Play", func(g given) []any { return results(desk.Play(g.Text)) }},
	}
}

// someRows has right rows and wrong ones, each with spare room behind it that has something in it.
func someRows() [][]api.Row {
	var steps, full []api.Row
	for k := range 40 {
		steps = append(steps, api.Row{Key: 2 * k, Val: 25 * k})
		full = append(full, api.Row{Key: 60 + k, Val: 996})
	}
	all := [][]api.Row{
		nil, {}, steps[:1], steps[:2], steps[:6], steps[:7], steps[:12], steps[:39], steps, full,
		{{Key: 7}, {Key: 7}}, {{Key: 7}, {Key: 2}}, {{Key: -1}}, {{Key: 100}}, {{Val: -1}}, {{Val: 997}},
		{{Key: math.MinInt, Val: math.MinInt}, {Key: math.MaxInt, Val: math.MaxInt}},
		make([]api.Row, 40), make([]api.Row, 41), make([]api.Row, 100),
	}
	for i, l := range all {
		all[i] = roomy(l, api.Row{Key: 98, Val: 77})
	}
	return all
}

// roomy is a list of its own memory with three of spare behind it.
func roomy[T any](l []T, spare T) []T {
	return append(slices.Clone(l), spare, spare, spare)[:len(l)]
}

func someTrees() [][][][]api.Row {
	trees := [][][][]api.Row{nil, {}, {{}}, {{{}}}, {nil, nil}, {{nil, nil}}, make([][][]api.Row, 100)}
	for _, l := range someRows() {
		trees = append(trees, [][][]api.Row{{l}}, [][][]api.Row{{l}, {l, l}})
		if t, e := tree.Build(l); e == api.OK {
			trees = append(trees, t)
		}
	}
	for i, t := range trees {
		for n, level := range t {
			level = slices.Clone(level)
			for j, c := range level {
				level[j] = roomy(c, api.Row{Key: 98, Val: 77})
			}
			t[n] = roomy(level, []api.Row{{Key: 97, Val: 76}})
		}
		trees[i] = roomy(t, [][]api.Row{{{Key: 96, Val: 75}}})
	}
	return trees
}

// someChanges has right changes and wrong ones, each with spare room behind it.
func someChanges() [][]api.Change {
	all := [][]api.Change{
		{}, {{Key: 4, Old: 50, New: 9}}, {{Key: 98, Old: api.None, New: 996}, {Key: 2, Old: 25, New: api.None}},
		{{Key: 2, Old: 25, New: api.None}, {Key: 98, Old: api.None, New: 996}}, {{Key: 97, Old: api.None, New: 1}},
		{{Key: 3, New: 7}, {Key: 3, New: 7}}, {{Key: -1}}, {{Key: 100}}, {{New: -2}}, {{New: 997}},
		{{Key: math.MinInt, Old: math.MinInt, New: math.MinInt}, {Key: math.MaxInt, Old: math.MaxInt, New: math.MaxInt}},
		make([]api.Change, 100), make([]api.Change, 101),
	}
	for i, d := range all {
		all[i] = roomy(d, api.Change{Key: 97, Old: 96, New: 95})
	}
	return all
}

// someCommits has right commits and wrong ones, with spare room behind each list.
func someCommits() [][]api.Commit {
	all := [][]api.Commit{
		{}, {{}}, sample.Cross(), make([]api.Commit, 14), make([]api.Commit, 15),
		{{Parents: []int{0}}}, {{Parents: []int{-1}}}, {{}, {Parents: []int{math.MinInt, math.MaxInt}}},
		{{}, {}, {}, {Parents: []int{0, 1, 2}}}, {{}, {}, {Parents: []int{1, 0}}},
	}
	for _, l := range someRows() {
		all = append(all, []api.Commit{{}, {Rows: l, Parents: []int{0}}, {Rows: l}})
	}
	for i, l := range all {
		all[i] = roomyCommits(l)
	}
	return all
}

// roomyCommits has spare room behind each list.
func roomyCommits(l []api.Commit) []api.Commit {
	l = roomy(l, api.Commit{Parents: []int{95}})
	for n, c := range l {
		l[n] = api.Commit{Rows: roomy(c.Rows, api.Row{Key: 98, Val: 77}), Parents: roomy(c.Parents, 94)}
	}
	return l
}

// someRepos has right repos and wrong ones, with spare room behind each list.
func someRepos() []api.Repo {
	three := []api.Head{{Name: "main", At: 3}, {Name: "new", At: 4}, {Name: "side", At: 1}}
	all := []api.Repo{{}, repo.Begin(), sample.Shop(), {Commits: sample.Cross()}, {Commits: sample.Cross(), Heads: three}}
	for _, w := range sample.WrongRepos() {
		all = append(all, w.Repo)
	}
	for seed := range uint64(8) {
		all = append(all, api.Repo{Commits: sample.History(seed, 14-int(seed%2)), Heads: []api.Head{{Name: "main", At: 11}, {Name: "side", At: 12}}})
	}
	for i, r := range all {
		all[i] = api.Repo{Commits: roomyCommits(r.Commits), Heads: roomy(r.Heads, api.Head{Name: "spare", At: 2})}
	}
	return all
}

func someNumbers() []int {
	return []int{math.MinInt, -2, -1, 0, 1, 9, 10, 79, 99, 100, 996, 997, math.MaxInt}
}

// some has all that the calls are tried with.
func some() []given {
	var all []given
	for _, l := range someRows() {
		for _, one := range someNumbers() {
			for _, two := range someNumbers() {
				all = append(all, given{Rows: l, One: one, Two: two})
			}
		}
	}
	for _, t := range someTrees() {
		for _, one := range []int{-1, 0, 9, 99, 100} {
			for _, two := range []int{-1, 9, 99, 997} {
				all = append(all, given{Tree: t, One: one, Two: two})
			}
		}
		for _, d := range someChanges() {
			all = append(all, given{Tree: t, Changes: d})
		}
	}
	return append(all, someTogether()...)
}

// someTogether has what is for the calls that are handed several things.
func someTogether() []given {
	var all []given
	for _, l := range someRows() {
		for _, d := range someChanges() {
			all = append(all, given{Rows: l, Changes: d})
		}
		for _, second := range someRows() {
			all = append(all, given{Rows: l, Second: second, Third: l}, given{Second: l, Third: second})
		}
	}
	trees := someTrees()
	for i, t := range trees {
		// Each with every eighth one: all pairs would take long and show no more.
		for j := i % 8; j < len(trees); j += 8 {
			all = append(all, given{Tree: t, Other: trees[j]})
		}
	}
	for _, l := range someCommits() {
		for _, one := range []int{math.MinInt, -1, 0, 1, 4, 13, 14, math.MaxInt} {
			for _, two := range []int{-1, 0, 3, 15} {
				all = append(all, given{Commits: l, One: one, Two: two})
			}
		}
	}
	return append(all, someAtWork()...)
}

// someAtWork has what is for the calls that are handed a repo.
func someAtWork() []given {
	names := []string{"main", "side", "new", "S", ""}
	changes := [][]api.Change{nil, {{Key: 2, Old: 5, New: 9}}, {{Key: 99, Old: api.None, New: 1}}, {{Key: 7, Old: 1, New: 1}}}
	var all []given
	for _, r := range someRepos() {
		for i, name := range names {
			for j, from := range names {
				kind := (i + 2*j) % 6 // each, and one below them and one above
				all = append(all, given{Repo: r, One: kind, Name: name, From: from, Changes: roomy(changes[(i+j)%4], api.Change{Key: 97})})
			}
		}
	}
	for _, b := range someTexts() {
		all = append(all, given{Text: b})
	}
	return all
}

// someTexts has logs, repos as bytes and scripts, whole, cut and turned, and texts that are none of these.
func someTexts() []string {
	all := []string{"", "\x00", "\x00\x00", "\n", "\xff", "text", strings.Repeat("\x00", api.MaxBytes), strings.Repeat("\n", 61), strings.Repeat("\xff", api.MaxBytes+1)}
	var whole []string
	for seed := range uint64(12) {
		b := ""
		for _, x := range sample.Acts(seed, 62) {
			one, _ := log.Write(x)
			b += one
		}
		whole = append(whole, b)
	}
	for _, r := range append(sample.Repos()[:12], sample.Greatest()) {
		b, _ := wire.Write(r)
		whole = append(whole, b)
	}
	script := "put main 3 7\nbranch b main\nput main 3 8\nput b 3 9\nput b 5 1\nmerge main b\ndiff main b\ncut b 3\nrows b\nroot b\nlog b\ndrop main\n"
	whole = append(whole, script, script+"x\nput x 1 1\nput b 100 1\n\n", strings.Repeat("root main\n", 60))
	for i, b := range whole {
		half := len(b) / 2
		all = append(all, b, b[:half], b[half:], b+"\x00", b[:half]+string([]byte{byte(i)})+b[half:])
	}
	return all
}

// deep is a copy that shares nothing, with what stands in the spare room of lists as well.
func deep(v reflect.Value) reflect.Value {
	switch v.Kind() {
	case reflect.Slice:
		if v.IsNil() {
			return v
		}
		out := reflect.MakeSlice(v.Type(), v.Cap(), v.Cap())
		for i := range v.Cap() {
			out.Index(i).Set(deep(v.Slice(0, v.Cap()).Index(i)))
		}
		return out
	case reflect.Struct:
		out := reflect.New(v.Type()).Elem()
		for i := range v.NumField() {
			out.Field(i).Set(deep(v.Field(i)))
		}
		return out
	case reflect.Interface:
		return deep(v.Elem())
	}
	return v
}

func copied(v any) any { return deep(reflect.ValueOf(v)).Interface() }

// room is where a list lies in memory, its spare room too.
type room struct{ from, to uintptr }

// rooms of all lists in a value.
func rooms(v reflect.Value) []room {
	var all []room
	switch v.Kind() {
	case reflect.Slice:
		if v.Cap() > 0 {
			all = append(all, room{v.Pointer(), v.Pointer() + uintptr(v.Cap())*v.Type().Elem().Size()})
		}
		for i := range v.Len() {
			all = append(all, rooms(v.Index(i))...)
		}
	case reflect.Struct:
		for i := range v.NumField() {
			all = append(all, rooms(v.Field(i))...)
		}
	case reflect.Interface:
		return rooms(v.Elem())
	}
	return all
}

func meet(a, b room) bool { return a.from < b.to && b.from < a.to }

// zero: a list of no elements counts, nil or not.
func zero(v any) bool {
	r := reflect.ValueOf(v)
	return r.IsZero() || r.Kind() == reflect.Slice && r.Len() == 0
}

func TestP1NoPanicAndZeroWithAnError(t *testing.T) {
	for _, g := range some() {
		for _, c := range calls() {
			answer := c.run(g)
			last := len(answer) - 1
			e, ok := answer[last].(api.Errno)
			if !ok || e == api.OK {
				continue
			}
			if c.name == "work.Merge" && e == api.ErrClash {
				last = 1 // the keys are told with it
			}
			for _, v := range answer[:last] {
				if !zero(v) {
					t.Errorf("%s: with error %d it answers %v", c.name, e, v)
				}
			}
		}
	}
}

func TestP2WhatIsHandedInIsOnlyRead(t *testing.T) {
	for _, g := range some() {
		was := copied(g)
		for _, c := range calls() {
			c.run(g)
			if !reflect.DeepEqual(copied(g), was) {
				t.Fatalf("%s changed %v, which was %v", c.name, g, was)
			}
		}
	}
}

func TestP2AnswersAreNewMemory(t *testing.T) {
	for _, g := range some() {
		in := rooms(reflect.ValueOf(g))
		for _, c := range calls() {
			out := rooms(reflect.ValueOf(c.run(g)))
			for i, a := range out {
				if slices.ContainsFunc(in, func(b room) bool { return meet(a, b) }) {
					t.Fatalf("%s: an answer has memory of what was handed in", c.name)
				}
				if slices.ContainsFunc(out[:i], func(b room) bool { return meet(a, b) }) {
					t.Fatalf("%s: two lists of an answer share memory", c.name)
				}
			}
		}
	}
}

func TestP2NilAndEmptyAreTheSame(t *testing.T) {
	for _, one := range someNumbers() {
		for _, two := range someNumbers() {
			for _, c := range calls() {
				a := c.run(given{One: one, Two: two})
				b := c.run(given{
					Rows: []api.Row{}, Second: []api.Row{}, Third: []api.Row{}, Tree: [][][]api.Row{}, Other: [][][]api.Row{},
					Changes: []api.Change{}, Commits: []api.Commit{}, One: one, Two: two,
					Repo: api.Repo{Commits: []api.Commit{}, Heads: []api.Head{}},
				})
				for i := range a {
					if !reflect.DeepEqual(a[i], b[i]) && !(zero(a[i]) && zero(b[i])) {
						t.Errorf("%s: %v of nil, %v of an empty list", c.name, a, b)
					}
				}
			}
		}
	}
}

// answers of all calls for each thing that is given.
func answers(all []given) [][]any {
	var out [][]any
	for _, g := range all {
		for _, c := range calls() {
			out = append(out, c.run(g))
		}
	}
	return out
}

func TestP3TheSameAnswerEachTime(t *testing.T) {
	all := some()
	want := answers(all)
	slices.Reverse(all)
	back := answers(all) // ahead of each stands now another one
	slices.Reverse(all)
	per := len(calls())
	for i := range all {
		turned := len(all) - 1 - i
		if !reflect.DeepEqual(want[i*per:(i+1)*per], back[turned*per:(turned+1)*per]) {
			t.Fatalf("of %v: another answer in another order", all[i])
		}
	}
}

// Whoever writes into an answer changes no later one.
func TestP3AnswersAreTheCallers(t *testing.T) {
	for _, g := range some() {
		for _, c := range calls() {
			first := c.run(g)
			was := copied(first)
			spoil(reflect.ValueOf(first))
			if now := copied(c.run(g)); !reflect.DeepEqual(now, was) {
				t.Fatalf("%s: %v, and then %v", c.name, was, now)
			}
		}
	}
}

// spoil writes into all lists of an answer.
func spoil(v reflect.Value) {
	switch v.Kind() {
	case reflect.Interface:
		spoil(v.Elem())
	case reflect.Slice:
		for i := range v.Len() {
			spoil(v.Index(i))
		}
	case reflect.Struct:
		for i := range v.NumField() {
			spoil(v.Field(i))
		}
	case reflect.Int:
		if v.CanSet() {
			v.SetInt(-9)
		}
	case reflect.String:
		if v.CanSet() {
			v.SetString("spoilt")
		}
	}
}

func TestP3TheSameAnswerSideBySide(t *testing.T) {
	all := some()
	want := answers(all)
	var wait sync.WaitGroup
	for range 4 {
		wait.Go(func() {
			if !reflect.DeepEqual(answers(all), want) {
				t.Error("another answer, side by side with others")
			}
		})
	}
	wait.Wait()
}

// Within the bound of P4, limits that a chapter names have their own answers.
func TestP4GreatLists(t *testing.T) {
	l := make([]api.Row, 1<<22)
	wide := given{Rows: l, Tree: [][][]api.Row{{l}}, One: 5, Two: 5}
	checkAnswers(t, wide, api.ErrMany, "rows.Check", "rows.Find", "rows.Put", "chunk.Cut", "chunk.Sum", "tree.Build")
	checkAnswers(t, wide, api.ErrForm, "tree.Check", "tree.Rows", "tree.Root", "seek.Find", "seek.Range", "edit.Put", "edit.All", "diff.Of")
	checkAnswers(t, wide, api.ErrMany, "diff.Patch", "three.Merge")
	checkAnswers(t, given{Second: l, Third: l}, api.ErrMany, "three.Merge")
	checkAnswers(t, given{Third: l}, api.ErrMany, "three.Merge")
	checkAnswers(t, given{Other: wide.Tree}, api.ErrForm, "diff.Of")
	many := given{Changes: make([]api.Change, 1<<20), Commits: make([]api.Commit, 1<<20)}
	checkAnswers(t, many, api.ErrMany, "edit.All", "dag.Check", "dag.Above", "dag.Bases")
	checkAnswers(t, many, api.ErrForm, "diff.Patch", "diff.Back")
	checkAnswers(t, given{Commits: []api.Commit{{}, {Parents: make([]int, 1<<22)}}}, api.ErrForm, "dag.Check", "dag.Above", "dag.Bases")
	checkAnswers(t, given{Commits: []api.Commit{{Rows: l}}}, api.ErrMany, "dag.Check", "dag.Above", "dag.Bases")
}

func TestP4GreatRepos(t *testing.T) {
	atWork := []string{"repo.Head", "repo.Log", "work.Put", "work.Branch", "work.Drop", "work.Merge", "log.Do"}
	long := strings.Repeat("a", 1<<24)
	for _, c := range []struct {
		repo api.Repo
		want api.Errno
	}{
		{api.Repo{Commits: make([]api.Commit, 1<<20)}, api.ErrMany},
		{api.Repo{Commits: []api.Commit{{Rows: make([]api.Row, 1<<22)}}}, api.ErrMany},
		{api.Repo{Commits: []api.Commit{{Parents: make([]int, 1<<22)}}}, api.ErrForm},
		{api.Repo{Heads: make([]api.Head, 1<<22)}, api.ErrMany},
		{api.Repo{Commits: []api.Commit{{}}, Heads: []api.Head{{Name: long}}}, api.ErrName},
	} {
		checkAnswers(t, given{Repo: c.repo, One: api.ActPut}, c.want, append(atWork, "repo.Check", "wire.Write")...)
	}
	checkAnswers(t, given{Repo: repo.Begin(), One: api.ActDrop, Name: long, From: long}, api.ErrNone, atWork...)
	checkAnswers(t, given{Repo: repo.Begin(), Name: long, From: "main"}, api.ErrName, "work.Branch")
	checkAnswers(t, given{Repo: repo.Begin(), Name: "main", Changes: make([]api.Change, 1<<20)}, api.ErrForm, "work.Put")
}

func TestP4GreatTexts(t *testing.T) {
	for _, b := range []string{"\x00", "\xff", "a", "\n"} {
		checkAnswers(t, given{Text: strings.Repeat(b, 1<<24)}, api.ErrMany, "log.Replay", "log.Recover", "wire.Read", "desk.Play")
	}
	long := strings.Repeat("a", 1<<24)
	for _, g := range []given{{Name: long}, {From: long}, {Name: long, From: long}, {Changes: make([]api.Change, 1<<20)}} {
		checkAnswers(t, g, api.ErrRange, "log.Write")
	}
}

// checkAnswers wants that error of the calls that are named.
func checkAnswers(t *testing.T, g given, want api.Errno, names ...string) {
	t.Helper()
	for _, c := range calls() {
		if !slices.Contains(names, c.name) {
			continue
		}
		answer := c.run(g)
		if e := answer[len(answer)-1]; e != want {
			t.Errorf("%s is %v, not %d", c.name, e, want)
		}
	}
}
