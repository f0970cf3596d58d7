package dag_test

import (
	"fmt"
	"iter"
	"math"
	"slices"
	"testing"

	"pleach/api"
	"pleach/dag"
	"pleach/sample"
)

// checkErr wants an error of all calls, and nothing with it.
func checkErr(t *testing.T, what string, l []api.Commit, want api.Errno) {
	t.Helper()
	if e := dag.Check(l); e != want {
		t.Errorf("%s: Check is %d, not %d", what, e, want)
	}
	for _, n := range []int{math.MinInt, -1, 0, 1, 5, 14, 15, math.MaxInt} {
		checkAskedErr(t, what, l, n, 0, want)
		checkAskedErr(t, what, l, 0, n, want)
	}
}

func checkAskedErr(t *testing.T, what string, l []api.Commit, a, b int, want api.Errno) {
	t.Helper()
	if x, e := dag.Above(l, a); len(x) > 0 || e != want {
		t.Errorf("%s: Above %d is %v (%d), not %d", what, a, x, e, want)
	}
	if x, e := dag.Bases(l, a, b); len(x) > 0 || e != want {
		t.Errorf("%s: Bases of %d and %d is %v (%d), not %d", what, a, b, x, e, want)
	}
}

// line has commits each of which came from the one ahead.
func line(n int) []api.Commit {
	l := make([]api.Commit, n)
	for i := 1; i < n; i++ {
		l[i].Parents = []int{i - 1}
	}
	return l
}

func TestH1CheckOfRightCommits(t *testing.T) {
	with := func(parents ...int) []api.Commit { return append(line(3), api.Commit{Parents: parents}) }
	for what, l := range map[string][]api.Commit{
		"nil":                   nil,
		"none":                  {},
		"one":                   {{}},
		"one of rows":           {{Rows: sample.Highest(), Parents: []int{}}},
		"a cross":               sample.Cross(),
		"no parents":            with(),
		"the first":             with(0),
		"the one ahead":         with(2),
		"the first and another": with(0, 1),
		"the first and last":    with(0, 2),
		"the two ahead":         with(1, 2),
		"as many as may be":     line(14),
		"all with no parents":   make([]api.Commit, 14),
	} {
		if e := dag.Check(l); e != api.OK {
			t.Errorf("%s: Check is %d", what, e)
		}
	}
}

func TestH1TooManyCommits(t *testing.T) {
	checkErr(t, "15 with no parents", make([]api.Commit, 15), api.ErrMany)
	checkErr(t, "15 in a line", line(15), api.ErrMany)
	wrong := line(15)
	wrong[0] = api.Commit{Rows: []api.Row{{Key: -1}}, Parents: []int{0}}
	checkErr(t, "15, and wrong rows and parents", wrong, api.ErrMany)
}

func TestH1WrongParents(t *testing.T) {
	for _, c := range []struct {
		at      int
		parents []int
	}{
		{0, []int{0}}, {0, []int{-1}}, {0, []int{1}}, {0, []int{-1, 0}},
		{1, []int{1}}, {1, []int{2}}, {1, []int{0, 1}}, {1, []int{0, 0}}, {1, []int{-1}}, {1, []int{-1, 0}},
		{3, []int{2, 1}}, {3, []int{1, 1}}, {3, []int{1, 3}}, {3, []int{3}}, {3, []int{4}}, {3, []int{2, 4}},
		{3, []int{0, 1, 2}}, {3, []int{0, 0, 0}}, {3, make([]int, 1000)},
		{3, []int{math.MinInt}}, {3, []int{math.MaxInt}}, {3, []int{0, math.MaxInt}}, {3, []int{math.MinInt, 0}},
		{5, []int{5}}, {5, []int{6}}, {5, []int{0, 1, 2}}, {5, []int{4, 3}},
	} {
		l := sample.Cross()
		l[c.at].Parents = c.parents
		checkErr(t, fmt.Sprintf("commit %d of %v", c.at, c.parents), l, api.ErrForm)
	}
}

func TestH1WrongRows(t *testing.T) {
	for _, w := range sample.WrongRows() {
		for at := range sample.Cross() {
			l := sample.Cross()
			l[at].Rows = w.Rows
			checkErr(t, w.What, l, w.Err)
			l[at].Parents = []int{at}
			checkErr(t, w.What+", and wrong parents", l, w.Err)
		}
	}
}

// The first wrong commit tells its error, whatever is wrong with those behind it.
func TestH1CommitByCommit(t *testing.T) {
	form, many := []api.Row{{Key: 100}}, make([]api.Row, 41)
	l := sample.Cross()
	l[2].Rows, l[3].Rows = form, many
	checkErr(t, "wrong rows, then too many", l, api.ErrForm)
	l[1].Rows = many
	checkErr(t, "too many rows, then wrong ones", l, api.ErrMany)
	l = sample.Cross()
	l[2].Parents, l[3].Rows = []int{2}, many
	checkErr(t, "wrong parents, then too many rows", l, api.ErrForm)
	l = sample.Cross()
	l[2].Rows, l[3].Parents = many, []int{3}
	checkErr(t, "too many rows, then wrong parents", l, api.ErrMany)
}

func TestH1NoSuchCommit(t *testing.T) {
	for _, l := range [][]api.Commit{nil, {}, {{}}, sample.Cross(), line(14)} {
		for _, n := range []int{math.MinInt, -2, -1, len(l), len(l) + 1, 99, math.MaxInt} {
			checkAskedErr(t, "neither is there", l, n, n, api.ErrNone)
			for m := range l {
				if x, e := dag.Bases(l, n, m); len(x) > 0 || e != api.ErrNone {
					t.Errorf("Bases of %d and %d is %v (%d)", n, m, x, e)
				}
				if x, e := dag.Bases(l, m, n); len(x) > 0 || e != api.ErrNone {
					t.Errorf("Bases of %d and %d is %v (%d)", m, n, x, e)
				}
			}
		}
	}
}

func TestH2AboveInACross(t *testing.T) {
	l := sample.Cross()
	for n, want := range [][]int{{0}, {0, 1}, {0, 2}, {0, 1, 2, 3}, {0, 1, 2, 4}, {5}} {
		x, e := dag.Above(l, n)
		if e != api.OK || len(x) != 6 || !slices.Equal(places(x), want) {
			t.Errorf("Above %d is %v (%d), not %v", n, x, e, want)
		}
	}
}

// places of what is true.
func places(l []bool) []int {
	var out []int
	for i, is := range l {
		if is {
			out = append(out, i)
		}
	}
	return out
}

// The document's eighth example is that of 3 and 4.
func TestH2BasesInACross(t *testing.T) {
	l := sample.Cross()
	for _, c := range []struct {
		a, b int
		want []int
	}{
		{3, 4, []int{1, 2}}, {3, 3, []int{3}}, {3, 1, []int{1}}, {3, 2, []int{2}}, {3, 0, []int{0}},
		{1, 2, []int{0}}, {0, 0, []int{0}}, {5, 5, []int{5}}, {5, 3, nil}, {5, 0, nil},
	} {
		checkBases(t, l, c.a, c.b, c.want)
		checkBases(t, l, c.b, c.a, c.want)
	}
}

func checkBases(t *testing.T, l []api.Commit, a, b int, want []int) {
	t.Helper()
	if x, e := dag.Bases(l, a, b); e != api.OK || !slices.Equal(x, want) {
		t.Errorf("Bases of %d and %d in %v is %v (%d), not %v", a, b, l, x, e, want)
	}
}

func TestH2InALine(t *testing.T) {
	l := line(14)
	for a := range l {
		for b := range l {
			checkBases(t, l, a, b, []int{min(a, b)})
		}
		if x, e := dag.Above(l, a); e != api.OK || len(x) != 14 || len(places(x)) != a+1 || !x[0] || !x[a] {
			t.Errorf("Above %d is %v (%d)", a, x, e)
		}
	}
}

// histories goes through all that n commits can have come from, behind those that are there.
func histories(l []api.Commit, n int) iter.Seq[[]api.Commit] {
	return func(yield func([]api.Commit) bool) {
		if len(l) == n {
			yield(l)
			return
		}
		for _, parents := range sample.Parents(len(l)) {
			for x := range histories(append(slices.Clone(l), api.Commit{Parents: parents}), n) {
				if !yield(x) {
					return
				}
			}
		}
	}
}

// table of who is above whom: [n][i] tells whether i is above n, by what is above n's parents.
func table(l []api.Commit) [][]bool {
	var all [][]bool
	for n, c := range l {
		x := make([]bool, len(l))
		x[n] = true
		for _, p := range c.Parents {
			for i, is := range all[p] {
				x[i] = x[i] || is
			}
		}
		all = append(all, x)
	}
	return all
}

// basesOf tells the Bases in the words of the promise.
func basesOf(above [][]bool, a, b int) []int {
	both := func(n int) bool { return above[a][n] && above[b][n] }
	var out []int
	for n := range above {
		no := !both(n)
		for m := range above {
			no = no || m != n && both(m) && above[m][n]
		}
		if !no {
			out = append(out, n)
		}
	}
	return out
}

// checkHistory holds all answers of commits against the words of the promises.
func checkHistory(t *testing.T, l []api.Commit) {
	t.Helper()
	above := table(l)
	for a := range l {
		if x, e := dag.Above(l, a); e != api.OK || !slices.Equal(x, above[a]) {
			t.Errorf("Above %d in %v is %v (%d), not %v", a, l, x, e, above[a])
		}
		for b := range l {
			checkBases(t, l, a, b, basesOf(above, a, b))
			x, _ := dag.Bases(l, a, b)
			checkAboveBoth(t, above, a, b, x)
		}
	}
}

// checkAboveBoth: whoever is above both is above one of the Bases.
func checkAboveBoth(t *testing.T, above [][]bool, a, b int, bases []int) {
	t.Helper()
	for n := range above {
		under := slices.ContainsFunc(bases, func(m int) bool { return above[m][n] })
		if both := above[a][n] && above[b][n]; both != under {
			t.Errorf("%d is above %d and %d: %v; and above one of %v: %v", n, a, b, both, bases, under)
		}
	}
}

func TestH2EveryHistoryOfFiveCommits(t *testing.T) {
	seen := 0
	for n := range 6 {
		for l := range histories(nil, n) {
			checkHistory(t, l)
			seen++
		}
	}
	if seen != 1+1+2+8+56+616 {
		t.Errorf("%d histories", seen)
	}
}

func TestH2DrawnHistories(t *testing.T) {
	most := 0
	for seed := range uint64(300) {
		l := sample.History(seed, 14)
		checkHistory(t, l)
		for n := range l {
			x, _ := dag.Bases(l, n, 13)
			most = max(most, len(x))
		}
	}
	if most < 3 {
		t.Errorf("there were at most %d Bases", most)
	}
}

func ExampleBases() {
	l := []api.Commit{{}, {Parents: []int{0}}, {Parents: []int{0}}, {Parents: []int{1, 2}}, {Parents: []int{1, 2}}}
	fmt.Println(dag.Bases(l, 3, 4))
	fmt.Println(dag.Bases(l, 3, 1))
	fmt.Println(dag.Above(l, 1))
	// Output:
	// [1 2] 0
	// [1] 0
	// [true true false false false] 0
}
