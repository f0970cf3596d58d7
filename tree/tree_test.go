package tree_test

import (
	"fmt"
	"math"
	"reflect"
	"slices"
	"testing"

	"pleach/api"
	"pleach/chunk"
	"pleach/rows"
	"pleach/sample"
	"pleach/tree"
)

func build(t *testing.T, l []api.Row) [][][]api.Row {
	t.Helper()
	x, e := tree.Build(l)
	if e != api.OK {
		t.Fatalf("Build of %v is %d", l, e)
	}
	return x
}

// The document's third example.
func TestC1TwelveRowsHaveTwoLevels(t *testing.T) {
	l := sample.Twelve()
	want := [][][]api.Row{
		{l[0:4], l[4:7], l[7:10], l[10:12]},
		{{{Key: 9, Val: 814}, {Key: 18, Val: 251}, {Key: 27, Val: 984}, {Key: 33, Val: 79}}},
	}
	if x := build(t, l); !reflect.DeepEqual(x, want) {
		t.Errorf("Build is %v, not %v", x, want)
	}
	if n, e := tree.Root(want); n != 668 || e != api.OK {
		t.Errorf("Root is %d %d", n, e)
	}
}

func TestC1HighestTree(t *testing.T) {
	x := build(t, sample.Highest())
	var chunks []int
	for _, level := range x {
		chunks = append(chunks, len(level))
	}
	if !slices.Equal(chunks, []int{20, 10, 5, 3, 2, 1}) {
		t.Fatalf("its levels have %v chunks", chunks)
	}
	want := [][][]api.Row{
		{{{Key: 7, Val: 576}, {Key: 15, Val: 822}}, {{Key: 23, Val: 48}, {Key: 31, Val: 941}}, {{Key: 39, Val: 647}}},
		{{{Key: 15, Val: 358}, {Key: 31, Val: 654}}, {{Key: 39, Val: 952}}},
		{{{Key: 31, Val: 265}, {Key: 39, Val: 260}}},
	}
	if !reflect.DeepEqual(x[3:], want) {
		t.Errorf("its last levels are %v", x[3:])
	}
	if n, e := tree.Root(x); n != 516 || e != api.OK {
		t.Errorf("Root is %d %d", n, e)
	}
}

func TestC1SmallTrees(t *testing.T) {
	for _, c := range []struct {
		l    []api.Row
		want [][][]api.Row
		root int
	}{
		{nil, nil, 1},
		{[]api.Row{}, nil, 1},
		{[]api.Row{{}}, [][][]api.Row{{{{}}}}, 32},
		{[]api.Row{{Key: 1, Val: 1}}, [][][]api.Row{{{{Key: 1, Val: 1}}}}, 40},
		{sample.Few(), [][][]api.Row{{sample.Few()}}, 805},
	} {
		x, e := tree.Build(c.l)
		if e != api.OK || len(x) != len(c.want) || len(x) > 0 && !reflect.DeepEqual(x, c.want) {
			t.Errorf("Build of %v is %v %d, not %v", c.l, x, e, c.want)
		}
		if n, e := tree.Root(c.want); n != c.root || e != api.OK {
			t.Errorf("Root of %v is %d %d, not %d", c.want, n, e, c.root)
		}
	}
}

// checkLevels holds a tree against the words of the promise.
func checkLevels(t *testing.T, l []api.Row, x [][][]api.Row) {
	t.Helper()
	for n, level := range x {
		want, e := chunk.Cut(l, n)
		if e != api.OK || !reflect.DeepEqual(level, want) {
			t.Errorf("level %d is %v, not %v (%d)", n, level, want, e)
		}
		if more := len(level) > 1; more != (n+1 < len(x)) {
			t.Errorf("level %d of %d has %d chunks", n, len(x), len(level))
		}
		l = nil
		for _, c := range level {
			sum, _ := chunk.Sum(c)
			l = append(l, api.Row{Key: c[len(c)-1].Key, Val: sum})
		}
	}
}

func TestC1EveryLevel(t *testing.T) {
	for _, l := range sample.All() {
		x := build(t, l)
		if (len(x) == 0) != (len(l) == 0) {
			t.Errorf("Build of %v is %v", l, x)
		}
		checkLevels(t, l, x)
		if e := tree.Check(x); e != api.OK {
			t.Errorf("Check of %v is %d", x, e)
		}
	}
}

func TestC1BuildErrors(t *testing.T) {
	falls := sample.Few()
	falls[1].Key = 1
	above := sample.Few()
	above[2].Val = 997
	for _, c := range []struct {
		l    []api.Row
		want api.Errno
	}{
		{falls, api.ErrForm},
		{above, api.ErrForm},
		{[]api.Row{{Key: -1}}, api.ErrForm},
		{[]api.Row{{Key: math.MaxInt, Val: math.MinInt}}, api.ErrForm},
		{make([]api.Row, 2), api.ErrForm},
		{make([]api.Row, 40), api.ErrForm},
		{make([]api.Row, 41), api.ErrMany},
	} {
		if x, e := tree.Build(c.l); len(x) > 0 || e != c.want {
			t.Errorf("Build of %v is %v %d, not %d", c.l, x, e, c.want)
		}
	}
}

// copied is a tree of its own memory.
func copied(x [][][]api.Row) [][][]api.Row {
	var out [][][]api.Row
	for _, level := range x {
		var chunks [][]api.Row
		for _, c := range level {
			chunks = append(chunks, slices.Clone(c))
		}
		out = append(out, chunks)
	}
	return out
}

// checkWrong wants ErrForm of all calls, and nothing else with it.
func checkWrong(t *testing.T, what string, x [][][]api.Row) {
	t.Helper()
	if e := tree.Check(x); e != api.ErrForm {
		t.Errorf("%s: Check is %d", what, e)
	}
	if l, e := tree.Rows(x); len(l) > 0 || e != api.ErrForm {
		t.Errorf("%s: Rows is %v %d", what, l, e)
	}
	if n, e := tree.Root(x); n != 0 || e != api.ErrForm {
		t.Errorf("%s: Root is %d %d", what, n, e)
	}
}

func TestC1CheckOfNoLevel(t *testing.T) {
	for _, x := range [][][][]api.Row{nil, {}} {
		l, e := tree.Rows(x)
		n, f := tree.Root(x)
		if g := tree.Check(x); g != api.OK || len(l) > 0 || e != api.OK || n != 1 || f != api.OK {
			t.Errorf("Check is %d, Rows %v %d, Root %d %d", g, l, e, n, f)
		}
	}
}

func TestC1CheckOfWhatIsNoTree(t *testing.T) {
	for what, x := range sample.NoTrees() {
		checkWrong(t, what, x)
	}
}

// Whatever is changed in a tree, it is none any more.
func TestC1CheckOfEachChange(t *testing.T) {
	for _, l := range [][]api.Row{sample.Few(), sample.Twelve(), sample.Highest(), sample.Drawn(3, 25)} {
		x := build(t, l)
		for n := range x {
			for i := range x[n] {
				checkChunkChanges(t, x, n, i)
			}
		}
		checkWrong(t, "without its last level", appendTo(x[:len(x)-1], [][]api.Row{}))
		checkWrong(t, "its last level twice", appendTo(x, x[len(x)-1]))
		top := x[len(x)-1][0]
		sum, _ := chunk.Sum(top)
		checkWrong(t, "a level too many", appendTo(x, [][]api.Row{{{Key: top[len(top)-1].Key, Val: sum}}}))
		if len(x) > 1 {
			checkWrong(t, "a level too few", x[:len(x)-1])
			checkWrong(t, "without its first level", x[1:])
		}
	}
}

func appendTo(x [][][]api.Row, level [][]api.Row) [][][]api.Row { return append(copied(x), level) }

// checkChunkChanges changes one chunk in each way, in a level above the rows also each row of it.
func checkChunkChanges(t *testing.T, x [][][]api.Row, n, i int) {
	t.Helper()
	what := fmt.Sprintf("level %d, chunk %d: ", n, i)
	y := copied(x)
	y[n][i] = append(y[n][i], api.Row{Key: y[n][i][len(y[n][i])-1].Key, Val: 3})
	checkWrong(t, what+"a row twice", y)
	y = copied(x)
	y[n] = slices.Insert(y[n], i, []api.Row{})
	checkWrong(t, what+"a chunk of none ahead", y)
	y = copied(x)
	y[n] = append(y[n], []api.Row{})
	checkWrong(t, what+"a chunk of none behind all", y)
	if n > 0 || len(x) > 1 {
		y = copied(x)
		y[n] = slices.Delete(y[n], i, i+1)
		checkWrong(t, what+"gone", y)
	}
	if len(x[n][i]) > 1 {
		y = copied(x)
		y[n] = slices.Replace(y[n], i, i+1, y[n][i][:1], y[n][i][1:])
		checkWrong(t, what+"cut in two", y)
	}
	if i > 0 {
		y = copied(x)
		y[n] = slices.Replace(y[n], i-1, i+1, slices.Concat(y[n][i-1], y[n][i]))
		checkWrong(t, what+"one with the one ahead", y)
		y = copied(x)
		y[n][i-1], y[n][i] = y[n][i], y[n][i-1]
		checkWrong(t, what+"changed for the one ahead", y)
	}
	if n == 0 {
		return
	}
	for j := range x[n][i] {
		for _, d := range []int{-1, 1, 3} {
			y = copied(x)
			y[n][i][j].Val += d
			checkWrong(t, what+"another Val", y)
			y = copied(x)
			y[n][i][j].Key += d
			checkWrong(t, what+"another Key", y)
		}
	}
}

// A row of level 0 that is another makes another tree, which the levels above do not tell of.
func TestC1CheckOfAnotherRow(t *testing.T) {
	x := build(t, sample.Twelve())
	for i, c := range x[0] {
		for j := range c {
			for _, d := range []int{1, 3, 500} {
				y := copied(x)
				y[0][i][j].Val += d
				checkWrong(t, fmt.Sprintf("chunk %d, row %d", i, j), y)
			}
		}
	}
}

// One chunk that stands many times has more rows than there is memory for.
func TestC1CheckOfVeryManyRows(t *testing.T) {
	c := make([]api.Row, 1<<20)
	level := make([][]api.Row, 1<<20)
	for i := range level {
		level[i] = c
	}
	checkWrong(t, "very many rows", [][][]api.Row{level})
	x := make([][][]api.Row, 1<<20)
	for i := range x {
		x[i] = level
	}
	checkWrong(t, "very many levels", x)
	checkWrong(t, "very many chunks of none", [][][]api.Row{make([][]api.Row, 1<<20)})
}

func TestC2RowsAreThoseOfWhichItWasBuilt(t *testing.T) {
	for _, l := range sample.All() {
		x := build(t, l)
		if y, e := tree.Rows(x); e != api.OK || !slices.Equal(y, l) {
			t.Errorf("Rows is %v %d, not %v", y, e, l)
		}
	}
}

func TestC2RootIsTheLastSum(t *testing.T) {
	for _, l := range sample.All() {
		x := build(t, l)
		want := 1
		if len(x) > 0 {
			want, _ = chunk.Sum(x[len(x)-1][0])
		}
		if n, e := tree.Root(x); n != want || e != api.OK {
			t.Errorf("Root of %v is %d %d, not %d", x, n, e, want)
		}
	}
}

// Rows that were put in any order, with others that are gone again, have the tree of the same rows in one piece.
func TestC3TheSameRowsHaveTheSameTree(t *testing.T) {
	for seed := range uint64(60) {
		l := sample.Drawn(seed, int(seed%40)+1)
		want := build(t, l)
		d := sample.Drawer(seed)
		for range 4 {
			if x := build(t, putInTurn(t, &d, l)); !reflect.DeepEqual(x, want) {
				t.Fatalf("of %v: %v, not %v", l, x, want)
			}
		}
	}
}

func putInTurn(t *testing.T, d *sample.Drawer, l []api.Row) []api.Row {
	t.Helper()
	turn := sample.Shuffled(d, l)
	var out []api.Row
	for _, r := range turn {
		out = put(t, out, r.Key, (r.Val+1)%997)
	}
	for _, r := range turn {
		out = put(t, out, r.Key, api.None)
		out = put(t, out, r.Key, r.Val)
	}
	return out
}

func put(t *testing.T, l []api.Row, key, val int) []api.Row {
	t.Helper()
	x, e := rows.Put(l, key, val)
	if e != api.OK {
		t.Fatalf("Put %d %d is %d", key, val, e)
	}
	return x
}

func ExampleBuild() {
	x, e := tree.Build([]api.Row{{Key: 2, Val: 5}, {Key: 7, Val: 0}, {Key: 9, Val: 30}})
	n, f := tree.Root(x)
	fmt.Println(x, e, n, f)
	// Output: [[[{2 5} {7 0} {9 30}]]] 0 805 0
}
