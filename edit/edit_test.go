package edit_test

import (
	"fmt"
	"math"
	"reflect"
	"slices"
	"testing"

	"pleach/api"
	"pleach/edit"
	"pleach/rows"
	"pleach/sample"
)

// alike tells whether two trees are the same; one of no level may be nil or not.
func alike(a, b [][][]api.Row) bool {
	return len(a) == 0 && len(b) == 0 || reflect.DeepEqual(a, b)
}

func put(t *testing.T, x [][][]api.Row, key, val int) [][][]api.Row {
	t.Helper()
	y, e := edit.Put(x, key, val)
	if e != api.OK {
		t.Fatalf("Put %d %d is %d", key, val, e)
	}
	return y
}

// checkErr wants an error of Put and of All, and nothing with it.
func checkErr(t *testing.T, what string, x [][][]api.Row, key, val int, want api.Errno) {
	t.Helper()
	if y, e := edit.Put(x, key, val); len(y) > 0 || e != want {
		t.Errorf("%s: Put %d %d is %v (%d), not %d", what, key, val, y, e, want)
	}
	checkAllErr(t, what, x, []api.Change{{Key: key, New: val}}, want)
}

func checkAllErr(t *testing.T, what string, x [][][]api.Row, l []api.Change, want api.Errno) {
	t.Helper()
	if y, e := edit.All(x, l); len(y) > 0 || e != want {
		t.Errorf("%s: All is %v (%d), not %d", what, y, e, want)
	}
}

func checkAll(t *testing.T, x [][][]api.Row, l []api.Change, want []api.Row) {
	t.Helper()
	if y, e := edit.All(x, l); e != api.OK || !alike(y, sample.Tree(want)) {
		t.Errorf("All of %v is %v (%d), not of %v", l, y, e, want)
	}
}

// The document's fifth example.
func TestE1PutAndCutAgain(t *testing.T) {
	for _, l := range [][]api.Row{nil, sample.Few(), sample.Twelve()} {
		x := sample.Tree(l)
		for key := range api.MaxKey + 1 {
			if v, _ := rows.Find(l, key); v != api.None {
				continue
			}
			for _, val := range []int{0, 1, 2, 996} {
				if y := put(t, put(t, x, key, val), key, api.None); !alike(y, x) {
					t.Errorf("%d put to %d and cut again, it is %v, not %v", key, val, y, x)
				}
			}
		}
	}
}

// turn is an edit of a tree and what comes of it, level by level.
type turn struct {
	what     string
	l        []api.Row
	key, val int
	want     [][][]api.Row
}

func smallTurns() []turn {
	few := sample.Few()
	one := []api.Row{{Key: 7}}
	return []turn{
		{"the first row", nil, 7, 0, [][][]api.Row{{one}}},
		{"the first row, at the bounds", nil, 99, 996, [][][]api.Row{{{{Key: 99, Val: 996}}}}},
		{"nothing of nothing", nil, 7, api.None, nil},
		{"the last row goes", one, 7, api.None, nil},
		{"another row is not there", one, 8, api.None, [][][]api.Row{{one}}},
		{"another value", one, 7, 1, [][][]api.Row{{{{Key: 7, Val: 1}}}}},
		{"the value that it has", few, 7, 0, [][][]api.Row{{few}}},
		{"a row fewer", few, 7, api.None, [][][]api.Row{{{few[0], few[2]}}}},
		{"a row ahead of all", few, 0, 1, [][][]api.Row{{{{Key: 0, Val: 1}, few[0], few[1], few[2]}}}},
		{"a chunk is two, by a value", few, 7, 2, [][][]api.Row{
			{{few[0], {Key: 7, Val: 2}}, {few[2]}},
			{{{Key: 7, Val: 636}, {Key: 9, Val: 125}}},
		}},
		{"a chunk is two, by a row", few, 8, 1, [][][]api.Row{
			{{few[0], few[1], {Key: 8, Val: 1}}, {few[2]}},
			{{{Key: 8, Val: 769}, {Key: 9, Val: 125}}},
		}},
		{"a chunk behind one that ends", few, 10, 3, [][][]api.Row{
			{few, {{Key: 10, Val: 3}}},
			{{{Key: 9, Val: 805}, {Key: 10, Val: 105}}},
		}},
	}
}

func twelveTurns() []turn {
	l := sample.Twelve()
	nine, eighteen := api.Row{Key: 9, Val: 814}, api.Row{Key: 18, Val: 251}
	twentySeven, thirtyThree := api.Row{Key: 27, Val: 984}, api.Row{Key: 33, Val: 79}
	added := func(key, val int) api.Row { return api.Row{Key: key, Val: val} }
	return []turn{
		{"two chunks are one", l, 9, api.None, [][][]api.Row{
			{slices.Concat(l[0:3], l[4:7]), l[7:10], l[10:12]},
			{{{Key: 18, Val: 397}, twentySeven, thirtyThree}},
		}},
		{"a chunk is two", l, 1, 2, [][][]api.Row{
			{{l[0], added(1, 2)}, l[1:4], l[4:7], l[7:10], l[10:12]},
			{{{Key: 1, Val: 5}, {Key: 9, Val: 515}, eighteen, twentySeven, thirtyThree}},
		}},
		{"a row goes over to the next chunk", l, 16, 2, [][][]api.Row{
			{l[0:4], {l[4], l[5], added(16, 2)}, l[6:10], l[10:12]},
			{{nine, {Key: 16, Val: 233}, {Key: 27, Val: 530}, thirtyThree}},
		}},
		{"the first row goes", l, 0, api.None, [][][]api.Row{
			{l[1:4], l[4:7], l[7:10], l[10:12]},
			{{{Key: 9, Val: 515}, eighteen, twentySeven, thirtyThree}},
		}},
		{"the last chunk goes on", l, 39, 4, [][][]api.Row{
			{l[0:4], l[4:7], l[7:10], {l[10], l[11], added(39, 4)}},
			{{nine, eighteen, twentySeven, {Key: 39, Val: 733}}},
		}},
		{"a level more", l, 15, 1, [][][]api.Row{
			{l[0:4], {l[4], added(15, 1), l[6]}, l[7:10], l[10:12]},
			{{nine, {Key: 18, Val: 127}}, {twentySeven, thirtyThree}},
			{{{Key: 18, Val: 517}, {Key: 33, Val: 777}}},
		}},
	}
}

func TestE1PutTurnsChunks(t *testing.T) {
	for _, c := range append(smallTurns(), twelveTurns()...) {
		x := sample.Tree(c.l)
		if y := put(t, x, c.key, c.val); !alike(y, c.want) {
			t.Errorf("%s: Put %d %d is %v, not %v", c.what, c.key, c.val, y, c.want)
		}
		back, e := rows.Find(c.l, c.key)
		if y := put(t, c.want, c.key, back); e != api.OK || !alike(y, x) {
			t.Errorf("%s: Put %d %d back is %v, not %v", c.what, c.key, back, y, x)
		}
	}
}

// What tells of chunks may be the very rows of an old chunk of another level, which ended where none ends here.
func TestE2EachLevelIsCutAsItself(t *testing.T) {
	old := []api.Row{{Key: 20, Val: 1}, {Key: 40, Val: 2}, {Key: 60, Val: 1}, {Key: 80, Val: 1}, {Key: 90, Val: 0}, {Key: 95, Val: 1}}
	want := [][][]api.Row{
		{{{Key: 10, Val: 601}, old[0]}, {{Key: 30, Val: 360}, old[1]}, old[2:4], old[4:6]},
		{{{Key: 20, Val: 1}, {Key: 40, Val: 2}, {Key: 80, Val: 647}}, {{Key: 95, Val: 252}}},
		{{{Key: 80, Val: 762}, {Key: 95, Val: 949}}},
	}
	y, e := edit.All(sample.Tree(old), []api.Change{{Key: 10, New: 601}, {Key: 30, New: 360}})
	if e != api.OK || !alike(y, want) {
		t.Errorf("All is %v (%d), not %v", y, e, want)
	}
}

// asBuilt wants that a put makes the tree that is built of the rows with it, told by a table of keys.
func asBuilt(t *testing.T, l []api.Row, x [][][]api.Row, key, val int) {
	t.Helper()
	held := map[int]int{key: val}
	for _, r := range l {
		if r.Key != key {
			held[r.Key] = r.Val
		}
	}
	var want []api.Row
	for k := range api.MaxKey + 1 {
		if v, there := held[k]; there && v != api.None {
			want = append(want, api.Row{Key: k, Val: v})
		}
	}
	if len(want) > api.MaxRows {
		checkErr(t, "too many rows", x, key, val, api.ErrMany)
	} else if y := put(t, x, key, val); !alike(y, sample.Tree(want)) {
		t.Fatalf("of %v: Put %d %d is %v", l, key, val, y)
	}
}

func TestE2PutOfEveryKeyIsAsBuilt(t *testing.T) {
	for _, l := range sample.All() {
		x := sample.Tree(l)
		for key := range api.MaxKey + 1 {
			for _, val := range []int{api.None, 0, 1, 2, 500, 996} {
				asBuilt(t, l, x, key, val)
			}
		}
	}
}

// Edits one behind the other: trees grow from nothing to all that may be, and go again.
func TestE2ManyPutsAreAsBuilt(t *testing.T) {
	heights := map[int]int{}
	for seed := range uint64(20) {
		d := sample.Drawer(seed)
		var l []api.Row
		var x [][][]api.Row
		for i := range 400 {
			key, val := d.Next(60), d.Next(api.MaxVal+1)
			if d.Next(3) == 0 || i > 300 {
				val = api.None
			}
			next, e := rows.Put(l, key, val)
			if e != api.OK {
				checkErr(t, "too many rows", x, key, val, e)
				continue
			}
			l, x = next, put(t, x, key, val)
			if !alike(x, sample.Tree(l)) {
				t.Fatalf("of %v it is %v", l, x)
			}
			heights[len(x)]++
		}
	}
	for n := range 5 {
		if heights[n] == 0 {
			t.Errorf("no tree of %d levels was edited", n)
		}
	}
}

// In whatever order rows are put, and whatever was there in between.
func TestE2InWhateverOrder(t *testing.T) {
	for seed := range uint64(60) {
		l := sample.Drawn(seed, int(seed%40)+1)
		want := sample.Tree(l)
		d := sample.Drawer(seed)
		turn := sample.Shuffled(&d, changesTo(l))
		var x [][][]api.Row
		for _, c := range turn {
			x = put(t, put(t, x, c.Key, d.Next(997)), c.Key, c.New)
		}
		if !alike(x, want) {
			t.Errorf("of %v by Put: %v, not %v", l, x, want)
		}
		checkAll(t, nil, turn, l)
	}
}

// changesTo rows: of each one its Key is put to its Val.
func changesTo(l []api.Row) []api.Change {
	var d []api.Change
	for _, r := range l {
		d = append(d, api.Change{Key: r.Key, Old: api.None, New: r.Val})
	}
	return d
}

func TestE2AllIsAsBuilt(t *testing.T) {
	for seed := range uint64(300) {
		d := sample.Drawer(seed + 1000)
		l := sample.Drawn(seed, d.Next(41))
		x := sample.Tree(l)
		var changes []api.Change
		e := api.OK
		for range d.Next(12) {
			c := api.Change{Key: d.Next(104) - 2, Old: d.Next(9), New: d.Next(1002) - 3}
			changes = append(changes, c)
			if e == api.OK {
				l, e = rows.Put(l, c.Key, c.New)
			}
		}
		if e != api.OK {
			checkAllErr(t, "a wrong change", x, changes, e)
		} else {
			checkAll(t, x, changes, l)
		}
	}
}

func TestE1AllOfNoChanges(t *testing.T) {
	for _, l := range sample.All() {
		x := sample.Tree(l)
		checkAll(t, x, nil, l)
		checkAll(t, x, []api.Change{}, l)
	}
}

func TestE1AllIsOneByOne(t *testing.T) {
	x := sample.Tree(sample.Few())
	few := sample.Few()
	for _, c := range []struct {
		what string
		l    []api.Change
		want []api.Row
	}{
		{"the later one holds", []api.Change{{Key: 2, New: 6}, {Key: 2, New: 8}}, []api.Row{{Key: 2, Val: 8}, few[1], few[2]}},
		{"there, then not", []api.Change{{Key: 3, New: 6}, {Key: 3, New: api.None}}, few},
		{"not, then there", []api.Change{{Key: 7, New: api.None}, {Key: 7, New: 4}}, []api.Row{few[0], {Key: 7, Val: 4}, few[2]}},
		{"falling keys", []api.Change{{Key: 9, New: api.None}, {Key: 7, New: api.None}, {Key: 2, New: 1}}, []api.Row{{Key: 2, Val: 1}}},
		{"all go", []api.Change{{Key: 9, New: api.None}, {Key: 2, New: api.None}, {Key: 7, New: api.None}}, nil},
		{"what it has", []api.Change{{Key: 9, Old: 30, New: 30}}, few},
		{"the bounds", []api.Change{{Key: 0, New: 0}, {Key: 99, New: 996}}, []api.Row{{}, few[0], few[1], few[2], {Key: 99, Val: 996}}},
	} {
		y, e := edit.All(x, c.l)
		if e != api.OK || !alike(y, sample.Tree(c.want)) {
			t.Errorf("%s: All is %v (%d), not of %v", c.what, y, e, c.want)
		}
	}
}

func TestE1OldIsNotAsked(t *testing.T) {
	x := sample.Tree(sample.Few())
	few := sample.Few()
	for _, old := range []int{math.MinInt, -2, api.None, 0, 5, 6, 996, 997, math.MaxInt} {
		checkAll(t, x, []api.Change{{Key: 2, Old: old, New: 6}}, []api.Row{{Key: 2, Val: 6}, few[1], few[2]})
		checkAll(t, x, []api.Change{{Key: 2, Old: old, New: api.None}}, few[1:])
		checkAll(t, x, []api.Change{{Key: 8, Old: old, New: api.None}}, few)
	}
}

func TestE1OutOfRange(t *testing.T) {
	for _, l := range [][]api.Row{nil, sample.Few(), sample.Twelve(), sample.Highest()} {
		x := sample.Tree(l)
		for _, key := range []int{math.MinInt, -1, 100, math.MaxInt} {
			for _, val := range []int{math.MinInt, -2, api.None, 0, 996, 997, math.MaxInt} {
				checkErr(t, "the key", x, key, val, api.ErrRange)
			}
		}
		for _, val := range []int{math.MinInt, -2, 997, math.MaxInt} {
			for _, key := range []int{0, 7, 9, 50, 99} {
				checkErr(t, "the value", x, key, val, api.ErrRange)
			}
		}
	}
}

func TestE1AsManyRowsAsMayBe(t *testing.T) {
	l := sample.Highest() // 40 rows, of the keys 0 to 39
	x := sample.Tree(l)
	checkErr(t, "a row too many", x, 40, 1, api.ErrMany)
	checkErr(t, "a row too many", x, 99, 0, api.ErrMany)
	if y := put(t, x, 99, api.None); !alike(y, x) {
		t.Errorf("it is %v, not %v", y, x)
	}
	turned := slices.Clone(l)
	turned[5].Val = 3
	if y := put(t, x, 5, 3); !alike(y, sample.Tree(turned)) {
		t.Errorf("it is %v", y)
	}
	ahead := put(t, sample.Tree(l[1:]), 0, l[0].Val)
	if !alike(ahead, x) {
		t.Errorf("the fortieth row makes %v, not %v", ahead, x)
	}
	other := append(slices.Clone(l[1:]), api.Row{Key: 40, Val: 1})
	checkAll(t, x, []api.Change{{Key: 0, New: api.None}, {Key: 40, New: 1}}, other)
	checkAllErr(t, "one too many in between", x, []api.Change{{Key: 40, New: 1}, {Key: 0, New: api.None}}, api.ErrMany)
}

func TestE1ManyChanges(t *testing.T) {
	x := sample.Tree(sample.Few())
	few := sample.Few()
	for _, n := range []int{99, 100} {
		l := make([]api.Change, n)
		for i := range l {
			l[i] = api.Change{Key: 0, New: i}
		}
		checkAll(t, x, l, []api.Row{{Key: 0, Val: n - 1}, few[0], few[1], few[2]})
	}
	var gone []api.Change
	for key := range api.MaxKey + 1 {
		gone = append(gone, api.Change{Key: key, New: api.None})
	}
	checkAll(t, x, gone, nil)
	checkAllErr(t, "101 that change nothing", x, append(gone, gone[0]), api.ErrMany)
	for _, n := range []int{101, 102, 200, 1000} {
		checkAllErr(t, "too many changes", x, make([]api.Change, n), api.ErrMany)
		checkAllErr(t, "too many changes", nil, make([]api.Change, n), api.ErrMany)
	}
}

// Of several errors the one that is named first: of the tree, of a put, of how many changes there are.
func TestE1SeveralErrors(t *testing.T) {
	x := sample.Tree(sample.Few())
	full := sample.Tree(sample.Highest())
	more := make([]api.Change, 102)
	more[101].Key = 100
	checkAllErr(t, "a wrong key behind too many", x, more, api.ErrRange)
	more[101] = api.Change{Key: 5, New: 997}
	checkAllErr(t, "a wrong value behind too many", x, more, api.ErrRange)
	// One by one: behind a change that cannot be made there is none.
	checkAllErr(t, "too many rows, a wrong key", full, []api.Change{{Key: 50}, {Key: 100}}, api.ErrMany)
	checkAllErr(t, "a wrong key, too many rows", full, []api.Change{{Key: 100}, {Key: 50}}, api.ErrRange)
	checkErr(t, "a wrong value in a full tree", full, 50, 997, api.ErrRange)
	checkErr(t, "a wrong key in a full tree", full, 100, 1, api.ErrRange)
	for what, bad := range sample.NoTrees() {
		checkErr(t, what, bad, 1, 2, api.ErrForm)
		checkErr(t, what, bad, 100, 2, api.ErrForm)
		checkErr(t, what, bad, 1, 997, api.ErrForm)
		checkAllErr(t, what, bad, nil, api.ErrForm)
		checkAllErr(t, what, bad, more, api.ErrForm)
		checkAllErr(t, what, bad, make([]api.Change, 101), api.ErrForm)
	}
}

func ExamplePut() {
	x := sample.Tree(sample.Few())
	y, e := edit.Put(x, 8, 1)
	fmt.Println(y, e)
	fmt.Println(edit.Put(y, 8, api.None))
	// Output:
	// [[[{2 5} {7 0} {8 1}] [{9 30}]] [[{8 769} {9 125}]]] 0
	// [[[{2 5} {7 0} {9 30}]]] 0
}

func ExampleAll() {
	x := sample.Tree(sample.Few())
	fmt.Println(edit.All(x, []api.Change{{Key: 7, New: api.None}, {Key: 1, New: 4}}))
	// Output: [[[{1 4} {2 5} {9 30}]]] 0
}
