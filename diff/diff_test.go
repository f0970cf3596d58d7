package diff_test

import (
	"fmt"
	"math"
	"slices"
	"testing"

	"pleach/api"
	"pleach/chunk"
	"pleach/diff"
	"pleach/sample"
)

// steps has n rows, the keys 0, 2, 4 and so on.
func steps(n int) []api.Row {
	var l []api.Row
	for k := range n {
		l = append(l, api.Row{Key: 2 * k, Val: k})
	}
	return l
}

func checkOf(t *testing.T, what string, a, b []api.Row, want []api.Change) {
	t.Helper()
	if d, e := diff.Of(sample.Tree(a), sample.Tree(b)); e != api.OK || !slices.Equal(d, want) {
		t.Errorf("%s: Of is %v (%d), not %v", what, d, e, want)
	}
}

func checkPatch(t *testing.T, what string, l []api.Row, d []api.Change, want []api.Row) {
	t.Helper()
	if x, e := diff.Patch(l, d); e != api.OK || !slices.Equal(x, want) {
		t.Errorf("%s: Patch is %v (%d), not %v", what, x, e, want)
	}
}

func checkPatchErr(t *testing.T, what string, l []api.Row, d []api.Change, want api.Errno) {
	t.Helper()
	if x, e := diff.Patch(l, d); len(x) > 0 || e != want {
		t.Errorf("%s: Patch is %v (%d), not %d", what, x, e, want)
	}
}

// byKeys tells what differs by asking for each key in turn.
func byKeys(a, b []api.Row) []api.Change {
	var d []api.Change
	for key := range api.MaxKey + 1 {
		if c := (api.Change{Key: key, Old: valueOf(a, key), New: valueOf(b, key)}); c.Old != c.New {
			d = append(d, c)
		}
	}
	return d
}

func valueOf(l []api.Row, key int) int {
	for _, r := range l {
		if r.Key == key {
			return r.Val
		}
	}
	return api.None
}

// The document's sixth example.
func TestF1OfThreeKeys(t *testing.T) {
	b := []api.Row{{Key: 2, Val: 6}, {Key: 8, Val: 1}, {Key: 9, Val: 30}}
	checkOf(t, "three keys", sample.Few(), b, []api.Change{{Key: 2, Old: 5, New: 6}, {Key: 7, Old: 0, New: -1}, {Key: 8, Old: -1, New: 1}})
}

func TestF1OfSmallTrees(t *testing.T) {
	zero, one := []api.Row{{}}, []api.Row{{Val: 1}}
	edge := []api.Row{{Key: 99, Val: 996}}
	for _, c := range []struct {
		what string
		a, b []api.Row
		want []api.Change
	}{
		{"nothing to nothing", nil, nil, nil},
		{"nothing to nought", nil, zero, []api.Change{{Old: api.None}}},
		{"nought to nothing", zero, nil, []api.Change{{New: api.None}}},
		{"another value", zero, one, []api.Change{{New: 1}}},
		{"the same", zero, zero, nil},
		{"the edge to nothing", edge, nil, []api.Change{{Key: 99, Old: 996, New: api.None}}},
		{"one key to another", edge, zero, []api.Change{{Old: api.None}, {Key: 99, Old: 996, New: api.None}}},
		{"one key to another, rising", zero, edge, []api.Change{{New: api.None}, {Key: 99, Old: api.None, New: 996}}},
	} {
		checkOf(t, c.what, c.a, c.b, c.want)
	}
}

// Chunks of the same last Key and the same Sum are not the same for that.
func TestF1OfChunksOfTheSameSum(t *testing.T) {
	head, tail := []api.Row{{Key: 0, Val: 7}, {Key: 1, Val: 2}}, []api.Row{{Key: 90, Val: 5}, {Key: 91, Val: 8}}
	a := slices.Concat(head, []api.Row{{Key: 50, Val: 0}, {Key: 52, Val: 31}}, tail)
	b := slices.Concat(head, []api.Row{{Key: 50, Val: 1}, {Key: 52, Val: 0}}, tail)
	m, _ := chunk.Sum(a[2:4])
	n, _ := chunk.Sum(b[2:4])
	if m != n {
		t.Fatalf("the Sums are %d and %d", m, n)
	}
	checkOf(t, "in between", a, b, []api.Change{{Key: 50, Old: 0, New: 1}, {Key: 52, Old: 31, New: 0}})
	checkOf(t, "alone", a[2:4], b[2:4], []api.Change{{Key: 50, Old: 0, New: 1}, {Key: 52, Old: 31, New: 0}})
}

func TestF1OfEachTwo(t *testing.T) {
	lists := sample.All()[:60]
	for _, a := range lists {
		for _, b := range lists {
			checkOf(t, "two lists", a, b, byKeys(a, b))
		}
	}
}

func TestF1OfAsMuchAsCanDiffer(t *testing.T) {
	var a, b []api.Row
	var want []api.Change
	for k := range 40 {
		a = append(a, api.Row{Key: 2 * k, Val: k})
		b = append(b, api.Row{Key: 2*k + 1, Val: k})
		want = append(want, api.Change{Key: 2 * k, Old: k, New: api.None}, api.Change{Key: 2*k + 1, Old: api.None, New: k})
	}
	checkOf(t, "all keys", a, b, want)
}

func TestF1OfWhatIsNoTree(t *testing.T) {
	right := sample.Tree(sample.Twelve())
	for what, x := range sample.NoTrees() {
		for _, y := range [][][][]api.Row{nil, right, x} {
			if d, e := diff.Of(x, y); len(d) > 0 || e != api.ErrForm {
				t.Errorf("%s: Of from it is %v (%d)", what, d, e)
			}
			if d, e := diff.Of(y, x); len(d) > 0 || e != api.ErrForm {
				t.Errorf("%s: Of to it is %v (%d)", what, d, e)
			}
		}
	}
}

func TestF1Patch(t *testing.T) {
	few := sample.Few()
	for _, c := range []struct {
		what string
		d    []api.Change
		want []api.Row
	}{
		{"nothing", nil, few},
		{"another value", []api.Change{{Key: 7, New: 1}}, []api.Row{few[0], {Key: 7, Val: 1}, few[2]}},
		{"a row goes", []api.Change{{Key: 7, New: api.None}}, []api.Row{few[0], few[2]}},
		{"a row comes", []api.Change{{Key: 8, Old: api.None, New: 0}}, []api.Row{few[0], few[1], {Key: 8}, few[2]}},
		{"the bounds", []api.Change{{Key: 0, Old: api.None, New: 996}, {Key: 99, Old: api.None}},
			[]api.Row{{Val: 996}, few[0], few[1], few[2], {Key: 99}}},
		{"all go", []api.Change{{Key: 2, Old: 5, New: api.None}, {Key: 7, New: api.None}, {Key: 9, Old: 30, New: api.None}}, nil},
		{"each kind", []api.Change{{Key: 2, Old: 5, New: 6}, {Key: 7, New: api.None}, {Key: 8, Old: api.None, New: 1}},
			[]api.Row{{Key: 2, Val: 6}, {Key: 8, Val: 1}, few[2]}},
	} {
		checkPatch(t, c.what, few, c.d, c.want)
	}
	checkPatch(t, "nothing of nothing", nil, nil, nil)
}

// wrongChanges are not right, each for another cause; what few rows have is no cause.
func wrongChanges() map[string][]api.Change {
	const none = api.None
	return map[string][]api.Change{
		"no change":                {{Key: 7}},
		"no change of None":        {{Key: 8, Old: none, New: none}},
		"a key below all":          {{Key: -1, Old: none, New: 1}},
		"a key above all":          {{Key: 100, Old: none, New: 1}},
		"a key far below":          {{Key: math.MinInt, Old: none, New: 1}},
		"a key far above":          {{Key: math.MaxInt, Old: none, New: 1}},
		"Old below None":           {{Key: 7, Old: -2, New: 1}},
		"Old above all":            {{Key: 7, Old: 997, New: 1}},
		"Old far below":            {{Key: 7, Old: math.MinInt, New: 1}},
		"Old far above":            {{Key: 7, Old: math.MaxInt, New: 1}},
		"New below None":           {{Key: 7, New: -2}},
		"New above all":            {{Key: 7, New: 997}},
		"New far below":            {{Key: 7, New: math.MinInt}},
		"New far above":            {{Key: 7, New: math.MaxInt}},
		"a key twice":              {{Key: 7, New: 1}, {Key: 7, New: 1}},
		"a key twice, in turn":     {{Key: 7, New: 1}, {Key: 7, Old: 1, New: 2}},
		"keys fall":                {{Key: 9, Old: 30, New: 1}, {Key: 7, New: 1}},
		"the last one is wrong":    {{Key: 2, Old: 5, New: 1}, {Key: 7, New: 1}, {Key: 9, Old: 30, New: 30}},
		"the first one is wrong":   {{Key: 2, Old: 5, New: 997}, {Key: 7, New: 1}},
		"more than there are keys": make([]api.Change, 101),
	}
}

func TestF1WrongChanges(t *testing.T) {
	for what, d := range wrongChanges() {
		checkPatchErr(t, what, sample.Few(), d, api.ErrForm)
		if x, e := diff.Back(d); len(x) > 0 || e != api.ErrForm {
			t.Errorf("%s: Back is %v (%d)", what, x, e)
		}
	}
}

func TestF1PatchOfWrongRows(t *testing.T) {
	for _, w := range sample.WrongRows() {
		checkPatchErr(t, w.What, w.Rows, nil, w.Err)
		checkPatchErr(t, w.What, w.Rows, []api.Change{{Key: 98, Old: api.None, New: 1}}, w.Err)
		for _, d := range wrongChanges() {
			checkPatchErr(t, w.What+", and wrong changes", w.Rows, d, w.Err)
		}
	}
}

func TestF1PatchClashes(t *testing.T) {
	few := sample.Few()
	for what, d := range map[string][]api.Change{
		"another value":         {{Key: 7, Old: 1, New: 2}},
		"what it would be":      {{Key: 7, Old: 1, New: 0}},
		"it is there":           {{Key: 7, Old: api.None, New: 2}},
		"it is not there":       {{Key: 8, Old: 0, New: 2}},
		"it is gone already":    {{Key: 8, Old: 5, New: api.None}},
		"behind one that fits":  {{Key: 7, New: 1}, {Key: 9, Old: 31, New: 1}},
		"ahead of one that is":  {{Key: 2, Old: 4, New: 1}, {Key: 7, New: 1}},
		"behind one that comes": {{Key: 0, Old: api.None, New: 1}, {Key: 99, Old: 0, New: 1}},
	} {
		checkPatchErr(t, what, few, d, api.ErrClash)
	}
	checkPatchErr(t, "nothing has", nil, []api.Change{{Key: 0, Old: 0, New: 1}}, api.ErrClash)
}

// coming has changes by which n keys come that steps have not.
func coming(n int) []api.Change {
	var d []api.Change
	for k := range n {
		d = append(d, api.Change{Key: 2*k + 1, Old: api.None, New: k})
	}
	return d
}

func TestF1PatchToTooManyRows(t *testing.T) {
	for n := range 41 {
		x, e := diff.Patch(steps(n), coming(40-n))
		if e != api.OK || len(x) != 40 {
			t.Errorf("Patch of %d rows to 40 is %v (%d)", n, x, e)
		}
		checkPatchErr(t, "one too many", steps(n), coming(41-n), api.ErrMany)
	}
	checkPatchErr(t, "many too many", steps(40), coming(40), api.ErrMany)
}

// How many there are in between is not asked: rows go behind those that come.
func TestF1PatchOfManyRowsInTheEnd(t *testing.T) {
	full := sample.Highest() // of the keys 0 to 39
	last := full[39]
	ahead := append([]api.Row{{Key: 0, Val: 3}}, full[1:]...)
	checkPatch(t, "for the last one another", full, []api.Change{{Key: 39, Old: last.Val, New: api.None}, {Key: 40, Old: api.None, New: 1}},
		append(slices.Clone(full[:39]), api.Row{Key: 40, Val: 1}))
	checkPatch(t, "another value", full, []api.Change{{Key: 0, Old: full[0].Val, New: 3}}, ahead)
	var swap []api.Change
	var want []api.Row
	for k := range 40 {
		swap = append(swap, api.Change{Key: 2 * k, Old: api.None, New: k}, api.Change{Key: 2*k + 1, Old: k, New: api.None})
		want = append(want, api.Row{Key: 2 * k, Val: k})
	}
	odd, _ := diff.Patch(nil, coming(40))
	checkPatch(t, "each for the one ahead of it", odd, swap, want)
	checkPatchErr(t, "one fewer goes", odd, swap[:79], api.ErrMany)
}

// Of several errors the one that is named first.
func TestF1PatchSeveralErrors(t *testing.T) {
	full := steps(40)
	comes := api.Change{Key: 97, Old: api.None, New: 1}
	clash := api.Change{Key: 98, Old: 3, New: 1}
	wrong := api.Change{Key: 99, Old: 3, New: 3}
	checkPatchErr(t, "too many, and a clash", full, []api.Change{comes, clash}, api.ErrClash)
	checkPatchErr(t, "too many, and no change", full, []api.Change{comes, wrong}, api.ErrForm)
	checkPatchErr(t, "a clash, and no change", full, []api.Change{clash, wrong}, api.ErrForm)
	checkPatchErr(t, "all three", full, []api.Change{comes, clash, wrong}, api.ErrForm)
	checkPatchErr(t, "too many", full, []api.Change{comes}, api.ErrMany)
}

func TestF1Back(t *testing.T) {
	var all, back []api.Change
	for key := range api.MaxKey + 1 {
		all = append(all, api.Change{Key: key, Old: api.None, New: key})
		back = append(back, api.Change{Key: key, Old: key, New: api.None})
	}
	for _, c := range []struct{ d, want []api.Change }{
		{nil, nil},
		{[]api.Change{}, nil},
		{[]api.Change{{Key: 99, Old: 996, New: api.None}}, []api.Change{{Key: 99, Old: api.None, New: 996}}},
		{[]api.Change{{Key: 0, Old: 5, New: 0}, {Key: 1, Old: 0, New: 5}}, []api.Change{{Key: 0, Old: 0, New: 5}, {Key: 1, Old: 5, New: 0}}},
		{all, back},
		{back, all},
	} {
		if x, e := diff.Back(c.d); e != api.OK || !slices.Equal(x, c.want) {
			t.Errorf("Back of %v is %v (%d), not %v", c.d, x, e, c.want)
		}
	}
}

// checkThereAndBack wants that Patch of Of makes b of a, and Back of it a of b.
func checkThereAndBack(t *testing.T, a, b []api.Row) {
	t.Helper()
	d, e := diff.Of(sample.Tree(a), sample.Tree(b))
	if e != api.OK {
		t.Fatalf("Of %v and %v is %d", a, b, e)
	}
	checkPatch(t, "there", a, d, b)
	back, e := diff.Back(d)
	if e != api.OK {
		t.Fatalf("Back of %v is %d", d, e)
	}
	checkPatch(t, "back", b, back, a)
	if len(d) > 0 {
		checkPatchErr(t, "there twice", b, d, api.ErrClash)
		checkPatchErr(t, "back without there", a, back, api.ErrClash)
	}
}

func TestF2ThereAndBack(t *testing.T) {
	lists := append(sample.All()[:48], steps(40))
	for _, a := range lists {
		for _, b := range lists {
			checkThereAndBack(t, a, b)
		}
	}
}

func TestF2ThereAndBackOfWhatIsTurned(t *testing.T) {
	for seed := range uint64(400) {
		d := sample.Drawer(seed)
		a := sample.Drawn(seed, int(seed%41))
		b := sample.Turned(&d, a)
		checkOf(t, "turned", a, b, byKeys(a, b))
		checkThereAndBack(t, a, b)
	}
}

func ExampleOf() {
	a := sample.Tree([]api.Row{{Key: 2, Val: 5}, {Key: 7, Val: 0}, {Key: 9, Val: 30}})
	b := sample.Tree([]api.Row{{Key: 2, Val: 6}, {Key: 8, Val: 1}, {Key: 9, Val: 30}})
	d, e := diff.Of(a, b)
	fmt.Println(d, e)
	fmt.Println(diff.Patch(sample.Few(), d))
	fmt.Println(diff.Back(d))
	// Output:
	// [{2 5 6} {7 0 -1} {8 -1 1}] 0
	// [{2 6} {8 1} {9 30}] 0
	// [{2 6 5} {7 -1 0} {8 1 -1}] 0
}
