package chunk_test

import (
	"fmt"
	"math"
	"reflect"
	"slices"
	"testing"

	"pleach/api"
	"pleach/chunk"
	"pleach/sample"
)

// ending has rows whose remainders at level 0 are those that are given: 7 * Key + 13 * Val is Key + Val, by 3.
func ending(remainders ...int) []api.Row {
	var l []api.Row
	for k, m := range remainders {
		l = append(l, api.Row{Key: k, Val: (m + 2*k) % 3})
	}
	return l
}

// lens of chunks.
func lens(c [][]api.Row) []int {
	var l []int
	for _, x := range c {
		l = append(l, len(x))
	}
	return l
}

// wrong rows, and the error of each.
func wrong() map[string]api.Errno {
	return map[string]api.Errno{"form": api.ErrForm, "many": api.ErrMany}
}

func wrongRows(name string) []api.Row {
	if name == "many" {
		return make([]api.Row, 41)
	}
	l := sample.Few()
	l[2].Val = 997
	return l
}

func TestB1EndsEveryRow(t *testing.T) {
	for key := range api.MaxKey + 1 {
		for val := range api.MaxVal + 1 {
			for level := range 10 {
				// 7 and 13 leave 1, and 5 leaves 2.
				want := (key%3+val%3+2*(level%3))%3 == 0
				if chunk.Ends(api.Row{Key: key, Val: val}, level) != want {
					t.Fatalf("Ends %d %d %d is not %v", key, val, level, want)
				}
			}
		}
	}
}

func TestB1EndsNotOutOfBounds(t *testing.T) {
	far := []int{math.MinInt, math.MinInt + 1, math.MinInt + 2, -3, -2, -1, math.MaxInt - 2, math.MaxInt - 1, math.MaxInt}
	for _, n := range far {
		for m := range 3 {
			checkEndsNot(t, n, m, 0)
			checkEndsNot(t, m, n, 0)
			checkEndsNot(t, m, 0, n)
		}
	}
	for n := range 3 {
		for m := range 3 {
			checkEndsNot(t, 100+n, m, 0)
			checkEndsNot(t, m, 997+n, 0)
			checkEndsNot(t, m, 0, 10+n)
		}
	}
}

func checkEndsNot(t *testing.T, key, val, level int) {
	t.Helper()
	if chunk.Ends(api.Row{Key: key, Val: val}, level) {
		t.Errorf("%d %d Ends at level %d", key, val, level)
	}
}

// The document's second example.
func TestB1TwelveRowsAreFourChunks(t *testing.T) {
	l := sample.Twelve()
	want := [][]api.Row{l[0:4], l[4:7], l[7:10], l[10:12]}
	if c, e := chunk.Cut(l, 0); e != api.OK || !reflect.DeepEqual(c, want) {
		t.Errorf("Cut is %v %d, not %v", c, e, want)
	}
}

func TestB1CutWhereItEnds(t *testing.T) {
	for _, c := range []struct {
		l    []api.Row
		want []int
	}{
		{ending(0), []int{1}},
		{ending(1), []int{1}},
		{ending(0, 1), []int{2}},
		{ending(0, 0), []int{2}},
		{ending(0, 1, 0), []int{3}},
		{ending(1, 0, 0), []int{2, 1}},
		{ending(0, 0, 0, 0), []int{2, 2}},
		{ending(1, 2, 1, 2, 1), []int{5}},
		{ending(1, 2, 1, 2, 1, 2), []int{6}},
		{ending(1, 2, 1, 2, 1, 0), []int{6}},
		{ending(1, 2, 1, 2, 0, 1), []int{5, 1}},
		{ending(1, 2, 1, 2, 1, 2, 0), []int{6, 1}},
		{ending(1, 2, 1, 2, 1, 2, 0, 0), []int{6, 2}},
		{ending(1, 1, 1, 1, 1, 1, 1, 1, 1, 1, 1, 1, 1), []int{6, 6, 1}},
	} {
		if x, e := chunk.Cut(c.l, 0); e != api.OK || !slices.Equal(lens(x), c.want) {
			t.Errorf("Cut of %v has chunks of %v %d, not %v", c.l, lens(x), e, c.want)
		}
	}
}

func TestB1CutOfNoRows(t *testing.T) {
	for level := range 10 {
		for _, l := range [][]api.Row{nil, {}} {
			if c, e := chunk.Cut(l, level); len(c) != 0 || e != api.OK {
				t.Errorf("Cut at %d is %v %d", level, c, e)
			}
		}
	}
}

// checkCut holds chunks against the words of the promise, one by one.
func checkCut(t *testing.T, l []api.Row, level int, c [][]api.Row) {
	t.Helper()
	if !slices.Equal(slices.Concat(c...), l) {
		t.Errorf("the chunks %v have not the rows %v", c, l)
	}
	for i, x := range c {
		last := i == len(c)-1
		for j, r := range x {
			ends := j+1 >= 2 && (7*r.Key+13*r.Val+5*level)%3 == 0 || j+1 == 6
			if j+1 < len(x) && ends {
				t.Errorf("level %d: %v goes on behind %v", level, x, r)
			}
			if j+1 == len(x) && !ends && !last {
				t.Errorf("level %d: %v ends", level, x)
			}
		}
		if len(x) == 0 {
			t.Errorf("level %d: an empty chunk in %v", level, c)
		}
	}
}

func TestB1CutAtEveryLevel(t *testing.T) {
	for seed := range uint64(200) {
		l := sample.Drawn(seed, int(seed%41))
		for level := range 10 {
			c, e := chunk.Cut(l, level)
			if e != api.OK {
				t.Fatalf("Cut of %v at %d is %d", l, level, e)
			}
			checkCut(t, l, level, c)
		}
	}
}

// What stands behind a chunk is cut as it would be alone.
func TestB1CutBehindAChunkIsAsAlone(t *testing.T) {
	for seed := range uint64(100) {
		l := sample.Drawn(seed, 40)
		level := int(seed % 10)
		c, _ := chunk.Cut(l, level)
		from := 0
		for i := range c {
			alone, e := chunk.Cut(l[from:], level)
			if e != api.OK || !reflect.DeepEqual(alone, c[i:]) {
				t.Fatalf("from %d on: %v %d, not %v", from, alone, e, c[i:])
			}
			from += len(c[i])
		}
	}
}

func TestB1CutErrors(t *testing.T) {
	for name, want := range wrong() {
		for _, level := range []int{math.MinInt, -1, 0, 9, 10} {
			if c, e := chunk.Cut(wrongRows(name), level); len(c) > 0 || e != want {
				t.Errorf("%s: Cut at %d is %v %d, not %d", name, level, c, e, want)
			}
		}
	}
	for _, level := range []int{math.MinInt, -1, 10, math.MaxInt} {
		for _, l := range [][]api.Row{nil, sample.Few()} {
			if c, e := chunk.Cut(l, level); len(c) > 0 || e != api.ErrRange {
				t.Errorf("Cut of %v at %d is %v %d", l, level, c, e)
			}
		}
	}
}

func TestB2Sum(t *testing.T) {
	full := make([]api.Row, 40)
	for k := range full {
		full[k] = api.Row{Key: 60 + k, Val: 996}
	}
	for _, c := range []struct {
		l    []api.Row
		want int
	}{
		{nil, 1},
		{[]api.Row{}, 1},
		{[]api.Row{{}}, 32},
		{[]api.Row{{Key: 1, Val: 1}}, 40},
		{[]api.Row{{Val: 964}}, 996},
		{[]api.Row{{Val: 965}}, 0},
		{[]api.Row{{Key: 99, Val: 996}}, 724},
		{sample.Few(), 805},
		{full, longSum(full)},
	} {
		if n, e := chunk.Sum(c.l); n != c.want || e != api.OK {
			t.Errorf("Sum of %v is %d %d, not %d", c.l, n, e, c.want)
		}
	}
}

// longSum goes the other way round: each row's part times its own power of 31.
func longSum(l []api.Row) int {
	power, sum := 1, 0
	for _, r := range slices.Backward(l) {
		sum = (sum + power*(7*r.Key+r.Val+1)) % 997
		power = power * 31 % 997
	}
	return (sum + power) % 997
}

func TestB2SumOfDrawnRows(t *testing.T) {
	for seed := range uint64(200) {
		l := sample.Drawn(seed, int(seed%41))
		if n, e := chunk.Sum(l); n != longSum(l) || e != api.OK {
			t.Errorf("Sum of %v is %d %d, not %d", l, n, e, longSum(l))
		}
	}
}

func TestB2SumErrors(t *testing.T) {
	for name, want := range wrong() {
		if n, e := chunk.Sum(wrongRows(name)); n != 0 || e != want {
			t.Errorf("%s: Sum is %d %d, not %d", name, n, e, want)
		}
	}
}

func ExampleCut() {
	c, e := chunk.Cut([]api.Row{{Key: 0, Val: 0}, {Key: 3, Val: 1}, {Key: 6, Val: 3}, {Key: 7, Val: 0}}, 0)
	fmt.Println(c, e)
	// Output: [[{0 0} {3 1} {6 3}] [{7 0}]] 0
}
