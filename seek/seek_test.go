package seek_test

import (
	"fmt"
	"math"
	"slices"
	"testing"

	"pleach/api"
	"pleach/sample"
	"pleach/seek"
)

func checkFind(t *testing.T, x [][][]api.Row, key, val, looks int, want api.Errno) {
	t.Helper()
	if v, n, e := seek.Find(x, key); v != val || n != looks || e != want {
		t.Errorf("Find %d is %d by %d looks (%d), not %d by %d (%d)", key, v, n, e, val, looks, want)
	}
}

func checkRange(t *testing.T, x [][][]api.Row, from, to int, l []api.Row, want api.Errno) {
	t.Helper()
	if y, e := seek.Range(x, from, to); !slices.Equal(y, l) || e != want {
		t.Errorf("Range %d %d is %v (%d), not %v (%d)", from, to, y, e, l, want)
	}
}

// The document's fourth example.
func TestD1NineByTwoLooks(t *testing.T) {
	x := sample.Tree(sample.Twelve())
	checkFind(t, x, 9, 3, 2, api.OK)
	checkFind(t, x, 34, api.None, 0, api.OK)
}

func TestD1FindAtTheEdgesOfChunks(t *testing.T) {
	x := sample.Tree(sample.Twelve()) // its chunks end with 9, 18, 27 and 33
	for key, val := range map[int]int{0: 0, 9: 3, 12: 4, 18: 6, 21: 7, 27: 9, 30: 10, 33: 11} {
		checkFind(t, x, key, val, 2, api.OK)
	}
	for _, key := range []int{1, 10, 11, 19, 20, 28, 29, 31, 32} {
		checkFind(t, x, key, api.None, 2, api.OK)
	}
	for _, key := range []int{34, 35, 98, 99} {
		checkFind(t, x, key, api.None, 0, api.OK)
	}
}

func TestD1FindInNoLevel(t *testing.T) {
	for _, x := range [][][][]api.Row{nil, {}} {
		for key := range api.MaxKey + 1 {
			checkFind(t, x, key, api.None, 0, api.OK)
		}
	}
}

func TestD1FindInOneLevel(t *testing.T) {
	x := sample.Tree(sample.Few())
	for key := range api.MaxKey + 1 {
		val, looks := api.None, 1
		switch {
		case key == 2:
			val = 5
		case key == 7:
			val = 0
		case key == 9:
			val = 30
		case key > 9:
			looks = 0
		}
		checkFind(t, x, key, val, looks, api.OK)
	}
}

func TestD1FindInSixLevels(t *testing.T) {
	x := sample.Tree(sample.Highest()) // of the keys 0 to 39
	checkFind(t, x, 0, 904, 6, api.OK)
	checkFind(t, x, 17, 67, 6, api.OK)
	checkFind(t, x, 39, 702, 6, api.OK)
	checkFind(t, x, 40, api.None, 0, api.OK)
	checkFind(t, x, 99, api.None, 0, api.OK)
}

// looksOf goes through all chunks of a tree, as the promise's words have it.
func looksOf(x [][][]api.Row, key int) int {
	looks := 0
	for _, level := range x {
		for _, c := range level {
			if c[len(c)-1].Key >= key {
				looks++
				break
			}
		}
	}
	return looks
}

func TestD1FindEveryKey(t *testing.T) {
	heights := map[int]bool{}
	for _, l := range sample.All() {
		x := sample.Tree(l)
		heights[len(x)] = true
		val := map[int]int{}
		for _, r := range l {
			val[r.Key] = r.Val
		}
		for key := range api.MaxKey + 1 {
			want, there := val[key]
			if !there {
				want = api.None
			}
			checkFind(t, x, key, want, looksOf(x, key), api.OK)
		}
	}
	for n := range 4 {
		if !heights[n] {
			t.Errorf("no tree of %d levels was asked", n)
		}
	}
}

func TestD1FindOutOfRange(t *testing.T) {
	for _, l := range sample.All() {
		x := sample.Tree(l)
		for _, key := range []int{math.MinInt, -2, api.None, api.MaxKey + 1, 101, math.MaxInt} {
			checkFind(t, x, key, 0, 0, api.ErrRange)
		}
	}
}

func TestD1RangeOfTwelveRows(t *testing.T) {
	l := sample.Twelve()
	x := sample.Tree(l)
	for _, c := range []struct {
		from, to int
		want     []api.Row
	}{
		{0, 99, l},
		{0, 33, l},
		{0, 32, l[:11]},
		{1, 33, l[1:]},
		{0, 0, l[:1]},
		{1, 2, nil},
		{9, 9, l[3:4]},
		{10, 11, nil},
		{9, 12, l[3:5]},
		{10, 30, l[4:11]},
		{18, 21, l[6:8]},
		{33, 33, l[11:]},
		{33, 99, l[11:]},
		{34, 99, nil},
		{99, 99, nil},
	} {
		checkRange(t, x, c.from, c.to, c.want, api.OK)
	}
}

func TestD1RangeOfEachTwoKeys(t *testing.T) {
	lists := append(sample.All()[:20], []api.Row{{Key: 0, Val: 4}, {Key: 99, Val: 7}})
	for _, l := range lists {
		x := sample.Tree(l)
		for from := range api.MaxKey + 1 {
			for to := from; to <= api.MaxKey; to++ {
				var want []api.Row
				for _, r := range l {
					if from <= r.Key && r.Key <= to {
						want = append(want, r)
					}
				}
				checkRange(t, x, from, to, want, api.OK)
			}
		}
	}
}

func TestD1RangeOutOfRange(t *testing.T) {
	for _, l := range [][]api.Row{nil, sample.Few(), sample.Twelve(), sample.Highest()} {
		x := sample.Tree(l)
		for _, c := range []struct{ from, to int }{
			{-1, 5}, {-1, -1}, {-2, -1}, {-1, 99}, {5, 4}, {1, 0}, {99, 98}, {0, -1}, {99, 0}, {7, api.None},
			{0, 100}, {99, 100}, {100, 100}, {100, 99}, {-1, 100}, {101, 200},
			{math.MinInt, math.MaxInt}, {math.MaxInt, math.MinInt}, {0, math.MaxInt}, {math.MinInt, 0}, {math.MaxInt, math.MaxInt},
		} {
			checkRange(t, x, c.from, c.to, nil, api.ErrRange)
		}
	}
}

// ErrForm is named ahead of ErrRange.
func TestD1OfNoTree(t *testing.T) {
	for what, x := range sample.NoTrees() {
		for _, key := range []int{math.MinInt, -1, 0, 1, 3, 50, 99, 100, math.MaxInt} {
			if v, n, e := seek.Find(x, key); v != 0 || n != 0 || e != api.ErrForm {
				t.Errorf("%s: Find %d is %d %d (%d)", what, key, v, n, e)
			}
			for _, to := range []int{-1, 2, 99, 100} {
				if l, e := seek.Range(x, key, to); len(l) > 0 || e != api.ErrForm {
					t.Errorf("%s: Range %d %d is %v (%d)", what, key, to, l, e)
				}
			}
		}
	}
}

func ExampleFind() {
	x := sample.Tree(sample.Twelve())
	fmt.Println(seek.Find(x, 9))
	fmt.Println(seek.Find(x, 34))
	// Output:
	// 3 2 0
	// -1 0 0
}

func ExampleRange() {
	x := sample.Tree(sample.Twelve())
	fmt.Println(seek.Range(x, 7, 15))
	// Output: [{9 3} {12 4} {15 5}] 0
}
