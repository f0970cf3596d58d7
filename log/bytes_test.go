package log_test

import (
	"fmt"
	"math"
	"reflect"
	"slices"
	"strings"
	"testing"

	"pleach/api"
	"pleach/log"
	"pleach/repo"
	"pleach/sample"
)

// checkWrite wants of Write a text.
func checkWrite(t *testing.T, x api.Act, want string) {
	t.Helper()
	if is, e := log.Write(x); is != want || e != api.OK {
		t.Errorf("Write %v is %q (%d), not %q", x, is, e, want)
	}
}

func TestK2Write(t *testing.T) {
	checkWrite(t, api.Act{}, "\x00\x00\x00\x00")
	checkWrite(t, api.Act{Kind: 4, One: "main"}, "\x04\x04main\x00\x00")
	checkWrite(t, api.Act{Kind: 2, One: "b", Two: "side"}, "\x02\x01b\x04side\x00")
	checkWrite(t, api.Act{Kind: 255, One: "\x00\xff", Two: "\n"}, "\xff\x02\x00\xff\x01\n\x00")
	changes := []api.Change{{Key: 7, Old: api.None, New: 996}, {Key: 99, Old: 254, New: 255}, {Key: 7, Old: 256, New: api.None}}
	checkWrite(t, api.Act{Kind: 1, One: "m", Changes: changes}, "\x01\x01m\x00\x03\x07\x00\x00\x03\xe5\x63\x00\xff\x01\x00\x07\x01\x01\x00\x00")
}

// A put of one change is the document's eleventh example.
func TestK2APutOfOneChange(t *testing.T) {
	x := api.Act{Kind: api.ActPut, One: "main", Changes: []api.Change{{Key: 7, Old: 0, New: 1}}}
	checkWrite(t, x, "\x01\x04main\x00\x01\x07\x00\x01\x00\x02")
	if is, _ := log.Write(x); len(is) != 13 {
		t.Errorf("it has %d bytes", len(is))
	}
}

// numbers of an act, each by what sets it, with the least and the most that may stand there.
func numbers() map[string]struct {
	least, most int
	set         func(x *api.Act, n int)
} {
	type number = struct {
		least, most int
		set         func(x *api.Act, n int)
	}
	return map[string]number{
		"Kind":    {0, 255, func(x *api.Act, n int) { x.Kind = n }},
		"One":     {0, 255, func(x *api.Act, n int) { x.One = strings.Repeat("k", max(n, 0)) }},
		"Two":     {0, 255, func(x *api.Act, n int) { x.Two = strings.Repeat("k", max(n, 0)) }},
		"Changes": {0, 255, func(x *api.Act, n int) { x.Changes = make([]api.Change, max(n, 0)) }},
		"Key":     {0, 255, func(x *api.Act, n int) { x.Changes[1].Key = n }},
		"Old":     {-1, 65534, func(x *api.Act, n int) { x.Changes[1].Old = n }},
		"New":     {-1, 65534, func(x *api.Act, n int) { x.Changes[1].New = n }},
	}
}

// plain is an act with two changes.
func plain() api.Act {
	return api.Act{Kind: 1, One: "main", Two: "side", Changes: []api.Change{{Key: 1, Old: 2, New: 3}, {Key: 4, Old: 5, New: 6}}}
}

func TestK2EachNumberUpToItsBounds(t *testing.T) {
	for what, n := range numbers() {
		for _, v := range []int{n.least, n.least + 1, n.most - 1, n.most} {
			x := plain()
			n.set(&x, v)
			b, e := log.Write(x)
			if e != api.OK || b != spelt(x) {
				t.Errorf("%s %d: Write is %q (%d), not %q", what, v, b, e, spelt(x))
			}
			if l, k, e := log.Replay(b); e != api.OK || k != len(b) || len(l) != 1 || !sameAct(l[0], x) {
				t.Errorf("%s %d: Replay is %v %d (%d), not %v", what, v, l, k, e, x)
			}
		}
	}
}

func TestK2EachNumberOutOfItsBounds(t *testing.T) {
	for what, n := range numbers() {
		out := []int{n.most + 1, n.most + 2, 1 << 17}
		if what != "One" && what != "Two" && what != "Changes" {
			out = append(out, n.least-1, n.least-2, n.least-256, n.least-65536, 1<<32, math.MinInt, math.MaxInt)
		}
		for _, v := range out {
			x := plain()
			n.set(&x, v)
			if b, e := log.Write(x); b != "" || e != api.ErrRange {
				t.Errorf("%s %d: Write is %q (%d)", what, v, b, e)
			}
		}
	}
}

// spelt writes an act that may be written, number by number.
func spelt(x api.Act) string {
	one := func(n int) string { return string([]byte{byte(n)}) }
	two := func(n int) string { return one(n/256) + one(n%256) }
	b := one(x.Kind) + one(len(x.One)) + x.One + one(len(x.Two)) + x.Two + one(len(x.Changes))
	for _, c := range x.Changes {
		b += one(c.Key) + two(c.Old+1) + two(c.New+1)
	}
	return b
}

// checkReplay wants of Replay acts, and how many bytes they have.
func checkReplay(t *testing.T, what, b string, want []api.Act, n int) {
	t.Helper()
	l, k, e := log.Replay(b)
	if e != api.OK || k != n || !slices.EqualFunc(l, want, sameAct) {
		t.Errorf("%s: Replay %q is %v %d (%d), not %v %d", what, b, l, k, e, want, n)
	}
}

// checkCuts holds against each other what acts are in a log wherever it is cut, and what is told of it.
func checkCuts(t *testing.T, acts []api.Act) {
	t.Helper()
	b, whole := "", 0
	var ends []int
	for _, x := range acts {
		w, e := log.Write(x)
		if e != api.OK {
			t.Fatalf("Write %v has error %d", x, e)
		}
		b += w
		ends = append(ends, len(b))
	}
	for cut := range len(b) + 1 {
		if whole < len(acts) && ends[whole] == cut {
			whole++
		}
		n := 0
		if whole > 0 {
			n = ends[whole-1]
		}
		checkReplay(t, "cut", b[:cut], acts[:whole], n)
	}
}

func TestK2ReplayWhereverItIsCut(t *testing.T) {
	for seed := range uint64(30) {
		checkCuts(t, sample.Acts(seed, 12))
	}
	x, y := plain(), api.Act{Kind: 255, One: strings.Repeat("\x00", 255), Two: strings.Repeat("\xff", 255)}
	checkCuts(t, []api.Act{x, y, {}, {}, x, y, x, {Changes: make([]api.Change, 255)}, {}})
}

// Whatever the kind is, and whatever bytes there are: where all are there, there is an act.
func TestK2ReplayOfAnyBytes(t *testing.T) {
	checkReplay(t, "nothing", "", nil, 0)
	checkReplay(t, "a byte", "\x01", nil, 0)
	checkReplay(t, "no such kind", "\x00\x00\x00\x00\x63\x00\x00\x00", []api.Act{{}, {Kind: 99}}, 8)
	checkReplay(t, "no names", "\x02\x02\xff\n\x01 \x00", []api.Act{{Kind: 2, One: "\xff\n", Two: " "}}, 7)
	great := []api.Change{{Key: 255, Old: 65534, New: 65534}}
	checkReplay(t, "great numbers", "\x01\x00\x00\x01\xff\xff\xff\xff\xff!", []api.Act{{Kind: 1, Changes: great}}, 9)
	checkReplay(t, "a text that ends too early", "\x01\x05main", nil, 0)
	for seed := range uint64(3000) {
		d := sample.Drawer(seed)
		b := make([]byte, d.Next(200))
		for i := range b {
			b[i] = byte(d.Next(4))
		}
		l, n, e := log.Replay(string(b))
		all := ""
		for _, x := range l {
			all += spelt(x)
		}
		if e != api.OK || n != len(all) || all != string(b[:n]) {
			t.Errorf("Replay %q is %v %d (%d)", b, l, n, e)
		}
		if more := complete(b[n:]); more && len(l) < api.MaxActs {
			t.Errorf("Replay %q ends at %d, where there is an act", b, n)
		}
	}
}

// complete tells whether bytes begin with an act, by how long one must be.
func complete(b []byte) bool {
	need := 2
	for _, one := range []int{1, 1, 5} {
		if len(b) < need {
			return false
		}
		need += one*int(b[need-1]) + 1
	}
	return len(b) >= need-1
}

func TestK2AtMostMaxActs(t *testing.T) {
	for _, n := range []int{59, 60, 61, 62, 100, 1000} {
		told := min(n, api.MaxActs)
		checkReplay(t, "small acts", strings.Repeat("\x00\x00\x00\x00", n), make([]api.Act, told), 4*told)
	}
	sixty := strings.Repeat("\x00\x00\x00\x00", 60)
	checkReplay(t, "a part of an act behind", sixty+"\x01", make([]api.Act, 60), 240)
	checkReplay(t, "another act behind", sixty+spelt(plain()), make([]api.Act, 60), 240)
}

func TestK2TooManyBytes(t *testing.T) {
	for _, b := range []string{"\x00", "\x01", "a", "\xff"} {
		l, n, e := log.Replay(strings.Repeat(b, api.MaxBytes+1))
		if len(l) > 0 || n != 0 || e != api.ErrMany {
			t.Errorf("%q: Replay is %v %d (%d)", b, l, n, e)
		}
		r, n, e := log.Recover(strings.Repeat(b, api.MaxBytes+1))
		if !reflect.ValueOf(r).IsZero() || n != 0 || e != api.ErrMany {
			t.Errorf("%q: Recover is %v %d (%d)", b, r, n, e)
		}
	}
	checkReplay(t, "as many as may be", strings.Repeat("\x00", api.MaxBytes), make([]api.Act, 60), 240)
	checkReplay(t, "as many, and no act", strings.Repeat("\xff", 255+255), nil, 0)
	great := api.Act{Changes: make([]api.Change, 255)}
	b := strings.Repeat(spelt(great), 3) + spelt(api.Act{Changes: make([]api.Change, 51)})
	b += strings.Repeat("\xff", api.MaxBytes-len(b))
	checkReplay(t, "great acts", b, []api.Act{great, great, great, {Changes: make([]api.Change, 51)}}, 3*(4+5*255)+4+5*51)
}

// played does acts one behind the other; whoever has an error is left out.
func played(acts []api.Act) api.Repo {
	r := repo.Begin()
	for _, x := range acts {
		if next, e := log.Do(r, x); e == api.OK {
			r = next
		}
	}
	return r
}

// checkRecover wants of Recover a repo, and how many acts there were.
func checkRecover(t *testing.T, b string, want api.Repo, n int) {
	t.Helper()
	r, k, e := log.Recover(b)
	if e != api.OK || k != n || !sample.SameRepo(r, want) {
		t.Errorf("Recover %q is %v %d (%d), not %v %d", b, r, k, e, want, n)
	}
}

// Wherever a log is cut, what is recovered is what was done by the acts that are whole.
func TestK3WhereverALogIsCut(t *testing.T) {
	most := 0
	for seed := range uint64(40) {
		acts := sample.Acts(seed, 60)
		b := ""
		for n, x := range acts {
			want := played(acts[:n])
			next := spelt(x)
			for cut := range next {
				checkRecover(t, b+next[:cut], want, n)
			}
			b += next
		}
		want := played(acts)
		checkRecover(t, b, want, 60)
		checkRecover(t, b+spelt(plain()), want, 60)
		most = max(most, len(want.Commits))
	}
	if most < 6 {
		t.Errorf("there were at most %d commits", most)
	}
}

// An act that has an error changes nothing, and is one of those that are told.
func TestK3ActsWithErrors(t *testing.T) {
	put := spelt(api.Act{Kind: api.ActPut, One: "main", Changes: []api.Change{{Key: 7, Old: api.None, New: 1}}})
	want := api.Repo{Commits: []api.Commit{{}, {Rows: []api.Row{{Key: 7, Val: 1}}, Parents: []int{0}}}, Heads: []api.Head{{Name: "main", At: 1}}}
	checkRecover(t, "", repo.Begin(), 0)
	checkRecover(t, put, want, 1)
	checkRecover(t, put+put, want, 2) // the second one clashes
	checkRecover(t, "\x00\x00\x00\x00"+put, want, 2)
	checkRecover(t, "\x04\x04main\x00\x00"+put+"\x09\x00\x00\x00"+put, want, 4)
	checkRecover(t, strings.Repeat("\x05\x00\x00\x00", 59)+put+put, want, 60)
	checkRecover(t, strings.Repeat("\x05\x00\x00\x00", 60)+put, repo.Begin(), 60)
}

func ExampleWrite() {
	b, e := log.Write(api.Act{Kind: api.ActPut, One: "main", Changes: []api.Change{{Key: 7, Old: 0, New: 1}}})
	fmt.Printf("%q %d\n", b, e)
	// Output:
	// "\x01\x04main\x00\x01\a\x00\x01\x00\x02" 0
}

func ExampleRecover() {
	one, _ := log.Write(api.Act{Kind: api.ActPut, One: "main", Changes: []api.Change{{Key: 7, Old: api.None, New: 1}}})
	two, _ := log.Write(api.Act{Kind: api.ActBranch, One: "side", Two: "main"})
	r, n, e := log.Recover(one + two)
	fmt.Println(r, n, e)
	r, n, e = log.Recover(one + two[:5])
	fmt.Println(r, n, e)
	// Output:
	// {[{[] []} {[{7 1}] [0]}] [{main 1} {side 1}]} 2 0
	// {[{[] []} {[{7 1}] [0]}] [{main 1}]} 1 0
}
