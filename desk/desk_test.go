package desk_test

import (
	"fmt"
	"strings"
	"testing"

	"pleach/api"
	"pleach/desk"
	"pleach/sample"
	"pleach/tree"
)

// checkPlay wants of a script of lines what each of them gives.
func checkPlay(t *testing.T, what string, pairs ...[2]string) {
	t.Helper()
	var script, want string
	for _, p := range pairs {
		script += p[0] + "\n"
		want += p[1] + "\n"
	}
	got, e := desk.Play(script)
	if e != api.OK {
		t.Errorf("%s: it has error %d", what, e)
	}
	if got == want {
		return
	}
	lines := strings.Split(got, "\n")
	for i, p := range pairs {
		if i >= len(lines) || lines[i] != p[1] {
			t.Errorf("%s: %q gives %q, not %q", what, p[0], lines[min(i, len(lines)-1)], p[1])
		}
	}
	if len(lines) != len(pairs)+1 {
		t.Errorf("%s: it gives %q", what, got)
	}
}

// checkNoPlay wants of a script an error, and nothing told.
func checkNoPlay(t *testing.T, what, script string, want api.Errno) {
	t.Helper()
	if got, e := desk.Play(script); got != "" || e != want {
		t.Errorf("%s: it is %.100q (%d), not %d", what, got, e, want)
	}
}

func TestM1ScriptsThatAreNone(t *testing.T) {
	checkNoPlay(t, "no line feed", "rows main", api.ErrForm)
	checkNoPlay(t, "no line feed behind the last", "rows main\nrows main", api.ErrForm)
	checkNoPlay(t, "a blank behind the last", "rows main\n ", api.ErrForm)
	checkNoPlay(t, "another end of a line", "rows main\r", api.ErrForm)
	checkNoPlay(t, "as many bytes as may be", strings.Repeat("x", api.MaxBytes), api.ErrForm)
	checkNoPlay(t, "too many bytes", strings.Repeat("x", api.MaxBytes)+"\n", api.ErrMany)
	checkNoPlay(t, "too many bytes, and no line feed", strings.Repeat("x", api.MaxBytes+1), api.ErrMany)
	checkNoPlay(t, "too many lines", strings.Repeat("root main\n", 61), api.ErrMany)
	checkNoPlay(t, "too many lines, of nothing", strings.Repeat("\n", 61), api.ErrMany)
	checkNoPlay(t, "too many lines, and no line feed", strings.Repeat("\n", 61)+"x", api.ErrMany)
	checkNoPlay(t, "as many lines as may be, and no line feed", strings.Repeat("\n", 60)+"x", api.ErrForm)
}

func TestM1AsMuchAsMayBe(t *testing.T) {
	if got, e := desk.Play(""); got != "" || e != api.OK {
		t.Errorf("nothing gives %q (%d)", got, e)
	}
	checkPlay(t, "as many bytes as may be", [2]string{strings.Repeat("x", api.MaxBytes-1), "error 1"})
	for _, c := range [][2]string{{"root main", "1"}, {"", "error 1"}, {"log main", "0"}} {
		if got, e := desk.Play(strings.Repeat(c[0]+"\n", 60)); got != strings.Repeat(c[1]+"\n", 60) || e != api.OK {
			t.Errorf("%q gives %q (%d)", c[0], got, e)
		}
	}
	long := "rows " + strings.Repeat("h", api.MaxBytes/2-6)
	checkPlay(t, "as many bytes as may be, of two lines", [2]string{long, "error 5"}, [2]string{long, "error 5"})
}

func TestM1InTheBeginning(t *testing.T) {
	checkPlay(t, "main is there, and has nothing",
		[2]string{"rows main", "-"}, [2]string{"root main", "1"}, [2]string{"log main", "0"}, [2]string{"diff main main", "-"})
}

// The document's thirteenth example: of three keys that differ all are told; merged, all are there.
func TestM1ThreeKeysThatDiffer(t *testing.T) {
	checkPlay(t, "two that part",
		[2]string{"put main 3 7", "ok"},
		[2]string{"branch b main", "ok"},
		[2]string{"put main 5 1", "ok"},
		[2]string{"put b 3 8", "ok"},
		[2]string{"put b 9 2", "ok"},
		[2]string{"diff main b", "3:7>8 5:1>- 9:->2"},
		[2]string{"diff b main", "3:8>7 5:->1 9:2>-"},
		[2]string{"merge main b", "ok"},
		[2]string{"rows main", "3=8 5=1 9=2"},
		[2]string{"rows b", "3=8 9=2"},
		[2]string{"log main", "5 4 3 2 1 0"},
		[2]string{"log b", "4 3 1 0"},
		[2]string{"merge main b", "error 9"},
		[2]string{"merge b main", "ok"},
		[2]string{"log b", "5 4 3 2 1 0"},
		[2]string{"diff main b", "-"},
	)
}

func TestM1PutAndCut(t *testing.T) {
	checkPlay(t, "put and cut",
		[2]string{"put main 7 0", "ok"},
		[2]string{"rows main", "7=0"},
		[2]string{"put main 7 0", "error 9"},
		[2]string{"put main 7 996", "ok"},
		[2]string{"put main 0 1", "ok"},
		[2]string{"put main 99 2", "ok"},
		[2]string{"rows main", "0=1 7=996 99=2"},
		[2]string{"cut main 7", "ok"},
		[2]string{"cut main 7", "error 9"},
		[2]string{"cut main 8", "error 9"},
		[2]string{"rows main", "0=1 99=2"},
		[2]string{"cut main 0", "ok"},
		[2]string{"cut main 99", "ok"},
		[2]string{"rows main", "-"},
		[2]string{"log main", "7 6 5 4 3 2 1 0"},
	)
}

func TestM1Heads(t *testing.T) {
	checkPlay(t, "branch and drop",
		[2]string{"branch side main", "ok"},
		[2]string{"branch side main", "error 6"},
		[2]string{"branch main side", "error 6"},
		[2]string{"branch new none", "error 5"},
		[2]string{"branch New none", "error 5"},
		[2]string{"branch New main", "error 4"},
		[2]string{"branch ninebytes main", "error 4"},
		[2]string{"branch a1 main", "error 4"},
		[2]string{"branch a\xff main", "error 4"},
		[2]string{"branch a\t main", "error 4"},
		[2]string{"branch a side", "ok"},
		[2]string{"branch b a", "ok"},
		[2]string{"branch c b", "error 2"},
		[2]string{"drop side", "ok"},
		[2]string{"drop side", "error 5"},
		[2]string{"branch c b", "ok"},
		[2]string{"drop main", "ok"},
		[2]string{"rows main", "error 5"},
		[2]string{"drop a", "ok"},
		[2]string{"drop b", "ok"},
		[2]string{"drop c", "error 1"},
		[2]string{"log c", "0"},
	)
}

// Merges that clash tell the keys, and change nothing.
func TestM1Clash(t *testing.T) {
	checkPlay(t, "a clash",
		[2]string{"put main 1 1", "ok"},
		[2]string{"branch b main", "ok"},
		[2]string{"put main 1 2", "ok"},
		[2]string{"put b 1 3", "ok"},
		[2]string{"merge main b", "clash 1"},
		[2]string{"put main 50 5", "ok"},
		[2]string{"put b 50 6", "ok"},
		[2]string{"merge main b", "clash 1 50"},
		[2]string{"merge b main", "clash 1 50"},
		[2]string{"rows main", "1=2 50=5"},
		[2]string{"rows b", "1=3 50=6"},
		[2]string{"log main", "4 2 1 0"},
		[2]string{"log b", "5 3 1 0"},
		[2]string{"put b 1 2", "ok"},
		[2]string{"merge main b", "clash 50"},
		[2]string{"cut b 50", "ok"},
		[2]string{"merge main b", "ok"},
		[2]string{"rows main", "1=2 50=5"},
	)
}

// Each call's own errors; of put and cut ErrNone, then ErrRange, then ErrSame, then those of Put.
func TestM1ErrorsInOrder(t *testing.T) {
	checkPlay(t, "no such head, out of range",
		[2]string{"put none 100 997", "error 5"}, [2]string{"cut none 100", "error 5"}, [2]string{"put none 1 1", "error 5"},
		[2]string{"put main 100 1", "error 3"}, [2]string{"put main 1 997", "error 3"}, [2]string{"put main 999999 999999", "error 3"},
		[2]string{"cut main 100", "error 3"}, [2]string{"cut main 999999", "error 3"}, [2]string{"cut main 99", "error 9"},
		[2]string{"put main 99 996", "ok"}, [2]string{"put main 99 996", "error 9"}, [2]string{"put main 99 997", "error 3"},
		[2]string{"merge none main", "error 5"}, [2]string{"merge main none", "error 5"}, [2]string{"merge main main", "error 9"},
		[2]string{"drop none", "error 5"}, [2]string{"drop main", "error 1"}, [2]string{"rows none", "error 5"},
		[2]string{"root none", "error 5"}, [2]string{"log none", "error 5"}, [2]string{"diff none main", "error 5"},
		[2]string{"diff main none", "error 5"}, [2]string{"diff none none", "error 5"}, [2]string{"rows main", "99=996"},
	)
}

func TestM1TooManyCommits(t *testing.T) {
	pairs := [][2]string{{"branch b main", "ok"}}
	for n := range 6 {
		pairs = append(pairs, [2]string{fmt.Sprint("put main 1 ", n), "ok"}, [2]string{fmt.Sprint("put b 2 ", n), "ok"})
	}
	pairs = append(pairs, [2]string{"branch c b", "ok"}, [2]string{"merge c main", "ok"},
		[2]string{"put main 1 5", "error 9"}, [2]string{"put main 1 4", "error 2"}, [2]string{"cut main 1", "error 2"},
		[2]string{"cut main 2", "error 9"}, [2]string{"put main 1 997", "error 3"}, [2]string{"put none 1 1", "error 5"},
		[2]string{"merge main b", "error 2"}, [2]string{"merge main c", "ok"}, [2]string{"rows main", "1=5 2=5"},
		[2]string{"log main", "13 12 11 10 9 8 7 6 5 4 3 2 1 0"})
	checkPlay(t, "as many as may be", pairs...)
}

// Few rows are one chunk: its Sum is the Root. Of more there is another level.
func TestM1RootIsTheTreesRoot(t *testing.T) {
	pairs := [][2]string{
		{"put main 2 5", "ok"}, {"root main", "51"}, // 31 * 1 + 7 * 2 + 5 + 1
		{"put main 7 0", "ok"}, {"put main 9 30", "ok"}, {"root main", "805"},
	}
	checkPlay(t, "three rows", pairs...)
	pairs = nil
	for _, row := range sample.Twelve() {
		pairs = append(pairs, [2]string{fmt.Sprint("put main ", row.Key, " ", row.Val), "ok"})
	}
	root, _ := tree.Root(sample.Tree(sample.Twelve()))
	checkPlay(t, "twelve rows", append(pairs, [2]string{"root main", fmt.Sprint(root)})...)
}

func ExamplePlay() {
	script := "put main 3 7\nbranch side main\nput main 3 8\nput side 3 9\nmerge main side\nrows main\ndiff main side\nlog side\nroot none\n"
	told, e := desk.Play(script)
	fmt.Println(told, e)
	// Output:
	// ok
	// ok
	// ok
	// ok
	// clash 3
	// 3=8
	// 3:8>9
	// 3 1 0
	// error 5
	//  0
}
