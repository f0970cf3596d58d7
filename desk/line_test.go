package desk_test

import (
	"fmt"
	"regexp"
	"strconv"
	"strings"
	"testing"

	"pleach/api"
	"pleach/desk"
	"pleach/diff"
	"pleach/repo"
	"pleach/rows"
	"pleach/sample"
	"pleach/tree"
	"pleach/work"
)

// checkLine wants what a line gives, behind lines that have two heads part.
func checkLine(t *testing.T, line, want string) {
	t.Helper()
	ahead := "put main 5 6\nbranch b main\nput b 5 7\n"
	if got, e := desk.Play(ahead + line + "\n"); got != "ok\nok\nok\n"+want+"\n" || e != api.OK {
		t.Errorf("%q gives %q (%d), not %q", line, got, e, want)
	}
}

// rightLines has a line of each kind, and what it gives.
func rightLines() map[string]string {
	return map[string]string{
		"put main 1 2": "ok", "cut main 5": "ok", "branch c main": "ok", "drop b": "ok", "merge main b": "ok",
		"rows main": "5=6", "root main": "73", "log b": "2 1 0", "diff main b": "5:6>7",
	}
}

// A line that has a word too many or too few, or other blanks between them, is none.
func TestM1WordsArePartedByOneBlank(t *testing.T) {
	for line, want := range rightLines() {
		checkLine(t, line, want)
		words := strings.Split(line, " ")
		for i := range words {
			checkLine(t, strings.Join(words[:i], " "), "error 1")
			checkLine(t, strings.Join(append(append([]string{}, words[:i]...), words[i+1:]...), " "), "error 1")
			checkLine(t, strings.Join(words[:i], " ")+"  "+strings.Join(words[i:], " "), "error 1")
			checkLine(t, strings.Join(words[:i], " ")+"\t"+strings.Join(words[i:], " "), "error 1")
			emptied := append([]string{}, words...)
			emptied[i] = ""
			checkLine(t, strings.Join(emptied, " "), "error 1")
		}
		for _, more := range []string{" ", "  ", " main", " 1", " \x00"} {
			checkLine(t, line+more, "error 1")
		}
		for _, turned := range []string{" " + line, "\t" + line, strings.ToUpper(line), "x" + line, line[1:], "\ufeff" + line} {
			checkLine(t, turned, "error 1")
		}
	}
	for _, line := range []string{"", " ", "  ", "\r", "\x00", "x", "put", "main", "merges main b", "row main", "ok", "clash 1", "begin", "head main"} {
		checkLine(t, line, "error 1")
	}
}

// HEAD is a word, of any bytes: that it is no head the call tells.
func TestM1HeadsAreWords(t *testing.T) {
	for _, name := range []string{"none", "Main", "main\r", "main\t", "\x00", "\xff", "é", "1", "-", "=", "ninebytes", strings.Repeat("z", 500)} {
		for _, line := range []string{"rows %", "root %", "log %", "drop %", "diff % main", "diff main %", "merge % main", "merge main %", "branch c %", "put % 1 1", "cut % 1"} {
			checkLine(t, strings.ReplaceAll(line, "%", name), "error 5")
		}
	}
	for _, name := range []string{"Main", "main\r", "\x00", "\xff", "é", "1", "-", "ninebytes"} {
		checkLine(t, "branch "+name+" main", "error 4")
	}
}

// Numbers are decimal digits without sign, without 0 ahead, at most six.
func TestM1Numbers(t *testing.T) {
	for _, n := range []string{"0", "7", "10", "99"} {
		checkLine(t, "put main "+n+" 1", "ok")
		checkLine(t, "put main 1 "+n, "ok")
	}
	checkLine(t, "cut main 0", "error 9")
	for _, n := range []string{"100", "997", "1000", "10000", "100000", "999999"} {
		checkLine(t, "put main "+n+" 1", "error 3")
		checkLine(t, "cut main "+n, "error 3")
	}
	for _, n := range []string{"997", "1000", "10000", "100000", "999999"} {
		checkLine(t, "put main 1 "+n, "error 3")
	}
	for _, n := range []string{
		"00", "01", "000000", "000001", "0000001", "1000000", "9999999", "99999999999999999999999999", "+1", "-1", "-0", "+0", "-",
		"1.", "1.0", "1e1", "0x1", "1_0", "a", "1a", "a1", "1\r", "1\t", "\x001", "１", "٣", "None", "=", "1-",
	} {
		checkLine(t, "put main "+n+" 1", "error 1")
		checkLine(t, "put main 1 "+n, "error 1")
		checkLine(t, "put none 1 "+n, "error 1") // ahead of what the call tells
		checkLine(t, "put main 100 "+n, "error 1")
		checkLine(t, "cut main "+n, "error 1")
		checkLine(t, "cut none "+n, "error 1")
	}
}

// forms of lines, with H for a head and N for a number.
func forms() []*regexp.Regexp {
	var l []*regexp.Regexp
	for _, form := range []string{"(put) H N N", "(cut) H N", "(branch|merge|diff) H H", "(drop|rows|root|log) H"} {
		form = strings.NewReplacer("H", `([^ ]+)`, "N", `(0|[1-9][0-9]{0,5})`).Replace(form)
		l = append(l, regexp.MustCompile("^"+form+"$"))
	}
	return l
}

var lineForms = forms()

// words of a line, if it is one of these.
func words(line string) []string {
	for _, form := range lineForms {
		if w := form.FindStringSubmatch(line); w != nil {
			return w[1:]
		}
	}
	return nil
}

// rowsOf a head that is there.
func rowsOf(r api.Repo, name string) []api.Row {
	n, _ := repo.Head(r, name)
	return r.Commits[n].Rows
}

// wanted tells what a line must do and give, in the words of the promise.
func wanted(r api.Repo, line string) (api.Repo, string) {
	w := words(line)
	if w == nil {
		return r, "error 1"
	}
	if w[0] != "branch" { // its first one need not be there
		if _, e := repo.Head(r, w[1]); e != api.OK {
			return r, "error 5"
		}
	}
	switch w[0] {
	case "put", "cut":
		return wantedChange(r, w)
	case "branch":
		next, e := work.Branch(r, w[1], w[2])
		return turned(r, next, e)
	case "drop":
		next, e := work.Drop(r, w[1])
		return turned(r, next, e)
	case "merge":
		next, clash, e := work.Merge(r, w[1], w[2])
		if e == api.ErrClash {
			return r, "clash " + strings.Trim(fmt.Sprint(clash), "[]")
		}
		return turned(r, next, e)
	}
	return r, wantedLook(r, w)
}

// turned is the repo as it is behind a call, and what is given.
func turned(was, is api.Repo, e api.Errno) (api.Repo, string) {
	if e != api.OK {
		return was, fmt.Sprintf("error %d", e)
	}
	return is, "ok"
}

func wantedChange(r api.Repo, w []string) (api.Repo, string) {
	key, _ := strconv.Atoi(w[2])
	val := api.None
	if w[0] == "put" {
		val, _ = strconv.Atoi(w[3])
	}
	if key > 99 || val > 996 {
		return r, "error 3"
	}
	old, _ := rows.Find(rowsOf(r, w[1]), key)
	if old == val {
		return r, "error 9"
	}
	next, e := work.Put(r, w[1], []api.Change{{Key: key, Old: old, New: val}})
	return turned(r, next, e)
}

// wantedLook tells what is given by a line that changes nothing.
func wantedLook(r api.Repo, w []string) string {
	var l []string
	one, _ := tree.Build(rowsOf(r, w[1]))
	switch w[0] {
	case "rows":
		for _, row := range rowsOf(r, w[1]) {
			l = append(l, fmt.Sprintf("%d=%d", row.Key, row.Val))
		}
	case "root":
		n, _ := tree.Root(one)
		l = append(l, fmt.Sprint(n))
	case "log":
		log, _ := repo.Log(r, w[1])
		l = strings.Fields(strings.Trim(fmt.Sprint(log), "[]"))
	case "diff":
		if _, e := repo.Head(r, w[2]); e != api.OK {
			return "error 5"
		}
		other, _ := tree.Build(rowsOf(r, w[2]))
		d, _ := diff.Of(one, other)
		for _, c := range d {
			l = append(l, strings.ReplaceAll(fmt.Sprintf("%d:%d>%d", c.Key, c.Old, c.New), "-1", "-"))
		}
	}
	if len(l) == 0 {
		return "-"
	}
	return strings.Join(l, " ")
}

// drawnLine has a line that is mostly one of these, with few heads, keys and values: so that many lines have no error.
func drawnLine(d *sample.Drawer) string {
	names := []string{"main", "main", "main", "main", "main", "b", "b", "b", "b", "c", "d", "e", "N"}
	forms := []string{
		"put H N V", "put H N V", "put H N V", "put H N V", "put H N V", "put H N V", "cut H N", "branch H H", "branch H H",
		"merge H H", "merge H H", "rows H", "root H", "log H", "diff H H", "drop H",
	}
	if d.Next(3) > 0 {
		forms = forms[:15]
	}
	var line strings.Builder
	for _, c := range forms[d.Next(len(forms))] {
		switch c {
		case 'H':
			line.WriteString(names[d.Next(len(names))])
		case 'N':
			line.WriteString(strconv.Itoa([]int{1, 1, 1, 1, 2, 2, 99, 100}[d.Next(8)]))
		case 'V':
			line.WriteString(strconv.Itoa([]int{0, 1, 2, 3, 4, 5, 996, 997}[d.Next(8)]))
		default:
			line.WriteRune(c)
		}
	}
	return slip(d, line.String())
}

// slip has one byte more, less or another in one of some lines.
func slip(d *sample.Drawer, line string) string {
	at := d.Next(len(line))
	other := []string{" ", "0", "-", "9", "a", "m", "N", "\t", "\xff"}[d.Next(9)]
	switch d.Next(40) {
	case 0:
		return line[:at] + line[at+1:]
	case 1:
		return line[:at] + other + line[at:]
	case 2:
		return line[:at] + other + line[at+1:]
	}
	return line
}

func TestM2DrawnScripts(t *testing.T) {
	seen := map[string]int{}
	for seed := range uint64(1500) {
		d := sample.Drawer(seed)
		script, want := "", ""
		r := repo.Begin()
		for range 1 + d.Next(60) {
			line := drawnLine(&d)
			next, given := wanted(r, line)
			r = next
			script += line + "\n"
			want += given + "\n"
			seen[strings.Split(line, " ")[0]+" "+strings.Join(strings.Split(given+"  ", " ")[:2], " ")]++
		}
		if got, e := desk.Play(script); got != want || e != api.OK {
			t.Fatalf("%q gives %q (%d), not %q", script, got, e, want)
		}
	}
	for _, what := range []string{
		"put ok ", "put error 1", "put error 2", "put error 3", "put error 5", "put error 9", "cut ok ", "cut error 2", "cut error 3",
		"cut error 5", "cut error 9", "branch ok ", "branch error 2", "branch error 4", "branch error 5", "branch error 6", "drop ok ",
		"drop error 1", "drop error 5", "merge ok ", "merge clash 1", "merge error 2", "merge error 5", "merge error 9", "rows - ",
		"rows error 5", "root 1 ", "root error 5", "log 0 ", "log error 5", "diff - ", "diff error 5", "diff error 1",
	} {
		if seen[what] < 5 {
			t.Errorf("%d lines gave %q", seen[what], what)
		}
	}
}

// A script that goes on gives what it gave, and more: no line tells of those behind it.
func TestM2EachLineGivesOneLine(t *testing.T) {
	for seed := range uint64(50) {
		d := sample.Drawer(seed)
		var lines []string
		for range 60 {
			lines = append(lines, drawnLine(&d)+"\n")
		}
		all, _ := desk.Play(strings.Join(lines, ""))
		if strings.Count(all, "\n") != 60 {
			t.Errorf("60 lines give %q", all)
		}
		for n := range lines {
			got, e := desk.Play(strings.Join(lines[:n], ""))
			if e != api.OK || strings.Count(got, "\n") != n || !strings.HasPrefix(all, got) {
				t.Errorf("%d lines give %q (%d), and all give %q", n, got, e, all)
			}
		}
	}
}
