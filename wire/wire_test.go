package wire_test

import (
	"fmt"
	"reflect"
	"strings"
	"testing"

	"pleach/api"
	"pleach/log"
	"pleach/repo"
	"pleach/sample"
	"pleach/wire"
)

// checkBytes wants of Write a text, and of Read of it the repo again.
func checkBytes(t *testing.T, what string, r api.Repo, want string) {
	t.Helper()
	if b, e := wire.Write(r); b != want || e != api.OK {
		t.Errorf("%s: Write is %q (%d), not %q", what, b, e, want)
	}
	if is, e := wire.Read(want); e != api.OK || !sample.SameRepo(is, r) {
		t.Errorf("%s: Read is %v (%d), not %v", what, is, e, r)
	}
}

// checkNoRepo wants of Read an error, and no repo.
func checkNoRepo(t *testing.T, what, b string, want api.Errno) {
	t.Helper()
	if r, e := wire.Read(b); e != want || !reflect.ValueOf(r).IsZero() {
		t.Errorf("%s: Read %.100q is %v (%d), not %d", what, b, r, e, want)
	}
}

// shopBytes are the 41 bytes of the document's twelfth example.
const shopBytes = "\x06" +
	"\x00\x00" +
	"\x03\x02\x00\x05\x07\x00\x00\x09\x00\x1e\x01\x00" +
	"\x00\x01\x00" +
	"\x00\x02\x01\x02" +
	"\x00\x02\x01\x02" +
	"\x00\x00" +
	"\x02\x04main\x03\x04side\x01"

func TestL1TheRepoHas41Bytes(t *testing.T) {
	checkBytes(t, "a shop", sample.Shop(), shopBytes)
	if b, _ := wire.Write(sample.Shop()); len(b) != 41 {
		t.Errorf("it has %d bytes", len(b))
	}
}

func TestL1SmallRepos(t *testing.T) {
	checkBytes(t, "nothing", api.Repo{}, "\x00\x00")
	checkBytes(t, "the beginning", repo.Begin(), "\x01\x00\x00\x01\x04main\x00")
	checkBytes(t, "a commit, and no head", api.Repo{Commits: make([]api.Commit, 1)}, "\x01\x00\x00\x00")
	row := func(key, val int) api.Repo {
		return api.Repo{Commits: []api.Commit{{Rows: []api.Row{{Key: key, Val: val}}}}}
	}
	checkBytes(t, "the least row", row(0, 0), "\x01\x01\x00\x00\x00\x00\x00")
	checkBytes(t, "a value of one byte", row(1, 255), "\x01\x01\x01\x00\xff\x00\x00")
	checkBytes(t, "a value of two bytes", row(98, 256), "\x01\x01\x62\x01\x00\x00\x00")
	checkBytes(t, "the greatest row", row(99, 996), "\x01\x01\x63\x03\xe4\x00\x00")
}

func TestL1WriteOfWrongRepos(t *testing.T) {
	for _, w := range sample.WrongRepos() {
		if b, e := wire.Write(w.Repo); b != "" || e != w.Err {
			t.Errorf("%s: Write is %q (%d), not %d", w.What, b, e, w.Err)
		}
	}
}

// spelt writes a repo number by number, each with as much as may stand there; whether it is right is not asked.
func spelt(r api.Repo) string {
	b := []byte{byte(len(r.Commits))}
	for _, c := range r.Commits {
		b = append(b, byte(len(c.Rows)))
		for _, row := range c.Rows {
			b = append(b, byte(row.Key), byte(row.Val/256), byte(row.Val%256))
		}
		b = append(b, byte(len(c.Parents)))
		for _, p := range c.Parents {
			b = append(b, byte(p))
		}
	}
	b = append(b, byte(len(r.Heads)))
	for _, h := range r.Heads {
		b = append(append(append(b, byte(len(h.Name))), h.Name...), byte(h.At))
	}
	return string(b)
}

// What is not right is not read, be its bytes as they must be; whatever it is, that is ErrForm.
func TestL1ReadOfWrongRepos(t *testing.T) {
	read := 0
	for _, w := range sample.WrongRepos() {
		b := spelt(w.Repo)
		if standsThere(w.Repo) && len(b) <= api.MaxBytes {
			checkNoRepo(t, w.What, b, api.ErrForm)
			read++
		}
	}
	if read < 60 {
		t.Errorf("%d wrong repos were read", read)
	}
}

// standsThere tells whether each number of a repo can stand where it is put.
func standsThere(r api.Repo) bool {
	ok := len(r.Commits) < 256 && len(r.Heads) < 256
	for _, c := range r.Commits {
		ok = ok && len(c.Rows) < 256 && len(c.Parents) < 256
		for _, row := range c.Rows {
			ok = ok && row.Key >= 0 && row.Key < 256 && row.Val >= 0 && row.Val < 65536
		}
		for _, p := range c.Parents {
			ok = ok && p >= 0 && p < 256
		}
	}
	for _, h := range r.Heads {
		ok = ok && len(h.Name) < 256 && h.At >= 0 && h.At < 256
	}
	return ok
}

func TestL1ReadOfWhatEndsTooEarlyOrTooLate(t *testing.T) {
	checkNoRepo(t, "nothing", "", api.ErrForm)
	for _, r := range sample.Repos() {
		b := spelt(r)
		for cut := range b {
			checkNoRepo(t, "cut", b[:cut], api.ErrForm)
		}
		for _, more := range []string{"\x00", "\x01", " ", "\n", b} {
			checkNoRepo(t, "more behind", b+more, api.ErrForm)
		}
	}
}

func TestL1TooManyBytes(t *testing.T) {
	for _, b := range []string{"\x00", "a", "\xff"} {
		checkNoRepo(t, "as many as may be", strings.Repeat(b, api.MaxBytes), api.ErrForm)
		checkNoRepo(t, "one too many", strings.Repeat(b, api.MaxBytes+1), api.ErrMany)
	}
	checkNoRepo(t, "a right one, and too many behind", shopBytes+strings.Repeat("\x00", api.MaxBytes-40), api.ErrMany)
	checkNoRepo(t, "a right one, and others behind", shopBytes+strings.Repeat("\x00", api.MaxBytes-41), api.ErrForm)
}

// The greatest repo has not too many bytes: so whatever is written can be read.
func TestL1TheGreatestRepo(t *testing.T) {
	r := sample.Greatest()
	b, e := wire.Write(r)
	if want := 1 + 14*(1+40*3+1) + 1 + 12*2 + 1 + 4*(1+8+1); len(b) != want || e != api.OK || want > api.MaxBytes {
		t.Errorf("it has %d bytes (%d), not %d", len(b), e, want)
	}
	checkBytes(t, "the greatest", r, spelt(r))
}

// What is written is read as it was.
func TestL2WhatIsWrittenIsReadAsItWas(t *testing.T) {
	for i, r := range sample.Repos() {
		checkBytes(t, fmt.Sprint("repo ", i), r, spelt(r))
	}
	for seed := range uint64(100) {
		r := repo.Begin()
		for _, x := range sample.Acts(seed, 60) {
			if next, e := log.Do(r, x); e == api.OK {
				r = next
				checkBytes(t, fmt.Sprint("acts ", seed), r, spelt(r))
			}
		}
	}
}

// checkNothingElse: what is read is right, and of just these bytes.
func checkNothingElse(t *testing.T, b string) api.Errno {
	t.Helper()
	r, e := wire.Read(b)
	switch e {
	case api.OK:
		if repo.Check(r) != api.OK || spelt(r) != b {
			t.Errorf("Read %q is %v", b, r)
		}
	case api.ErrForm:
		checkNoRepo(t, "none", b, api.ErrForm)
	default:
		t.Errorf("Read %q has error %d", b, e)
	}
	return e
}

// Nothing else is: each byte of a shop turned to each other one, and two bytes turned.
func TestL2NothingElseIs(t *testing.T) {
	seen := map[api.Errno]int{}
	for i := range len(shopBytes) {
		for c := range 256 {
			seen[checkNothingElse(t, shopBytes[:i]+string([]byte{byte(c)})+shopBytes[i+1:])]++
		}
		seen[checkNothingElse(t, shopBytes[:i]+shopBytes[i+1:])]++
		seen[checkNothingElse(t, shopBytes[:i]+"\x00"+shopBytes[i:])]++
	}
	for seed := range uint64(20000) {
		d := sample.Drawer(seed)
		b := []byte(shopBytes)
		for range 2 {
			b[d.Next(len(b))] = byte(d.Next(10))
		}
		seen[checkNothingElse(t, string(b))]++
	}
	if seen[api.OK] < 300 || seen[api.ErrForm] < 300 {
		t.Errorf("there were %v", seen)
	}
}

// Of few bytes all texts are tried: just those that some right repo has are read.
func TestL2EveryShortText(t *testing.T) {
	read := 0
	letters := []byte{0, 1, 2, 'a', 100, 255}
	texts := []string{""}
	for range 5 {
		var longer []string
		for _, b := range texts {
			for _, c := range letters {
				longer = append(longer, b+string([]byte{c}))
			}
		}
		texts = longer
		for _, b := range texts {
			if checkNothingElse(t, b) == api.OK {
				read++
			}
		}
	}
	// No commits; one of no rows, with no head; no others have so few bytes.
	if read != 2 {
		t.Errorf("%d texts were read", read)
	}
	checkBytes(t, "one of seven bytes", api.Repo{Commits: make([]api.Commit, 1), Heads: []api.Head{{Name: "a"}}}, "\x01\x00\x00\x01\x01a\x00")
}

func ExampleWrite() {
	b, e := wire.Write(repo.Begin())
	fmt.Printf("%q %d\n", b, e)
	r, e := wire.Read(b)
	fmt.Println(r, e)
	_, e = wire.Read(b[:5])
	fmt.Println(e)
	// Output:
	// "\x01\x00\x00\x01\x04main\x00" 0
	// {[{[] []}] [{main 0}]} 0
	// 1
}
