package snap

import (
	"math/rand"
	"testing"

	"bedrock/api"
)

var mirror = api.Shape{Data: 1, Level: 1}

// fates are what becomes of the writings of a crash: all are there, none, none can be read, or some of each.
var fates = [][]byte{{1}, {0}, {2}, {1, 2, 0}, {0, 1, 2, 1}}

// play makes sets, commits them, changes much, and commits that, while the disks fail behind so many operations; it tells what was there behind both, and the last error.
func play(t *testing.T, after ...int) (l []*api.Disk, one, two string, err error) {
	t.Helper()
	p, l := made(t, mirror, 3000)
	s, err := Make(p)
	ok(t, err)
	for _, name := range []string{"a", "b", "c"} {
		ok(t, s.New(name, true))
		file(t, treeOf(t, s, name), "x", name)
		ok(t, s.Snap(name, "one"))
	}
	n := bare(t, treeOf(t, s, "a"), "bare")
	ok(t, s.Snap("a", "two"))
	ok(t, s.Commit())
	one = whole(s)
	ok(t, treeOf(t, s, "a").Write(boss, n, 0, []byte("none has it")))
	ok(t, s.Snap("a", "three"))
	ok(t, s.Clone("a", "two", "d"))
	file(t, treeOf(t, s, "d"), "y", "new")
	ok(t, s.DropSnap("a", "two"))
	ok(t, s.Rename("b", "e"))
	ok(t, s.DropSnap("c", "one"))
	ok(t, s.Drop("c"))
	ok(t, s.New("c", false))
	file(t, treeOf(t, s, "a"), "y", "gone again")
	ok(t, s.Rollback("a", "one"))
	ok(t, s.Clone("a", "three", "f"))
	two = whole(s)
	for i, k := range after {
		l[i].Fail(k, 1<<30)
	}
	return l, one, two, s.Commit()
}

// A commit that fails at any operation, or is not safe everywhere, leaves all as it was ahead of it, or behind; and no row is lost.
func TestCrashes(t *testing.T) {
	found := map[bool]int{}
	all := 0 // operations of each disk in a commit
	for err := error(api.ErrDevice); err != nil; all++ {
		_, _, _, err = play(t, all, all)
	}
	for k := range all {
		for f, fate := range fates {
			l, one, two, err := play(t, k, k+f%3)
			l[0].Crash(fate)
			l[1].Crash(fates[(f+k)%len(fates)])
			if k%3 > 0 {
				l[k%3-1].Kill()
			}
			s := reopen(t, l, mirror)
			got := whole(s)
			if got != two && (got != one || err == nil) {
				t.Fatalf("operation %d, fate %v, behind %v: %s", k, fate, err, got)
			}
			found[got == two]++
			dropAll(t, s, rand.New(rand.NewSource(int64(k))))
			for range s.Pool().Blocks() {
				t.Fatalf("operation %d, fate %v: a block is lost", k, fate)
			}
		}
	}
	if found[false] == 0 || found[true] == 0 {
		t.Errorf("both are to be found: %v", found)
	}
}
