package snap

import (
	"fmt"
	"math/rand"
	"testing"

	"bedrock/api"
	"bedrock/fs"
)

// grown makes a tree of so many files, and lets some others have no name.
func grown(t *testing.T, f *fs.FS, files, nameless int) {
	t.Helper()
	for i := range files {
		file(t, f, fmt.Sprint("file", i), fmt.Sprint("what is in file ", i))
	}
	for i := range nameless {
		n, err := f.Walk(boss, 1, fmt.Sprint("file", i*files/nameless), false)
		ok(t, err)
		ok(t, f.Hold(n))
		ok(t, f.Remove(boss, 1, fmt.Sprint("file", i*files/nameless)))
	}
}

// Snap and Clone take few rows, whatever the tree's size, and however many nodes of it have no names.
func TestCheap(t *testing.T) {
	t.Parallel()
	for _, x := range []struct{ files, nameless int }{{0, 0}, {3, 1}, {40, 40}, {300, 0}, {300, 30}, {3000, 5}} {
		s, _ := begin(t)
		ok(t, s.New("a", false))
		f := treeOf(t, s, "a")
		grown(t, f, x.files, x.nameless)
		used := func() int { return s.Pool().Use().Used }
		most := func(what string, call func() error) {
			t.Helper()
			before := used()
			ok(t, call())
			if more := used() - before; more > 40 {
				t.Errorf("%s of %v takes %d rows", what, x, more)
			}
		}
		for i := range 20 {
			snap, clone := fmt.Sprint("snapshot", i), fmt.Sprint("clone", i)
			most("Snap", func() error { return s.Snap("a", snap) })
			most("Snap, without a change", func() error { return s.Snap("a", snap+"'") })
			most("Clone", func() error { return s.Clone("a", snap, clone) })
			treeOf(t, s, clone)
			most("Snap of a clone", func() error { return s.Snap(clone, snap) })
			most("Clone of a clone", func() error { return s.Clone(clone, snap, clone+"'") })
			file(t, f, fmt.Sprint("more", i), "more")
		}
	}
}

// What a snapshot and a tree have in common is there once.
func TestShared(t *testing.T) {
	s, _ := begin(t)
	ok(t, s.New("a", false))
	f := treeOf(t, s, "a")
	grown(t, f, 400, 0)
	n, err := f.Walk(boss, 1, "file7", false)
	ok(t, err)
	one := s.Pool().Use().Used
	for i := range 50 {
		ok(t, s.Snap("a", fmt.Sprint(i)))
		ok(t, s.Clone("a", fmt.Sprint(i), fmt.Sprint("clone", i)))
		ok(t, f.Write(boss, n, 0, []byte(fmt.Sprint(i))))
		ok(t, treeOf(t, s, fmt.Sprint("clone", i)).Write(boss, n, 0, []byte(fmt.Sprint(-i))))
	}
	if all := s.Pool().Use().Used; all > one+50*2*60 {
		t.Errorf("a tree has %d rows, with 100 others of which one file differs %d", one, all)
	}
}

// In whatever order all is dropped, nothing is left; so it is, too, behind a commit.
func TestNothingIsLeft(t *testing.T) {
	for seed := range int64(12) {
		r := rand.New(rand.NewSource(seed))
		s, disks := begin(t)
		before := s.Pool().Use().Used
		for i := range 6 {
			name := fmt.Sprint("set", i)
			if l, _ := s.Names(); i > 0 && r.Intn(2) > 0 {
				from := l[r.Intn(len(l))]
				snap, _ := s.Snaps(from)
				ok(t, s.Clone(from, snap[r.Intn(len(snap))], name))
			} else {
				ok(t, s.New(name, r.Intn(2) > 0))
			}
			for j := range 1 + r.Intn(4) {
				f := treeOf(t, s, name)
				for k := range r.Intn(30) {
					file(t, f, fmt.Sprint(i, j, k), fmt.Sprint("text of ", i, j, k))
				}
				n := lost(t, f, "lost")
				ok(t, s.Snap(name, fmt.Sprint(j)))
				if r.Intn(2) > 0 {
					ok(t, f.Release(n))
				}
				if f.Held() == 0 {
					ok(t, s.Rollback(name, fmt.Sprint(r.Intn(j+1))))
				}
			}
			if r.Intn(2) > 0 {
				ok(t, s.Commit())
			}
		}
		if seed%3 > 0 {
			ok(t, s.Commit())
			s = reopen(t, disks, single)
		}
		dropAll(t, s, r)
		if used := s.Pool().Use().Used; used > before+4 {
			t.Errorf("seed %d: %d rows are in use, were %d", seed, used, before)
		}
		for range s.Pool().Blocks() {
			t.Errorf("seed %d: a block is in use", seed)
		}
		ok(t, s.Commit())
		if used := s.Pool().Use().Used; used > before+4 {
			t.Errorf("seed %d, behind a commit: %d rows are in use, were %d", seed, used, before)
		}
		s = reopen(t, disks, single)
		names(t, s)
		if used := s.Pool().Use(); used.Used > before+4 {
			t.Errorf("seed %d, opened anew: %v, were %d", seed, used, before)
		}
		ok(t, s.New("set1", false))
		snaps(t, s, "set1")
	}
}

// dropAll takes all sets and snapshots away, in whatever order.
func dropAll(t *testing.T, s *Sets, r *rand.Rand) {
	t.Helper()
	for {
		l, err := s.Names()
		if ok(t, err); len(l) == 0 {
			return
		}
		name := l[r.Intn(len(l))]
		if r.Intn(3) == 0 {
			ok(t, s.Commit())
		}
		snap, err := s.Snaps(name)
		if ok(t, err); len(snap) > 0 {
			ok(t, s.DropSnap(name, snap[r.Intn(len(snap))]))
			continue
		}
		f := treeOf(t, s, name)
		for n := uint64(1); f.Held() > 0; n++ {
			if err := f.Release(n); err != nil && api.Tell(err) != api.ErrNode && api.Tell(err) != api.ErrOrder {
				t.Fatal(err)
			}
		}
		ok(t, s.Drop(name))
	}
}

// A number that was given is never given again, also if nothing is left of what had it.
func TestNumbersGoOn(t *testing.T) {
	s, disks := begin(t)
	ok(t, s.New("a", false))
	ok(t, s.Snap("a", "one"))
	ok(t, s.DropSnap("a", "one"))
	ok(t, s.Drop("a"))
	ok(t, s.Commit())
	last := s.last
	s = reopen(t, disks, single)
	ok(t, s.New("b", false))
	x, err := s.set("b")
	if ok(t, err); x.number <= last {
		t.Errorf("number %d, behind %d", x.number, last)
	}
}
