package snap

import (
	"fmt"
	"math/rand"
	"slices"
	"testing"

	"bedrock/api"
	"bedrock/fs"
)

// grown makes a tree of so many files, and lets some others have no name.
func grown(t *testing.T, f *fs.FS, files, nameless int) {
	t.Helper()
	for i := range files {
		file(t, f, fmt.Sprint("file", i), fmt.Sprint("what is in file ", i))
	}
	for i := range nameless {
		n, err := f.Walk(boss, 1, fmt.Sprint("file", i*files/nameless), false)
		ok(t, err)
		ok(t, f.Hold(n))
		ok(t, f.Remove(boss, 1, fmt.Sprint("file", i*files/nameless)))
	}
}

// Snap and Clone take few rows, whatever the tree's size, and however many nodes of it have no names.
func TestCheap(t *testing.T) {
	t.Parallel()
	for _, x := range []struct{ files, nameless int }{{0, 0}, {3, 1}, {40, 40}, {300, 0}, {300, 30}, {300, 150}, {3000, 5}} {
		s, _ := begin(t)
		ok(t, s.New("a", false))
		f := treeOf(t, s, "a")
		grown(t, f, x.files, x.nameless)
		used := func() int { return s.Pool().Use().Used }
		most := func(what string, call func() error) {
			t.Helper()
			before := used()
			ok(t, call())
			if more := used() - before; more > 40 {
				t.Errorf("%s of %v takes %d rows", what, x, more)
			}
		}
		for i := range 20 {
			snap, clone := fmt.Sprint("snapshot", i), fmt.Sprint("clone", i)
			most("Snap", func() error { return s.Snap("a", snap) })
			most("Snap, without a change", func() error { return s.Snap("a", snap+"'") })
			most("Clone", func() error { return s.Clone("a", snap, clone) })
			if i%2 > 0 {
				treeOf(t, s, clone)
			}
			most("Snap of a clone", func() error { return s.Snap(clone, snap) })
			most("Clone of a clone", func() error { return s.Clone(clone, snap, clone+"'") })
			most("Snap of a clone of a clone", func() error { return s.Snap(clone+"'", snap) })
			file(t, f, fmt.Sprint("more", i), "more")
		}
	}
}

// What a snapshot and a tree have in common is there once.
func TestShared(t *testing.T) {
	s, _ := begin(t)
	ok(t, s.New("a", false))
	f := treeOf(t, s, "a")
	grown(t, f, 400, 0)
	n, err := f.Walk(boss, 1, "file7", false)
	ok(t, err)
	one := s.Pool().Use().Used
	for i := range 50 {
		ok(t, s.Snap("a", fmt.Sprint(i)))
		ok(t, s.Clone("a", fmt.Sprint(i), fmt.Sprint("clone", i)))
		ok(t, f.Write(boss, n, 0, []byte(fmt.Sprint(i))))
		ok(t, treeOf(t, s, fmt.Sprint("clone", i)).Write(boss, n, 0, []byte(fmt.Sprint(-i))))
	}
	if all := s.Pool().Use().Used; all > one+50*2*60 {
		t.Errorf("a tree has %d rows, with 100 others of which one file differs %d", one, all)
	}
}

// What is reaped when it is looked at is reaped once, for all that have it in common, by whatever call.
func TestReapedOnce(t *testing.T) {
	seen := map[string]func(s *Sets) (*fs.FS, error){
		"Tree(c)":          func(s *Sets) (*fs.FS, error) { return s.Tree("c") },
		"Tree(d)":          func(s *Sets) (*fs.FS, error) { return s.Tree("d") },
		"Tree(e)":          func(s *Sets) (*fs.FS, error) { return s.Tree("e") },
		"At(c, t)":         func(s *Sets) (*fs.FS, error) { return s.At("c", "t") },
		"At(c, u)":         func(s *Sets) (*fs.FS, error) { return s.At("c", "u") },
		"At(d, t)":         func(s *Sets) (*fs.FS, error) { return s.At("d", "t") },
		"Tree(c), went on": func(s *Sets) (*fs.FS, error) { ok(t, s.Rollback("c", "t")); return s.Tree("c") },
	}
	for first := range seen {
		for _, anew := range []bool{false, true} {
			s, disks := begin(t)
			ok(t, s.New("a", false))
			grown(t, treeOf(t, s, "a"), 200, 100)
			ok(t, s.Snap("a", "s"))
			ok(t, s.Clone("a", "s", "c"))
			ok(t, s.Clone("a", "s", "e"))
			ok(t, s.Snap("c", "t"))
			ok(t, s.Snap("c", "u"))
			ok(t, s.Clone("c", "t", "d"))
			ok(t, s.Snap("d", "t"))
			if anew {
				ok(t, s.Commit())
				s = reopen(t, disks, single)
			}
			_, err := seen[first](s)
			ok(t, err)
			f := treeOf(t, s, "c")
			want, used := picture(f), s.Pool().Use().Used
			if q, err := f.Usage(1, 0); err != nil || q != (api.Quota{Nodes: 101, Pages: 100}) || f.Turn() != treeOf(t, s, "a").Turn() {
				t.Fatalf("%s: the clone has %v, behind %d turns", first, q, f.Turn())
			}
			for what, look := range seen {
				g, err := look(s)
				ok(t, err)
				same(t, what+" behind "+first, picture(g), want)
			}
			if now := s.Pool().Use().Used; now != used {
				t.Errorf("%s: %d rows are in use, then %d", first, used, now)
			}
			if g := at(t, s, "a", "s"); picture(g) == want {
				t.Error("the snapshot was reaped")
			}
			for _, name := range []string{"c", "d", "e"} {
				file(t, treeOf(t, s, name), "new", "of "+name)
				same(t, "At(c, t)", picture(at(t, s, "c", "t")), want)
			}
		}
	}
}

// What was looked at in a Try that is undone is as it was told there, and is reaped when it is looked at again, or changed.
func TestReapUndone(t *testing.T) {
	looks := map[string]func(s *Sets) []*fs.FS{
		"Tree": func(s *Sets) []*fs.FS { return []*fs.FS{treeOf(t, s, "c")} },
		"At":   func(s *Sets) []*fs.FS { return []*fs.FS{at(t, s, "c", "t"), at(t, s, "c", "t"), at(t, s, "c", "t")} },
		"all": func(s *Sets) []*fs.FS {
			return []*fs.FS{at(t, s, "c", "t"), treeOf(t, s, "d"), treeOf(t, s, "c"), at(t, s, "d", "t")}
		},
		"Tree, At": func(s *Sets) []*fs.FS { return []*fs.FS{treeOf(t, s, "c"), at(t, s, "c", "t"), at(t, s, "d", "t")} },
		"changed": func(s *Sets) []*fs.FS {
			file(t, treeOf(t, s, "c"), "new", "new")
			return []*fs.FS{treeOf(t, s, "c"), at(t, s, "c", "t"), treeOf(t, s, "d")}
		},
		"rolled back": func(s *Sets) []*fs.FS {
			ok(t, s.Rollback("c", "t"))
			return []*fs.FS{treeOf(t, s, "c"), at(t, s, "c", "t")}
		},
		"dropped": func(s *Sets) []*fs.FS {
			l := []*fs.FS{treeOf(t, s, "c"), at(t, s, "c", "t")}
			ok(t, s.DropSnap("c", "t"))
			ok(t, s.Drop("c"))
			return l
		},
		"called otherwise": func(s *Sets) []*fs.FS {
			ok(t, s.Rename("c", "e"))
			return []*fs.FS{treeOf(t, s, "e"), at(t, s, "e", "t")}
		},
	}
	want := picture(treeOf(t, cloned(t), "c"))
	for what, look := range looks {
		s := cloned(t)
		before := state(s)
		var l []*fs.FS
		is(t, s.Pool().Try(func() error {
			ok(t, s.Pool().Try(func() error { l = look(s); return nil }))
			return api.ErrLoop
		}), api.ErrLoop)
		if state(s) != before {
			t.Errorf("%s undone: %s, was %s", what, state(s), before)
		}
		reapLater(t, s, what, l, want)
	}
}

// cloned makes a set whose tree has many nodes without names, a snapshot of it, a clone of that, a snapshot of the clone, and the same once more.
func cloned(t *testing.T) *Sets {
	t.Helper()
	s, _ := begin(t)
	ok(t, s.New("a", false))
	grown(t, treeOf(t, s, "a"), 100, 50)
	ok(t, s.Snap("a", "s"))
	ok(t, s.Clone("a", "s", "c"))
	ok(t, s.Snap("c", "t"))
	ok(t, s.Clone("c", "t", "d"))
	ok(t, s.Snap("d", "t"))
	return s
}

// reapLater goes on with sets of which l was looked at in a Try that was undone.
func reapLater(t *testing.T, s *Sets, what string, l []*fs.FS, want string) {
	t.Helper()
	tell := func(when string) {
		t.Helper()
		for i, f := range l {
			same(t, fmt.Sprint(what, ", ", i, ", ", when), picture(f), want)
			if _, err := f.Stat(2); f.Held() > 0 || api.Tell(err) != api.ErrNode || api.Tell(f.Hold(2)) != api.ErrNode {
				t.Errorf("%s, %d, %s: a node without names is there: %v", what, i, when, err)
			}
		}
	}
	tell("undone")
	used := s.Pool().Use().Used
	ok(t, s.Snap("c", "u"))
	ok(t, s.Clone("c", "u", "g"))
	if more := s.Pool().Use().Used - used; more > 80 {
		t.Errorf("%s: Snap and Clone take %d rows", what, more)
	}
	tell("snapped")
	ok(t, s.Commit())
	tell("committed")
	var f *fs.FS
	is(t, s.Pool().Try(func() error {
		f = treeOf(t, s, "c")
		file(t, f, "x", "x")
		return api.ErrLoop
	}), api.ErrLoop)
	tell("undone again")
	same(t, what+", the tree", picture(f), want)
	n := file(t, f, "new", "new") // without a further look ahead of it
	l = append(l, at(t, s, "c", "t"), at(t, s, "c", "u"), treeOf(t, s, "g"), treeOf(t, s, "d"))
	l = without(l, f)
	tell("changed")
	if treeOf(t, s, "c") != f {
		t.Errorf("%s: another tree", what)
	}
	if _, err := f.Stat(n); err != nil {
		t.Errorf("%s: %v", what, err)
	}
	ok(t, s.DropSnap("a", "s"))
	a := treeOf(t, s, "a")
	for n := uint64(1); a.Held() > 0; n++ {
		a.Release(n)
	}
	ok(t, s.Drop("a"))
	ok(t, s.Commit())
	tell("at last")
}

// without is a list without one of them.
func without(l []*fs.FS, f *fs.FS) []*fs.FS {
	return slices.DeleteFunc(l, func(g *fs.FS) bool { return g == f })
}

// What was told in a Try that is undone is told, or that it is spoilt, whatever is spoilt then; and how many turns there were is known.
func TestReapUndoneSpoilt(t *testing.T) {
	p, disks := made(t, single, 20000)
	s, err := Make(p)
	ok(t, err)
	ok(t, s.New("a", false))
	grown(t, treeOf(t, s, "a"), 60, 20)
	ok(t, s.Snap("a", "s"))
	ok(t, s.Clone("a", "s", "c"))
	ok(t, s.Snap("c", "t"))
	ok(t, s.Commit())
	turns, met := treeOf(t, s, "a").Turn(), 0
	for i := 0; ; i++ {
		d := disks[0].Copy()
		s := reopen(t, []*api.Disk{d}, single)
		var l []*fs.FS
		is(t, s.Pool().Try(func() error {
			l = []*fs.FS{at(t, s, "c", "t"), treeOf(t, s, "c"), at(t, s, "c", "t")}
			return api.ErrLoop
		}), api.ErrLoop)
		blocks := blocksOf(s)
		if i == len(blocks) {
			break
		}
		d.Spoil(blocks[i].At, 300, 1)
		for _, f := range l {
			if f.Turn() != turns {
				t.Errorf("%d turns, wanted %d", f.Turn(), turns)
			}
			q, err := f.Usage(1, 0)
			if api.Tell(err) == api.ErrSpoilt {
				met++
			} else if err != nil || q != (api.Quota{Nodes: 41, Pages: 40}) {
				t.Errorf("%v, %v", q, err)
			}
			if err := f.Hold(2); api.Tell(err) != api.ErrNode && api.Tell(err) != api.ErrSpoilt {
				t.Errorf("Hold of a node without names: %v", err)
			}
			b, err := f.Read(boss, 3, 0, 100)
			if api.Tell(err) == api.ErrSpoilt {
				met++
			} else if err != nil || string(b) != "what is in file 1" {
				t.Errorf("%q, %v", b, err)
			}
		}
	}
	if met == 0 {
		t.Error("nothing is read")
	}
}

// In whatever order all is dropped, nothing is left; so it is, too, behind a commit.
func TestNothingIsLeft(t *testing.T) {
	for seed := range int64(12) {
		r := rand.New(rand.NewSource(seed))
		s, disks := begin(t)
		before := s.Pool().Use().Used
		for i := range 6 {
			name := fmt.Sprint("set", i)
			if l, _ := s.Names(); i > 0 && r.Intn(2) > 0 {
				from := l[r.Intn(len(l))]
				snap, _ := s.Snaps(from)
				ok(t, s.Clone(from, snap[r.Intn(len(snap))], name))
			} else {
				ok(t, s.New(name, r.Intn(2) > 0))
			}
			for j := range 1 + r.Intn(4) {
				f := treeOf(t, s, name)
				for k := range r.Intn(30) {
					file(t, f, fmt.Sprint(i, j, k), fmt.Sprint("text of ", i, j, k))
				}
				n := lost(t, f, "lost")
				ok(t, s.Snap(name, fmt.Sprint(j)))
				if r.Intn(2) > 0 {
					ok(t, f.Release(n))
				}
				if f.Held() == 0 {
					ok(t, s.Rollback(name, fmt.Sprint(r.Intn(j+1))))
				}
			}
			if r.Intn(2) > 0 {
				ok(t, s.Commit())
			}
		}
		if seed%3 > 0 {
			ok(t, s.Commit())
			s = reopen(t, disks, single)
		}
		dropAll(t, s, r)
		if used := s.Pool().Use().Used; used > before+4 {
			t.Errorf("seed %d: %d rows are in use, were %d", seed, used, before)
		}
		for range s.Pool().Blocks() {
			t.Errorf("seed %d: a block is in use", seed)
		}
		ok(t, s.Commit())
		if used := s.Pool().Use().Used; used > before+4 {
			t.Errorf("seed %d, behind a commit: %d rows are in use, were %d", seed, used, before)
		}
		s = reopen(t, disks, single)
		names(t, s)
		if used := s.Pool().Use(); used.Used > before+4 {
			t.Errorf("seed %d, opened anew: %v, were %d", seed, used, before)
		}
		ok(t, s.New("set1", false))
		snaps(t, s, "set1")
	}
}

// dropAll takes all sets and snapshots away, in whatever order.
func dropAll(t *testing.T, s *Sets, r *rand.Rand) {
	t.Helper()
	for {
		l, err := s.Names()
		if ok(t, err); len(l) == 0 {
			return
		}
		name := l[r.Intn(len(l))]
		if r.Intn(3) == 0 {
			ok(t, s.Commit())
		}
		snap, err := s.Snaps(name)
		if ok(t, err); len(snap) > 0 {
			ok(t, s.DropSnap(name, snap[r.Intn(len(snap))]))
			continue
		}
		f := treeOf(t, s, name)
		for n := uint64(1); f.Held() > 0; n++ {
			if err := f.Release(n); err != nil && api.Tell(err) != api.ErrNode && api.Tell(err) != api.ErrOrder {
				t.Fatal(err)
			}
		}
		ok(t, s.Drop(name))
	}
}

// A number that was given is never given again, also if nothing is left of what had it.
func TestNumbersGoOn(t *testing.T) {
	s, disks := begin(t)
	ok(t, s.New("a", false))
	ok(t, s.Snap("a", "one"))
	ok(t, s.DropSnap("a", "one"))
	ok(t, s.Drop("a"))
	ok(t, s.Commit())
	last := s.last
	s = reopen(t, disks, single)
	ok(t, s.New("b", false))
	x, err := s.set("b")
	if ok(t, err); x.number <= last {
		t.Errorf("number %d, behind %d", x.number, last)
	}
}

// Where a tree was reaped with another one, how many turns it has is known, or it is told that something is spoilt.
func TestTurnsOfReaped(t *testing.T) {
	s, disks := begin(t)
	ok(t, s.New("a", false))
	grown(t, treeOf(t, s, "a"), 60, 20)
	ok(t, s.Snap("a", "s"))
	ok(t, s.Clone("a", "s", "c"))
	ok(t, s.Clone("a", "s", "d"))
	ok(t, s.Commit())
	want, met := treeOf(t, s, "a").Turn(), 0
	for i := 0; ; i++ {
		d := disks[0].Copy()
		s := reopen(t, []*api.Disk{d}, single)
		treeOf(t, s, "c")
		ok(t, s.Commit())
		l := blocksOf(s)
		if i == len(l) {
			break
		}
		d.Spoil(l[i].At, 300, 1)
		f, err := s.Tree("d")
		if err != nil {
			is(t, err, api.ErrSpoilt)
			met++
		} else if f.Turn() != want {
			t.Errorf("%d turns, wanted %d", f.Turn(), want)
		}
	}
	if met == 0 || met > 3 {
		t.Errorf("%d blocks are read to answer a tree that is known", met)
	}
}
