package flow

import (
	"bytes"
	"errors"
	"fmt"
	"slices"
	"strings"
	"testing"

	"bedrock/api"
	"bedrock/fs"
	"bedrock/pool"
	"bedrock/snap"
)

var bad = []string{".", "..", "a/b", "a\x00b", strings.Repeat("n", 41)}

// state is all that is in use.
func state(s *snap.Sets) string {
	var l []string
	for x, n := range s.Pool().Blocks() {
		l = append(l, fmt.Sprint(x, n))
	}
	return fmt.Sprint(s.Pool().Use(), l)
}

// pair is a sender with the snapshots one, two, three of a, and a receiver that has one and two of them, in b.
func pair(t *testing.T) (s, r *snap.Sets) {
	t.Helper()
	s, r = begin(t, 1), begin(t, 2)
	ok(t, s.New("a", false))
	f := treeOf(t, s, "a")
	for _, shot := range []string{"one", "two", "three"} {
		file(t, f, shot, "text of "+shot)
		if shot == "two" {
			ok(t, f.Release(lost(t, f, "lost", "gone")))
			lost(t, f, "lost", "is still there")
		}
		ok(t, s.Snap("a", shot))
	}
	ok(t, Receive(r, sent(t, s, "a", "", "one"), "b", "one"))
	ok(t, Receive(r, sent(t, s, "a", "one", "two"), "b", "two"))
	return s, r
}

func TestSendRefuses(t *testing.T) {
	s, _ := pair(t)
	ok(t, s.New("empty", true))
	before := state(s)
	refused := func(name, from, to string, want error) {
		t.Helper()
		b, err := Send(s, name, from, to)
		if !errors.Is(err, want) || b != nil {
			t.Errorf("Send(%q, %q, %q): %d bytes, %v, wanted %v", name, from, to, len(b), err, want)
		}
	}
	for _, x := range bad {
		for _, other := range []string{"a", "one", "no", "empty"} {
			refused(x, other, other, api.ErrName)
			refused(other, x, other, api.ErrName)
			refused(other, other, x, api.ErrName)
			refused(other, "", x, api.ErrName)
			refused(x, "", other, api.ErrName)
		}
	}
	refused("", "one", "two", api.ErrName)
	refused("a", "one", "", api.ErrName)
	refused("a", "", "", api.ErrName)
	refused("no", "one", "one", api.ErrMissing)
	refused("no", "", "one", api.ErrMissing)
	refused("A", "", "one", api.ErrMissing)
	refused("a", "no", "one", api.ErrMissing)
	refused("a", "one", "no", api.ErrMissing)
	refused("a", "no", "no", api.ErrMissing)
	refused("a", "", "no", api.ErrMissing)
	refused("a", "", "One", api.ErrMissing)
	refused("empty", "", "one", api.ErrMissing)
	refused("empty", "one", "two", api.ErrMissing)
	refused("a", "one", "one", api.ErrOrder)
	refused("a", "three", "three", api.ErrOrder)
	refused("a", "two", "one", api.ErrOrder)
	refused("a", "three", "one", api.ErrOrder)
	if state(s) != before {
		t.Error("something is other")
	}
}

func TestReceiveRefuses(t *testing.T) {
	s, r := pair(t)
	all, more, old := sent(t, s, "a", "", "three"), sent(t, s, "a", "two", "three"), sent(t, s, "a", "one", "two")
	broken := more[:len(more)-1]
	ok(t, r.New("bare", false))
	ok(t, r.New("busy", false))
	ok(t, r.New("full", false))
	for i := range api.MaxSets {
		ok(t, r.Snap("full", fmt.Sprint(i)))
	}
	ok(t, Receive(r, sent(t, s, "a", "", "two"), "held", "two"))
	ok(t, treeOf(t, r, "held").Hold(1))
	ok(t, treeOf(t, r, "full").Hold(1))
	refused := func(what string, b []byte, name, as string, want error) {
		t.Helper()
		before := state(r)
		if err := Receive(r, b, name, as); !errors.Is(err, want) {
			t.Errorf("%s: Receive(%q, %q): %v, wanted %v", what, name, as, err, want)
		}
		if state(r) != before {
			t.Errorf("%s: Receive(%q, %q) changed something", what, name, as)
		}
	}
	for what, b := range map[string][]byte{"all": all, "more": more, "broken": broken, "none": nil} {
		for _, x := range append(bad, "") {
			for _, other := range []string{"b", "one", "no"} {
				refused(what, b, x, other, api.ErrName)
				refused(what, b, other, x, api.ErrName)
			}
		}
	}
	for _, name := range []string{"b", "no", "full", "held", "bare"} {
		refused("broken", broken, name, "two", api.ErrStream)
		refused("broken", broken, name, "new", api.ErrStream)
		refused("none", nil, name, "new", api.ErrStream)
	}
	refused("all", all, "b", "one", api.ErrExists)
	refused("all", all, "b", "new", api.ErrExists)
	refused("all", all, "held", "new", api.ErrExists)
	refused("more", more, "no", "two", api.ErrMissing)
	refused("more", more, "B", "two", api.ErrMissing)
	refused("more", more, "b", "one", api.ErrExists)
	refused("old", old, "b", "two", api.ErrExists)
	refused("old", old, "b", "new", api.ErrBase)
	refused("more", more, "full", "7", api.ErrExists)
	refused("more", more, "full", "new", api.ErrMany)
	refused("more", more, "bare", "new", api.ErrBase)
	refused("old", old, "held", "two", api.ErrExists)
	refused("old", old, "held", "new", api.ErrBase)
	refused("more", more, "held", "new", api.ErrBusy)
	for i := range api.MaxSets - 5 {
		ok(t, r.New(fmt.Sprint("set", i), false))
	}
	refused("all", all, "b", "one", api.ErrExists)
	refused("all", all, "new", "one", api.ErrMany)
	ok(t, Receive(r, more, "b", "three"))
	ok(t, r.Drop("set3"))
	ok(t, Receive(r, all, "new", "one"))
	refused("all", all, "newer", "one", api.ErrMany)
	alike(t, s, "a", "three", r, "b", "three")
	alike(t, s, "a", "three", r, "new", "one")
}

// As many snapshots as may be, and when one is gone, one more.
func TestManySnapshots(t *testing.T) {
	s, r := begin(t, 1), begin(t, 2)
	ok(t, s.New("a", false))
	shot := func(i int) string { return fmt.Sprint("shot", i) }
	ok(t, s.Snap("a", shot(0)))
	ok(t, Receive(r, sent(t, s, "a", "", shot(0)), "b", shot(0)))
	for i := 1; i < api.MaxSets; i++ {
		file(t, treeOf(t, s, "a"), shot(i), "text")
		ok(t, s.Snap("a", shot(i)))
		ok(t, Receive(r, sent(t, s, "a", shot(i-1), shot(i)), "b", shot(i)))
	}
	ok(t, s.DropSnap("a", shot(1)))
	ok(t, s.Snap("a", "last"))
	b := sent(t, s, "a", shot(99), "last")
	is(t, Receive(r, b, "b", "last"), api.ErrMany)
	ok(t, r.DropSnap("b", shot(1)))
	ok(t, Receive(r, b, "b", "last"))
	alike(t, s, "a", "last", r, "b", "last")
	l, err := r.Snaps("b")
	if ok(t, err); len(l) != 100 || l[0] != shot(0) || l[1] != shot(2) || l[99] != "last" {
		t.Errorf("%q", l)
	}
}

// deed is something that is done with the set b of the receiver; it tells whether the stream stands on what is there no more.
type deed struct {
	name string
	do   func(t *testing.T, r *snap.Sets, f *fs.FS)
	gone bool
}

func turns() map[string]func(f *fs.FS, n uint64) error {
	return map[string]func(f *fs.FS, n uint64) error{
		"Create": func(f *fs.FS, n uint64) error {
			_, err := f.Create(boss, 1, "new", api.New{Kind: api.File})
			return err
		},
		"Link":     func(f *fs.FS, n uint64) error { return f.Link(boss, n, 1, "new") },
		"Remove":   func(f *fs.FS, n uint64) error { return f.Remove(boss, 1, "one") },
		"Rename":   func(f *fs.FS, n uint64) error { return f.Rename(boss, 1, "one", 1, "new", 0) },
		"Write":    func(f *fs.FS, n uint64) error { return f.Write(boss, n, 0, []byte("text of one")) },
		"Cut":      func(f *fs.FS, n uint64) error { return f.Cut(boss, n, len("text of one")) },
		"Punch":    func(f *fs.FS, n uint64) error { return f.Punch(boss, n, 0, 0) },
		"Clone":    func(f *fs.FS, n uint64) error { return f.Clone(boss, n, 0, n, 0, 1) },
		"Change":   func(f *fs.FS, n uint64) error { return f.Change(boss, n, api.Set{What: 1, Mode: 0o644}) },
		"SetExtra": func(f *fs.FS, n uint64) error { return f.SetExtra(boss, n, "e", nil) },
		"SetLimit": func(f *fs.FS, n uint64) error { return f.SetLimit(1, 7, api.Quota{Nodes: 7}) },
		"SetLimit, and back": func(f *fs.FS, n uint64) error {
			return errors.Join(f.SetLimit(1, 7, api.Quota{Nodes: 7}), f.SetLimit(1, 7, api.Quota{}))
		},
	}
}

func deeds() []deed {
	l := []deed{
		{"nothing", func(t *testing.T, r *snap.Sets, f *fs.FS) {}, false},
		{"looked at", func(t *testing.T, r *snap.Sets, f *fs.FS) { tells(t, f) }, false},
		{"held, and not any more", func(t *testing.T, r *snap.Sets, f *fs.FS) {
			ok(t, f.Hold(2))
			ok(t, f.Release(2))
		}, false},
		{"what is no change", func(t *testing.T, r *snap.Sets, f *fs.FS) {
			ok(t, f.Reap())
			ok(t, f.SetLimit(1, 7, api.Quota{}))
			ok(t, f.Write(boss, 2, 0, nil))
			ok(t, f.Change(boss, 2, api.Set{}))
			ok(t, f.Rename(boss, 1, "one", 1, "one", 0))
			is(t, f.Remove(boss, 1, "no"), api.ErrMissing)
			is(t, r.Pool().Try(func() error { file(t, f, "new", "undone"); return api.ErrLoop }), api.ErrLoop)
		}, false},
		{"committed", func(t *testing.T, r *snap.Sets, f *fs.FS) { ok(t, r.Commit()) }, false},
		{"renamed, and back", func(t *testing.T, r *snap.Sets, f *fs.FS) {
			ok(t, r.Rename("b", "c"))
			ok(t, r.Rename("c", "b"))
		}, false},
		{"cloned", func(t *testing.T, r *snap.Sets, f *fs.FS) {
			ok(t, r.Clone("b", "two", "c"))
			file(t, treeOf(t, r, "c"), "new", "of c")
		}, false},
		{"another snapshot", func(t *testing.T, r *snap.Sets, f *fs.FS) { ok(t, r.Snap("b", "x")) }, true},
		{"another snapshot, dropped", func(t *testing.T, r *snap.Sets, f *fs.FS) {
			ok(t, r.Snap("b", "x"))
			ok(t, r.DropSnap("b", "x"))
		}, false},
		{"the last one dropped", func(t *testing.T, r *snap.Sets, f *fs.FS) { ok(t, r.DropSnap("b", "two")) }, true},
		{"the one ahead of it dropped", func(t *testing.T, r *snap.Sets, f *fs.FS) { ok(t, r.DropSnap("b", "one")) }, false},
		{"rolled back to it", func(t *testing.T, r *snap.Sets, f *fs.FS) { ok(t, r.Rollback("b", "two")) }, false},
		{"rolled back to another one", func(t *testing.T, r *snap.Sets, f *fs.FS) { ok(t, r.Rollback("b", "one")) }, true},
		{"rolled back to another one, and to it", func(t *testing.T, r *snap.Sets, f *fs.FS) {
			ok(t, r.Rollback("b", "one"))
			ok(t, r.Rollback("b", "two"))
		}, false},
		{"rolled back to another one that is the same", func(t *testing.T, r *snap.Sets, f *fs.FS) {
			ok(t, r.Snap("b", "x"))
			ok(t, r.Rollback("b", "x"))
			ok(t, r.DropSnap("b", "x"))
		}, true},
		{"changed, and rolled back to another one that is as it was", func(t *testing.T, r *snap.Sets, f *fs.FS) {
			ok(t, r.Snap("b", "x"))
			file(t, f, "new", "new")
			ok(t, r.Rollback("b", "x"))
			ok(t, r.DropSnap("b", "x"))
		}, true},
		{"undone", func(t *testing.T, r *snap.Sets, f *fs.FS) {
			is(t, r.Pool().Try(func() error {
				ok(t, r.Rollback("b", "one"))
				file(t, f, "new", "new")
				ok(t, r.DropSnap("b", "two"))
				return api.ErrLoop
			}), api.ErrLoop)
		}, false},
	}
	for name, turn := range turns() {
		l = append(l, deed{name, func(t *testing.T, r *snap.Sets, f *fs.FS) { ok(t, turn(f, 2)) }, true})
		l = append(l, deed{name + ", and rolled back", func(t *testing.T, r *snap.Sets, f *fs.FS) {
			ok(t, turn(f, 2))
			ok(t, r.Rollback("b", "two"))
		}, false})
		l = append(l, deed{name + " behind a Rollback", func(t *testing.T, r *snap.Sets, f *fs.FS) {
			ok(t, r.Rollback("b", "two"))
			ok(t, turn(f, 2))
		}, true})
	}
	return l
}

// What is done with a set since it got what a stream stands on.
func TestBase(t *testing.T) {
	t.Parallel()
	s, _ := pair(t)
	b := sent(t, s, "a", "two", "three")
	for _, x := range deeds() {
		for _, anew := range []bool{false, true} {
			r, disks := made(t, single, 20000, 2)
			ok(t, Receive(r, sent(t, s, "a", "", "one"), "b", "one"))
			ok(t, Receive(r, sent(t, s, "a", "one", "two"), "b", "two"))
			x.do(t, r, treeOf(t, r, "b"))
			if anew {
				ok(t, r.Commit())
				r = reopen(t, disks, single)
			}
			err := Receive(r, b, "b", "three")
			if x.gone != errors.Is(err, api.ErrBase) || !x.gone && err != nil {
				t.Errorf("%s, opened anew: %v: %v", x.name, anew, err)
			}
			if !x.gone {
				alike(t, s, "a", "three", r, "b", "three")
			}
		}
	}
}

// Likewise of a set whose last snapshot Snap made: the stream comes back to where it began.
func TestBaseThatSnapMade(t *testing.T) {
	for _, x := range []struct {
		name string
		do   func(s *snap.Sets, f *fs.FS, n uint64)
		want error
	}{
		{"as it was", func(s *snap.Sets, f *fs.FS, n uint64) {}, api.ErrBusy},
		{"Release", func(s *snap.Sets, f *fs.FS, n uint64) { ok(t, f.Release(n)) }, api.ErrBase},
		{"Reap", func(s *snap.Sets, f *fs.FS, n uint64) {
			g := fs.On(f.Map())
			ok(t, g.Reap())
		}, api.ErrBase},
		{"Release, and rolled back", func(s *snap.Sets, f *fs.FS, n uint64) {
			ok(t, f.Release(n))
			ok(t, s.Rollback("a", "one"))
		}, nil},
		{"Snap, and it is dropped", func(s *snap.Sets, f *fs.FS, n uint64) {
			ok(t, s.Snap("a", "x"))
			ok(t, s.DropSnap("a", "x"))
		}, api.ErrBusy},
	} {
		s, r := begin(t, 1), begin(t, 2)
		ok(t, s.New("a", false))
		f := treeOf(t, s, "a")
		n := lost(t, f, "lost", "text")
		ok(t, s.Snap("a", "one"))
		ok(t, Receive(r, sent(t, s, "a", "", "one"), "a", "one"))
		ok(t, r.Snap("a", "two"))
		b := sent(t, r, "a", "one", "two")
		x.do(s, f, n)
		if err := Receive(s, b, "a", "two"); !errors.Is(err, x.want) {
			t.Errorf("%s: %v, wanted %v", x.name, err, x.want)
		} else if err == nil {
			alike(t, r, "a", "two", s, "a", "two")
		}
	}
}

// Streams of clones that nobody has looked at: what has no names is not in them, and Send changes nothing.
func TestClones(t *testing.T) {
	for _, seen := range []bool{false, true} {
		s, r := begin(t, 1), begin(t, 2)
		ok(t, s.New("a", false))
		garden(t, treeOf(t, s, "a"))
		ok(t, s.Snap("a", "one"))
		ok(t, s.Clone("a", "one", "c"))
		ok(t, s.Snap("c", "one"))
		ok(t, s.Snap("c", "two"))
		ok(t, s.Clone("c", "one", "d"))
		ok(t, s.Snap("d", "one"))
		before := state(s)
		all, more := sent(t, s, "c", "", "one"), sent(t, s, "c", "one", "two")
		ok(t, s.Pool().Try(func() error { sent(t, s, "d", "", "one"); return nil }))
		if state(s) != before {
			t.Error("Send changes something")
		}
		if seen {
			treeOf(t, s, "c")
		}
		ok(t, Receive(r, all, "a", "one"))
		ok(t, Receive(r, more, "a", "two"))
		is(t, Receive(s, more, "d", "two"), api.ErrBase)
		ok(t, s.DropSnap("c", "two"))
		ok(t, Receive(s, more, "c", "two"))
		alike(t, s, "c", "one", r, "a", "one")
		alike(t, s, "c", "two", r, "a", "two")
		for _, x := range []struct {
			s    *snap.Sets
			name string
		}{{s, "c"}, {s, "d"}, {r, "a"}} {
			same(t, x.name, picture(t, treeOf(t, x.s, x.name)), picture(t, at(t, r, "a", "one")))
		}
		if picture(t, at(t, s, "a", "one")) == picture(t, at(t, s, "c", "one")) {
			t.Error("the clone was not reaped")
		}
	}
}

// With as much on a disk as may be there are streams that are too long.
func TestLong(t *testing.T) {
	s, _ := made(t, single, 1<<18, 1)
	ok(t, s.New("a", false))
	f := treeOf(t, s, "a")
	ok(t, s.Snap("a", "none"))
	n := file(t, f, "x", "text")
	size, step := 0, 60*api.PageSize
	for ; size+step <= api.MaxStream; size += step {
		ok(t, f.Write(boss, n, size, noise(size, step)))
	}
	ok(t, s.Snap("a", "much"))
	is(t, f.Write(boss, n, size, noise(size, api.MaxIO+1)), api.ErrLong)
	ok(t, f.Write(boss, n, size, noise(size, step)))
	ok(t, s.Snap("a", "too much"))
	before := state(s)
	for _, from := range []string{"", "none"} {
		for _, to := range []string{"much", "too much"} {
			if b, err := Send(s, "a", from, to); !errors.Is(err, api.ErrLong) || b != nil {
				t.Errorf("from %q to %q: %d bytes, %v", from, to, len(b), err)
			}
		}
	}
	if state(s) != before {
		t.Error("something is other")
	}
	r, _ := made(t, single, 1<<18, 2)
	ok(t, f.Cut(boss, n, size-8*step))
	ok(t, s.Snap("a", "less"))
	b := sent(t, s, "a", "none", "less")
	ok(t, Receive(r, sent(t, s, "a", "", "none"), "a", "none"))
	ok(t, Receive(r, b, "a", "less"))
	if same(t, "less", picture(t, at(t, r, "a", "less")), picture(t, f)); len(b) < size-8*step {
		t.Errorf("%d bytes came from %d", size-8*step, len(b))
	}
}

// noise is bytes that have no short form.
func noise(seed, size int) []byte {
	b := make([]byte, size)
	x := uint64(seed)*2 + 1
	for i := range b {
		x = x*6364136223846793005 + 1442695040888963407
		b[i] = byte(x >> 56)
	}
	return b
}

// A stream has just as many bytes as may be, or one more.
func TestJustLong(t *testing.T) {
	s, r := must(made(t, single, 1<<18, 1)), must(made(t, single, 1<<18, 2))
	ok(t, s.New("a", false))
	f := treeOf(t, s, "a")
	n := file(t, f, "x", "text")
	size := func(shot string) int {
		b, err := Send(s, "a", "", shot)
		if err != nil {
			is(t, err, api.ErrLong)
			return api.MaxStream + 1
		}
		return len(b)
	}
	for at, i := 0, 0; ; i++ {
		shot := fmt.Sprint("shot", i)
		ok(t, s.Snap("a", shot))
		left := api.MaxStream - size(shot)
		if left < 1000 {
			break
		}
		ok(t, s.DropSnap("a", shot))
		step := min(left*9/10, api.MaxIO) / api.PageSize * api.PageSize
		ok(t, f.Write(boss, n, at, noise(at, max(step, api.PageSize))))
		at += max(step, api.PageSize)
	}
	for i := range api.MaxAttrs {
		ok(t, f.SetExtra(boss, n, fmt.Sprint("e", i), nil))
	}
	length := func() int {
		ok(t, s.Snap("a", "x"))
		defer func() { ok(t, s.DropSnap("a", "x")) }()
		return size("x")
	}
	for i := range api.MaxAttrs {
		if left := api.MaxStream - length(); left > 0 {
			ok(t, f.SetExtra(boss, n, fmt.Sprint("e", i), make([]byte, min(left, api.MaxAttrVal))))
		}
	}
	if n := length(); n != api.MaxStream {
		t.Fatalf("%d bytes", n)
	}
	ok(t, s.Snap("a", "whole"))
	ok(t, Receive(r, sent(t, s, "a", "", "whole"), "a", "whole"))
	same(t, "whole", picture(t, at(t, r, "a", "whole")), picture(t, f))
	ok(t, f.SetExtra(boss, n, fmt.Sprint("e", api.MaxAttrs-1), []byte{1}))
	ok(t, s.Snap("a", "more"))
	_, err := Send(s, "a", "", "more")
	is(t, err, api.ErrLong)
}

// grown makes sets with many blocks, and a stream for each way to receive it.
func grown(t *testing.T, shape api.Shape, size int) (r *snap.Sets, disks []*api.Disk, all, more []byte) {
	t.Helper()
	s := begin(t, 1)
	ok(t, s.New("a", true))
	f := treeOf(t, s, "a")
	garden(t, f)
	for i := range 12 {
		file(t, f, fmt.Sprint("file", i), strings.Repeat(fmt.Sprint(i), 99*i))
	}
	ok(t, s.Snap("a", "one"))
	file(t, f, "more", "more")
	ok(t, f.Remove(boss, 1, "file7"))
	lost(t, f, "lost again", "text")
	ok(t, s.Snap("a", "two"))
	r, disks = made(t, shape, size, 2)
	ok(t, Receive(r, sent(t, s, "a", "", "one"), "b", "one"))
	ok(t, r.New("c", false))
	ok(t, r.Commit())
	return r, disks, sent(t, s, "a", "", "two"), sent(t, s, "a", "one", "two")
}

// whole is all that sets tell.
func whole(t *testing.T, s *snap.Sets) string {
	t.Helper()
	names, err := s.Names()
	ok(t, err)
	out := fmt.Sprintln(names)
	for _, name := range names {
		out += picture(t, treeOf(t, s, name))
		l, err := s.Snaps(name)
		ok(t, err)
		out += fmt.Sprintln(l)
		for _, shot := range l {
			out += picture(t, at(t, s, name, shot))
		}
	}
	return out
}

// call is a call of this package.
type call struct {
	name string
	f    func(s *snap.Sets) ([]byte, error)
}

func calls(all, more []byte) []call {
	return []call{
		{"Send", func(s *snap.Sets) ([]byte, error) { return Send(s, "b", "", "one") }},
		{"Receive all", func(s *snap.Sets) ([]byte, error) { return nil, Receive(s, all, "new", "two") }},
		{"Receive more", func(s *snap.Sets) ([]byte, error) { return nil, Receive(s, more, "b", "two") }},
	}
}

// However much is spoilt: a call answers what it should, or that it is spoilt, and changes nothing then.
func TestSpoilt(t *testing.T) {
	t.Parallel()
	_, disks, all, more := grown(t, single, 20000)
	for _, c := range calls(all, more) {
		s := reopen(t, disks, single)
		var want []byte
		var after string
		is(t, s.Pool().Try(func() error {
			var err error
			want, err = c.f(s)
			ok(t, err)
			after = whole(t, s)
			return api.ErrLoop
		}), api.ErrLoop)
		var blocks []api.Ptr
		for x := range s.Pool().Blocks() {
			blocks = append(blocks, x)
		}
		met := 0
		for i, x := range blocks {
			s := reopen(t, disks, single)
			before := state(s)
			disks[0].Spoil(x.At, 300, 1)
			var b []byte
			var now string
			is(t, s.Pool().Try(func() error {
				var err error
				b, err = c.f(s)
				disks[0].Spoil(x.At, 300, 1)
				if err != nil {
					is(t, err, api.ErrSpoilt)
					if met++; b != nil || state(s) != before {
						t.Errorf("%s with block %d spoilt changed something", c.name, i)
					}
					now = after
					return api.ErrLoop
				}
				now = whole(t, s)
				return api.ErrLoop
			}), api.ErrLoop)
			if b != nil && !bytes.Equal(b, want) || now != after {
				t.Errorf("%s with block %d spoilt tells what is not so", c.name, i)
			}
		}
		if met == 0 {
			t.Errorf("%s reads nothing", c.name)
		}
	}
}

// Disks that fail: an error is told, and from then on that the pool is down.
func TestDown(t *testing.T) {
	_, disks, all, more := grown(t, single, 20000)
	for _, c := range calls(all, more) {
		for k := 0; ; k++ {
			d := disks[0].Copy()
			s := reopen(t, []*api.Disk{d}, single)
			d.Fail(k, 1<<30)
			b, err := c.f(s)
			if err == nil {
				if k == 0 {
					t.Errorf("%s asks the disk nothing", c.name)
				}
				break
			}
			if is(t, err, api.ErrDevice); b != nil {
				t.Errorf("%s answers bytes with an error", c.name)
			}
			d.Fail(0, 0)
			for _, c := range calls(all, more) {
				b, err := c.f(s)
				if is(t, err, api.ErrDown); b != nil {
					t.Errorf("%s answers bytes with an error", c.name)
				}
			}
		}
	}
}

// However few rows are free: a call answers that there is no room, and changes nothing then, or does what it should.
func TestFewRows(t *testing.T) {
	_, disks, all, more := grown(t, single, 1200)
	for _, c := range calls(all, more) {
		s := reopen(t, disks, single)
		_, err := c.f(s)
		ok(t, err)
		after := whole(t, s)
		met, done := 0, 0
		for free := 0; done < 3; free += 1 + free/6 {
			s := reopen(t, disks, single)
			filled := fill(t, s.Pool(), free)
			before := state(s)
			_, err := c.f(s)
			if err != nil {
				if is(t, err, api.ErrRoom); state(s) != before {
					t.Fatalf("%s with %d rows free changed something", c.name, free)
				}
				met++
				continue
			}
			done++
			for _, x := range filled {
				ok(t, s.Pool().Drop(x))
			}
			same(t, c.name, whole(t, s), after)
		}
		if c.name != "Send" && met == 0 {
			t.Errorf("%s needs no room", c.name)
		}
	}
}

// fill lets a pool have no rows left in which something could be put, but for so many.
func fill(t *testing.T, p *pool.Pool, free int) []api.Ptr {
	t.Helper()
	var l []api.Ptr
	for {
		x, err := p.Put([]byte("full"))
		if err != nil {
			is(t, err, api.ErrRoom)
			break
		}
		l = append(l, x)
	}
	left := max(len(l)-free, 0)
	for _, x := range l[left:] {
		ok(t, p.Drop(x))
	}
	return slices.Clone(l[:left])
}

// What is received in a Try that is undone is undone, and a set has the same FS as before.
func TestUndone(t *testing.T) {
	r, _, all, more := grown(t, single, 20000)
	f := treeOf(t, r, "b")
	before, was := whole(t, r), state(r)
	for range 2 {
		is(t, r.Pool().Try(func() error {
			ok(t, Receive(r, more, "b", "two"))
			ok(t, Receive(r, all, "new", "two"))
			is(t, Receive(r, more, "b", "three"), api.ErrBase)
			file(t, f, "newer", "newer")
			file(t, treeOf(t, r, "new"), "newer", "newer")
			return api.ErrQuota
		}), api.ErrQuota)
		if same(t, "undone", whole(t, r), before); state(r) != was || treeOf(t, r, "b") != f {
			t.Error("something is other")
		}
	}
	func() {
		defer func() { recover() }()
		r.Pool().Try(func() error {
			ok(t, Receive(r, more, "b", "two"))
			panic("enough")
		})
	}()
	if same(t, "undone", whole(t, r), before); state(r) != was {
		t.Error("something is other")
	}
	ok(t, Receive(r, more, "b", "two"))
	ok(t, Receive(r, all, "new", "two"))
	same(t, "both", picture(t, f), picture(t, treeOf(t, r, "new")))
}

// A crash leaves what the last commit left, with what was received ahead of it; and no row is lost.
func TestCrash(t *testing.T) {
	mirror := api.Shape{Data: 1, Level: 1}
	_, begun, all, more := grown(t, mirror, 8000)
	copies := func() []*api.Disk { return []*api.Disk{begun[0].Copy(), begun[1].Copy()} }
	one := whole(t, reopen(t, copies(), mirror))
	both := func(r *snap.Sets) {
		ok(t, Receive(r, more, "b", "two"))
		ok(t, Receive(r, all, "new", "two"))
	}
	r := reopen(t, copies(), mirror)
	both(r)
	two := whole(t, r)
	found := map[bool]int{}
	for k := 0; found[true] < 3; k += 1 + k/9 {
		l := copies()
		r := reopen(t, l, mirror)
		both(r)
		for _, d := range l {
			d.Fail(k, 1<<30)
		}
		err := r.Commit()
		for i, d := range l {
			d.Crash([]byte{byte(k + i), 1, 0, 2})
		}
		r = reopen(t, l, mirror)
		got := whole(t, r)
		if got != two && (got != one || err == nil) {
			t.Fatalf("operation %d, behind %v: %s", k, err, got)
		}
		found[got == two]++
		if got == two {
			is(t, Receive(r, more, "b", "three"), api.ErrBase)
		} else {
			both(r)
			same(t, "received again", whole(t, r), two)
		}
		dropAll(t, r)
	}
	if found[false] == 0 {
		t.Errorf("both are to be found: %v", found)
	}
}

// dropAll takes all sets and snapshots away: nothing is left.
func dropAll(t *testing.T, s *snap.Sets) {
	t.Helper()
	names, err := s.Names()
	ok(t, err)
	for _, name := range names {
		l, err := s.Snaps(name)
		ok(t, err)
		for _, shot := range l {
			ok(t, s.DropSnap(name, shot))
		}
		f := treeOf(t, s, name)
		for n := uint64(1); f.Held() > 0; n++ {
			for f.Release(n) == nil {
			}
		}
		ok(t, s.Drop(name))
	}
	for range s.Pool().Blocks() {
		t.Fatal("a block is lost")
	}
}
