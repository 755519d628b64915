package snap

import (
	"bytes"
	"errors"
	"fmt"
	"slices"
	"strings"
	"testing"

	"bedrock/api"
	"bedrock/fs"
	"bedrock/node"
	"bedrock/pool"
)

func ok(t *testing.T, err error) {
	t.Helper()
	if err != nil {
		t.Fatal(err)
	}
}

func is(t *testing.T, err, want error) {
	t.Helper()
	if !errors.Is(err, want) {
		t.Fatalf("%v, wanted %v", err, want)
	}
}

var (
	boss   = api.Cred{}
	single = api.Shape{Data: 1}
)

// made makes a pool, over disks of so many sectors.
func made(t *testing.T, shape api.Shape, size int) (*pool.Pool, []*api.Disk) {
	t.Helper()
	var l []*api.Disk
	for range shape.Data + shape.Level {
		l = append(l, api.NewDisk(size))
	}
	p, err := pool.Format(l, shape, 7)
	ok(t, err)
	return p, l
}

// begin makes sets, and the disk on which they are.
func begin(t *testing.T) (*Sets, []*api.Disk) {
	t.Helper()
	p, l := made(t, single, 60000)
	s, err := Make(p)
	ok(t, err)
	return s, l
}

// reopen takes up the sets that disks have.
func reopen(t *testing.T, l []*api.Disk, shape api.Shape) *Sets {
	t.Helper()
	p, err := pool.Open(l, shape)
	ok(t, err)
	s, err := Open(p)
	ok(t, err)
	return s
}

func treeOf(t *testing.T, s *Sets, name string) *fs.FS {
	t.Helper()
	f, err := s.Tree(name)
	ok(t, err)
	if f == nil {
		t.Fatal("no tree")
	}
	return f
}

func at(t *testing.T, s *Sets, name, snap string) *fs.FS {
	t.Helper()
	f, err := s.At(name, snap)
	ok(t, err)
	if f == nil {
		t.Fatal("no tree")
	}
	return f
}

// file makes a file with some bytes.
func file(t *testing.T, f *fs.FS, name, text string) uint64 {
	t.Helper()
	n, err := f.Create(boss, 1, name, api.New{Kind: api.File, Mode: 0o644})
	ok(t, err)
	ok(t, f.Write(boss, n, 0, []byte(text)))
	return n
}

// bare makes a file that has no name, and that nobody holds who is known here.
func bare(t *testing.T, f *fs.FS, text string) uint64 {
	t.Helper()
	n := file(t, f, "bare", text)
	g := fs.On(f.Map())
	ok(t, g.Hold(n))
	ok(t, g.Remove(boss, 1, "bare"))
	return n
}

// lost lets a file be held, and have no name.
func lost(t *testing.T, f *fs.FS, text string) uint64 {
	t.Helper()
	n := file(t, f, "lost", text)
	ok(t, f.Hold(n))
	ok(t, f.Remove(boss, 1, "lost"))
	return n
}

// picture is all that a tree tells, but for what is held.
func picture(f *fs.FS) string {
	var s strings.Builder
	fmt.Fprintln(&s, f.Turn())
	var l []uint64
	for n, err := range node.On(f.Map()).Nodes() {
		if err != nil {
			fmt.Fprintln(&s, err)
			break
		}
		l = append(l, n)
	}
	for _, n := range l {
		a, err := f.Stat(n)
		target, err1 := f.Target(n)
		entries, err2 := f.List(boss, n, "", 1000)
		b, err3 := f.Read(boss, n, 0, 65536)
		e, err4 := f.Extras(boss, n)
		fmt.Fprintln(&s, n, a, err, target, err1, entries, err2, bytes.TrimRight(b, "\x00"), err3, e, err4)
	}
	for i := range 4 {
		for kind := 1; kind < 3; kind++ {
			u, err := f.Usage(kind, i)
			q, err1 := f.Limit(kind, i)
			fmt.Fprintln(&s, kind, i, u, err, q, err1)
		}
	}
	return s.String()
}

// whole is all that sets tell.
func whole(s *Sets) string {
	var out strings.Builder
	names, err := s.Names()
	fmt.Fprintln(&out, names, err)
	for _, name := range names {
		f, err := s.Tree(name)
		if fmt.Fprintln(&out, name, err); err == nil {
			out.WriteString(picture(f))
		}
		snaps, err := s.Snaps(name)
		fmt.Fprintln(&out, snaps, err)
		for _, snap := range snaps {
			f, err := s.At(name, snap)
			if fmt.Fprintln(&out, snap, err); err == nil {
				out.WriteString(picture(f))
			}
		}
	}
	return out.String()
}

func same(t *testing.T, what, got, want string) {
	t.Helper()
	if got != want {
		t.Fatalf("%s: %s\nwanted %s", what, got, want)
	}
}

func names(t *testing.T, s *Sets, want ...string) {
	t.Helper()
	l, err := s.Names()
	if ok(t, err); !slices.Equal(l, want) {
		t.Fatalf("%q, wanted %q", l, want)
	}
}

func snaps(t *testing.T, s *Sets, name string, want ...string) {
	t.Helper()
	l, err := s.Snaps(name)
	if ok(t, err); !slices.Equal(l, want) {
		t.Fatalf("%q, wanted %q", l, want)
	}
}

func TestMakeAndOpen(t *testing.T) {
	p, l := made(t, single, 1000)
	s, err := Open(p)
	if is(t, err, api.ErrMissing); s != nil {
		t.Error("Open answers sets with an error")
	}
	s, err = Make(p)
	if ok(t, err); s.Pool() != p {
		t.Error("Pool is another one")
	}
	if used := p.Use().Used; used != 0 {
		t.Errorf("%d rows are in use", used)
	}
	names(t, s)
	_, err = Make(p) // nothing was committed
	ok(t, err)
	ok(t, s.Commit())
	if !strings.HasPrefix(string(p.Root()), "bedrock1") {
		t.Errorf("the root is %q", p.Root())
	}
	other, err := Make(p)
	if is(t, err, api.ErrExists); other != nil {
		t.Error("Make answers sets with an error")
	}
	names(t, reopen(t, l, single))
	for _, root := range []string{"x", "bedrock", "bedrock2 and more", "Bedrock1 and more", " bedrock1", "no root at all that sets ever left behind them"} {
		ok(t, p.Commit([]byte(root)))
		s, err := Open(p)
		if is(t, err, api.ErrForm); s != nil {
			t.Error("Open answers sets with an error")
		}
		_, err = Make(p)
		is(t, err, api.ErrExists)
	}
	ok(t, p.Commit(nil))
	_, err = Open(p)
	is(t, err, api.ErrMissing)
	_, err = Make(p)
	ok(t, err)
}

// Roots that begin as they should, and are none that a commit of sets left: nothing is promised, but that all ends well.
func TestStrangeRoots(t *testing.T) {
	p, _ := made(t, single, 1000)
	x, err := p.Put([]byte("no node of a map"))
	ok(t, err)
	for _, b := range [][]byte{nil, {0}, make([]byte, 22), bytes.Repeat([]byte{255}, 22), bytes.Repeat([]byte{1}, 40), {byte(x.At), 0, 0, 0, byte(x.Len), 0, byte(x.Stamp), byte(x.Stamp >> 8), byte(x.Stamp >> 16), byte(x.Stamp >> 24), 0, 0, 0, 0, 9, 0, 0, 0, 0, 0, 0, 0}} {
		ok(t, p.Commit(append([]byte("bedrock1"), b...)))
		s, err := Open(p)
		if err != nil {
			is(t, err, api.ErrForm)
			continue
		}
		s.Names()
		s.Tree("a")
		s.New("a", true)
		s.Snap("a", "b")
		s.Rename("a", "b")
		s.Drop("a")
		s.Commit()
	}
}

func TestNewSets(t *testing.T) {
	s, _ := begin(t)
	for _, name := range []string{"b", "a", "B", "ä", "ab", "a ", "\xff", "a\x01", "~", strings.Repeat("n", 40)} {
		ok(t, s.New(name, false))
	}
	names(t, s, "B", "a", "a\x01", "a ", "ab", "b", strings.Repeat("n", 40), "~", "ä", "\xff")
	ok(t, s.New("fold", true))
	for name, fold := range map[string]bool{"a": false, "fold": true} {
		f := treeOf(t, s, name)
		a, err := f.Stat(1)
		ok(t, err)
		if want := (api.Attr{Kind: api.Dir, Mode: 0o755, Links: 1, Parent: 1, Fold: fold}); a != want || f.Turn() != 0 || f.Held() != 0 {
			t.Errorf("%s: the root is %v, behind %d turns", name, a, f.Turn())
		}
	}
	if treeOf(t, s, "a") != treeOf(t, s, "a") || treeOf(t, s, "a") == treeOf(t, s, "b") {
		t.Error("a set has not one tree of its own")
	}
	f := treeOf(t, s, "a")
	n := file(t, f, "x", "of a")
	_, err := treeOf(t, s, "b").Stat(n)
	is(t, err, api.ErrNode)
	ok(t, s.Rename("a", "z"))
	if treeOf(t, s, "z") != f {
		t.Error("by another name it is another tree")
	}
	_, err = s.Tree("a")
	is(t, err, api.ErrMissing)
	ok(t, s.New("a", false))
	if treeOf(t, s, "a") == f {
		t.Error("a new set has the tree of one that had its name")
	}
}

func TestSnapshots(t *testing.T) {
	s, _ := begin(t)
	ok(t, s.New("a", true))
	ok(t, s.New("b", false))
	snaps(t, s, "a")
	f := treeOf(t, s, "a")
	ok(t, s.Snap("a", "z"))
	n := file(t, f, "File", "one")
	first := picture(f)
	ok(t, s.Snap("a", "one"))
	ok(t, s.Snap("a", "same"))
	ok(t, f.Write(boss, n, 0, []byte("two")))
	second := picture(f)
	ok(t, s.Snap("a", "two"))
	ok(t, s.Snap("b", "one"))
	snaps(t, s, "a", "z", "one", "same", "two")
	snaps(t, s, "b", "one")
	ok(t, f.Remove(boss, 1, "FILE"))
	same(t, "one", picture(at(t, s, "a", "one")), first)
	same(t, "same", picture(at(t, s, "a", "same")), first)
	same(t, "two", picture(at(t, s, "a", "two")), second)
	same(t, "z", picture(at(t, s, "a", "z")), picture(fsMade(t, true)))
	same(t, "b's one", picture(at(t, s, "b", "one")), picture(fsMade(t, false)))
	if at(t, s, "a", "one") == at(t, s, "a", "one") {
		t.Error("At answers one FS twice")
	}
	ok(t, s.DropSnap("a", "one"))
	snaps(t, s, "a", "z", "same", "two")
	is(t, s.DropSnap("a", "one"), api.ErrMissing)
	ok(t, s.Snap("a", "one"))
	snaps(t, s, "a", "z", "same", "two", "one")
	same(t, "the new one", picture(at(t, s, "a", "one")), picture(f))
	same(t, "same", picture(at(t, s, "a", "same")), first)
	ok(t, s.Rename("a", "c"))
	snaps(t, s, "c", "z", "same", "two", "one")
	same(t, "two", picture(at(t, s, "c", "two")), second)
}

// fsMade is a tree as New makes it.
func fsMade(t *testing.T, fold bool) *fs.FS {
	t.Helper()
	s, _ := begin(t)
	ok(t, s.New("x", fold))
	return treeOf(t, s, "x")
}

func TestAtIsFixed(t *testing.T) {
	s, _ := begin(t)
	ok(t, s.New("a", false))
	f := treeOf(t, s, "a")
	n := file(t, f, "x", "text")
	m := lost(t, f, "lost")
	ok(t, s.Snap("a", "one"))
	g := at(t, s, "a", "one")
	before := picture(g)
	for i, err := range []error{
		g.Write(boss, n, 0, []byte("other")), g.Cut(boss, n, 0), g.Punch(boss, n, 0, 9), g.Clone(boss, n, 0, n, 1, 1),
		g.Remove(boss, 1, "x"), g.Link(boss, n, 1, "y"), g.Rename(boss, 1, "x", 1, "y", 0),
		g.Change(boss, n, api.Set{What: 1}), g.SetExtra(boss, n, "e", nil), g.DelExtra(boss, n, "e"), g.Reap(), g.SetLimit(1, 1, api.Quota{Nodes: 1}),
	} {
		if !errors.Is(err, api.ErrReadOnly) {
			t.Errorf("call %d: %v", i, err)
		}
	}
	ok(t, g.Hold(m))
	ok(t, g.Release(m))
	same(t, "the snapshot", picture(g), before)
	same(t, "the tree", picture(f), before)
	if f.Held() != 1 || at(t, s, "a", "one").Held() != 0 {
		t.Error("what is held in one tree is held in another")
	}
}

func TestClones(t *testing.T) {
	s, _ := begin(t)
	ok(t, s.New("a", true))
	f := treeOf(t, s, "a")
	n := file(t, f, "x", "one")
	ok(t, f.SetLimit(1, 2, api.Quota{Nodes: 5}))
	ok(t, s.Snap("a", "one"))
	was := picture(f)
	ok(t, s.Clone("a", "one", "b"))
	names(t, s, "a", "b")
	snaps(t, s, "b")
	g := treeOf(t, s, "b")
	if g == f || g != treeOf(t, s, "b") {
		t.Error("the clone has not a tree of its own")
	}
	same(t, "the clone", picture(g), was)
	ok(t, g.Write(boss, n, 0, []byte("two")))
	file(t, g, "y", "new")
	same(t, "the tree", picture(f), was)
	same(t, "the snapshot", picture(at(t, s, "a", "one")), was)
	is(t, s.DropSnap("b", "one"), api.ErrMissing)
	ok(t, s.Snap("b", "one"))
	now := picture(g)
	ok(t, s.DropSnap("a", "one"))
	ok(t, s.Drop("a"))
	names(t, s, "b")
	same(t, "the clone", picture(g), now)
	same(t, "its snapshot", picture(at(t, s, "b", "one")), now)
	ok(t, s.Clone("b", "one", "a"))
	same(t, "a clone of the clone", picture(treeOf(t, s, "a")), now)
}

// A clone's nodes without names are reaped, whatever is done with it first; a snapshot's are not.
func TestReaped(t *testing.T) {
	for _, first := range []string{"Tree", "Snap", "Commit", "Rename", "Clone"} {
		s, disks := begin(t)
		ok(t, s.New("a", false))
		f := treeOf(t, s, "a")
		file(t, f, "x", "text")
		n := lost(t, f, "lost")
		m := bare(t, f, "bare")
		d, err := f.Create(api.Cred{Uid: 1}, 1, "d", api.New{Kind: api.Dir})
		is(t, err, api.ErrAccess)
		d, err = f.Create(boss, 1, "d", api.New{Kind: api.Dir})
		ok(t, err)
		ok(t, f.Hold(d))
		ok(t, f.Remove(boss, 1, "d"))
		ok(t, s.Snap("a", "one"))
		was := picture(f)
		if f.Held() != 2 {
			t.Fatalf("%d nodes are held", f.Held())
		}
		ok(t, s.Clone("a", "one", "b"))
		b := "b"
		switch first {
		case "Snap":
			ok(t, s.Snap("b", "new"))
			_, err := at(t, s, "b", "new").Stat(n)
			is(t, err, api.ErrNode)
		case "Commit":
			ok(t, s.Commit())
			s = reopen(t, disks, single)
		case "Rename":
			b = "c"
			ok(t, s.Rename("b", b))
		case "Clone":
			ok(t, s.Snap("b", "new"))
			ok(t, s.Clone("b", "new", "d"))
			b = "d"
		}
		g := treeOf(t, s, b)
		for _, n := range []uint64{n, m, d} {
			_, err := g.Stat(n)
			is(t, err, api.ErrNode)
		}
		q, err := g.Usage(1, 0)
		if ok(t, err); q != (api.Quota{Nodes: 2, Pages: 1}) || g.Turn() != f.Turn() || g.Held() != 0 {
			t.Errorf("%s: the clone has %v, behind %d turns", first, q, g.Turn())
		}
		same(t, "the snapshot", picture(at(t, s, "a", "one")), was)
		same(t, "the tree", picture(treeOf(t, s, "a")), was)
		ok(t, g.Hold(1))
		k := lost(t, g, "lost again")
		if treeOf(t, s, b) != g {
			t.Error("another tree")
		}
		if _, err = g.Stat(k); err != nil {
			t.Error("what is held was reaped")
		}
	}
}

func TestRollback(t *testing.T) {
	s, disks := begin(t)
	ok(t, s.New("a", true))
	f := treeOf(t, s, "a")
	n := file(t, f, "x", "one")
	ok(t, s.Snap("a", "clean"))
	clean := picture(f)
	k := lost(t, f, "lost")
	m := bare(t, f, "bare")
	ok(t, s.Snap("a", "one"))
	was := picture(f)
	is(t, s.Rollback("a", "clean"), api.ErrBusy)
	same(t, "the tree", picture(f), was)
	ok(t, f.Release(k))
	ok(t, f.Write(boss, n, 0, []byte("two")))
	ok(t, f.SetLimit(1, 3, api.Quota{Pages: 9}))
	ok(t, s.Snap("a", "two"))
	two := picture(f)
	ok(t, s.Rollback("a", "one"))
	if treeOf(t, s, "a") != f {
		t.Fatal("the tree is another one")
	}
	for _, n := range []uint64{k, m} {
		_, err := f.Stat(n)
		is(t, err, api.ErrNode)
	}
	same(t, "one", picture(at(t, s, "a", "one")), was)
	if f.Turn() != at(t, s, "a", "one").Turn() {
		t.Errorf("%d turns", f.Turn())
	}
	snaps(t, s, "a", "clean", "one", "two")
	file(t, f, "y", "new")
	ok(t, s.Rollback("a", "clean"))
	same(t, "the tree", picture(f), clean)
	ok(t, s.Rollback("a", "clean"))
	same(t, "the tree", picture(f), clean)
	ok(t, s.Commit())
	s = reopen(t, disks, single)
	same(t, "the tree", picture(treeOf(t, s, "a")), clean)
	s = reopen(t, disks, single)
	ok(t, s.Rollback("a", "two")) // of a tree that nobody took up
	g := treeOf(t, s, "a")
	_, err := g.Stat(m)
	is(t, err, api.ErrNode)
	same(t, "two", picture(at(t, s, "a", "two")), two)
	ok(t, s.DropSnap("a", "clean"))
	ok(t, s.DropSnap("a", "two"))
	b, err := g.Read(boss, n, 0, 10)
	if ok(t, err); string(b) != "two" {
		t.Errorf("%q", b)
	}
}

// To look at a clone that has nothing to reap changes nothing; one that has is reaped once.
func TestLookedAt(t *testing.T) {
	s, disks := begin(t)
	ok(t, s.New("a", false))
	f := treeOf(t, s, "a")
	file(t, f, "x", "x")
	ok(t, s.Snap("a", "one"))
	lost(t, f, "lost")
	ok(t, s.Snap("a", "two"))
	ok(t, s.Clone("a", "one", "b"))
	ok(t, s.Clone("a", "two", "c"))
	ok(t, s.Commit())
	for range 2 {
		for name, many := range map[string]int{"a": 0, "b": 0, "c": 1} {
			for i := range 3 {
				before := state(s)
				treeOf(t, s, name)
				if other := state(s) != before; other != (i < many) {
					t.Errorf("%s, look %d: something is other: %v", name, i, other)
				}
			}
		}
		s = reopen(t, disks, single)
	}
}

// A clone that nobody took up can be rolled back, and dropped.
func TestClonesThatNobodySaw(t *testing.T) {
	s, _ := begin(t)
	before := s.Pool().Use().Used
	ok(t, s.New("a", false))
	f := treeOf(t, s, "a")
	file(t, f, "x", "one")
	k := lost(t, f, "lost")
	ok(t, s.Snap("a", "one"))
	ok(t, f.Release(k))
	ok(t, s.Clone("a", "one", "b"))
	ok(t, s.Snap("b", "two"))
	ok(t, s.Clone("a", "one", "c"))
	ok(t, s.Rollback("b", "two"))
	same(t, "b", picture(treeOf(t, s, "b")), picture(f))
	ok(t, s.Drop("c"))
	ok(t, s.DropSnap("b", "two"))
	ok(t, s.Drop("b"))
	ok(t, s.DropSnap("a", "one"))
	ok(t, s.Drop("a"))
	if used := s.Pool().Use().Used; used != before {
		t.Errorf("%d rows are in use, were %d", used, before)
	}
}

func TestDrop(t *testing.T) {
	s, _ := begin(t)
	ok(t, s.New("a", false))
	ok(t, s.New("b", false))
	f := treeOf(t, s, "a")
	n := file(t, f, "x", "one")
	ok(t, s.Snap("a", "one"))
	ok(t, f.Hold(n))
	is(t, s.Drop("a"), api.ErrNotEmpty)
	ok(t, s.DropSnap("a", "one"))
	is(t, s.Drop("a"), api.ErrBusy)
	same(t, "what is held", fmt.Sprint(f.Held()), "1")
	ok(t, f.Release(n))
	ok(t, s.Drop("a"))
	is(t, s.Drop("a"), api.ErrMissing)
	if names(t, s, "b"); len(s.trees) != 1 {
		t.Error("the tree of a set that is no more is kept")
	}
	_, err := s.Tree("a")
	is(t, err, api.ErrMissing)
	ok(t, s.New("a", true))
	g := treeOf(t, s, "a")
	_, err = g.Stat(n)
	is(t, err, api.ErrNode)
	snaps(t, s, "a")
}

// What comes out is the caller's.
func TestOwnMemory(t *testing.T) {
	s, _ := begin(t)
	for _, name := range []string{"a", "b", "c"} {
		ok(t, s.New(name, false))
		ok(t, s.Snap("a", name))
	}
	for _, f := range []func() ([]string, error){s.Names, func() ([]string, error) { return s.Snaps("a") }} {
		l, err := f()
		ok(t, err)
		for i := range l[:cap(l)] {
			l[:cap(l)][i] = "other"
		}
		l, err = f()
		if ok(t, err); !slices.Equal(l, []string{"a", "b", "c"}) {
			t.Errorf("%q", l)
		}
	}
}

// A commit by which something is done: all of it lasts, or it is undone.
func TestCommitBy(t *testing.T) {
	s, disks := begin(t)
	ok(t, s.New("a", false))
	f := treeOf(t, s, "a")
	is(t, s.CommitBy(func() error {
		file(t, f, "x", "x")
		return api.ErrLoop
	}), api.ErrLoop)
	if f.Turn() != 0 || len(s.Pool().Root()) > 0 {
		t.Error("it was not undone")
	}
	ok(t, s.CommitBy(func() error {
		file(t, f, "x", "x")
		return s.Snap("a", "one")
	}))
	is(t, s.Pool().Try(s.Commit), api.ErrOrder)
	is(t, s.Pool().Try(func() error {
		return s.CommitBy(func() error { t.Error("done within a Try"); return nil })
	}), api.ErrOrder)
	want := whole(s)
	same(t, "opened anew", whole(reopen(t, disks, single)), want)
}

// Whether all but one tree is what the last commit left.
func TestSettled(t *testing.T) {
	s, disks := begin(t)
	ok(t, s.New("a", false))
	ok(t, s.New("b", false))
	a, b := treeOf(t, s, "a"), treeOf(t, s, "b")
	settled := func(want bool, but *fs.FS) {
		t.Helper()
		is, err := s.Settled(but)
		if ok(t, err); is != want {
			t.Errorf("settled: %v", is)
		}
	}
	settled(false, a)
	ok(t, s.Commit())
	settled(true, a)
	settled(true, nil)
	file(t, a, "x", "x")
	settled(true, a)
	settled(false, b)
	settled(false, nil)
	ok(t, s.Snap("a", "one"))
	settled(false, a)
	ok(t, s.Commit())
	settled(true, nil)
	for _, call := range []func() error{
		func() error { return s.Clone("a", "one", "c") }, func() error { return s.Rename("c", "d") }, func() error { return s.Drop("d") },
		func() error { return s.DropSnap("a", "one") }, func() error { return s.New("e", true) },
	} {
		ok(t, call())
		settled(false, a)
		ok(t, s.Commit())
		settled(true, a)
	}
	s = reopen(t, disks, single)
	settled(true, nil)
	b = treeOf(t, s, "b")
	settled(true, nil)
	file(t, b, "y", "y")
	settled(false, nil)
	settled(true, b)
}

// A set's number stays the same, and is never another one's.
func TestNumbers(t *testing.T) {
	s, _ := begin(t)
	ok(t, s.New("a", false))
	ok(t, s.New("b", false))
	n, err := s.Number("a")
	ok(t, err)
	f := treeOf(t, s, "a")
	ok(t, s.Rename("a", "c"))
	m, err := s.Number("c")
	if ok(t, err); m != n {
		t.Errorf("%d, was %d", m, n)
	}
	if g, err := s.Numbered(n); err != nil || g != f {
		t.Errorf("another tree, %v", err)
	}
	for _, name := range []string{"a", "", "b/"} {
		want := api.ErrName
		if name == "a" {
			want = api.ErrMissing
		}
		n, err := s.Number(name)
		if is(t, err, want); n != 0 {
			t.Error("a number, with an error")
		}
	}
	ok(t, s.Drop("c"))
	ok(t, s.New("a", false))
	g, err := s.Numbered(n)
	if is(t, err, api.ErrMissing); g != nil {
		t.Error("a tree, with an error")
	}
}
