package flow

import (
	"bytes"
	"errors"
	"fmt"
	"slices"
	"strings"
	"testing"

	"bedrock/api"
	"bedrock/fs"
	"bedrock/node"
	"bedrock/pool"
	"bedrock/snap"
	"bedrock/tree"
)

func ok(t *testing.T, err error) {
	t.Helper()
	if err != nil {
		t.Fatal(err)
	}
}

func is(t *testing.T, err, want error) {
	t.Helper()
	if !errors.Is(err, want) {
		t.Fatalf("%v, wanted %v", err, want)
	}
}

var (
	boss   = api.Cred{}
	single = api.Shape{Data: 1}
)

// made makes sets in a pool of that number, over disks of so many sectors.
func made(t *testing.T, shape api.Shape, size int, id uint64) (*snap.Sets, []*api.Disk) {
	t.Helper()
	var l []*api.Disk
	for range shape.Data + shape.Level {
		l = append(l, api.NewDisk(size))
	}
	p, err := pool.Format(l, shape, id)
	ok(t, err)
	s, err := snap.Make(p)
	ok(t, err)
	return s, l
}

// begin makes sets in a pool of that number.
func begin(t *testing.T, id uint64) *snap.Sets {
	t.Helper()
	s, _ := made(t, single, 60000, id)
	return s
}

// reopen takes up the sets that disks have.
func reopen(t *testing.T, l []*api.Disk, shape api.Shape) *snap.Sets {
	t.Helper()
	p, err := pool.Open(l, shape)
	ok(t, err)
	s, err := snap.Open(p)
	ok(t, err)
	return s
}

func treeOf(t *testing.T, s *snap.Sets, name string) *fs.FS {
	t.Helper()
	f, err := s.Tree(name)
	ok(t, err)
	return f
}

func at(t *testing.T, s *snap.Sets, name, shot string) *fs.FS {
	t.Helper()
	f, err := s.At(name, shot)
	ok(t, err)
	return f
}

func sent(t *testing.T, s *snap.Sets, name, from, to string) []byte {
	t.Helper()
	b, err := Send(s, name, from, to)
	if ok(t, err); len(b) == 0 || len(b) > api.MaxStream {
		t.Fatalf("a stream of %d bytes", len(b))
	}
	return b
}

// file makes a file with some bytes.
func file(t *testing.T, f *fs.FS, name, text string) uint64 {
	t.Helper()
	n, err := f.Create(boss, 1, name, api.New{Kind: api.File, Mode: 0o644})
	ok(t, err)
	ok(t, f.Write(boss, n, 0, []byte(text)))
	return n
}

// lost lets a file be held, and have no name.
func lost(t *testing.T, f *fs.FS, name, text string) uint64 {
	t.Helper()
	n := file(t, f, name, text)
	ok(t, f.Hold(n))
	ok(t, f.Remove(boss, 1, name))
	return n
}

// picture is all that a tree is, by what its map has, but for the blocks in which it lies.
func picture(t *testing.T, f *fs.FS) string {
	t.Helper()
	var s strings.Builder
	fmt.Fprintln(&s, f.Turn())
	for p, err := range f.Map().Scan(nil, nil) {
		ok(t, err)
		if !node.OfPage(p.Key) {
			fmt.Fprintf(&s, "%x: %x\n", p.Key, p.Val)
		}
	}
	none := node.On(tree.New(f.Map().Pool()))
	for x, err := range node.Pages(none, node.On(f.Map())) {
		ok(t, err)
		b, err := node.On(f.Map()).Read(x.Node, x.Page*api.PageSize, api.PageSize)
		ok(t, err)
		fmt.Fprintf(&s, "%v: %x\n", x, b)
	}
	return s.String()
}

// tells is what a tree tells by its own calls.
func tells(t *testing.T, f *fs.FS) string {
	t.Helper()
	var s strings.Builder
	fmt.Fprintln(&s, f.Turn())
	var l []uint64
	for n, err := range node.On(f.Map()).Nodes() {
		ok(t, err)
		l = append(l, n)
	}
	for _, n := range l {
		a, err := f.Stat(n)
		target, err1 := f.Target(n)
		entries, err2 := f.List(boss, n, "", 1000)
		b, err3 := f.Read(boss, n, 0, 65536)
		names, err4 := f.Extras(boss, n)
		fmt.Fprintln(&s, n, a, err, target, err1, entries, err2, bytes.TrimRight(b, "\x00"), err3, names, err4)
		for _, name := range names {
			b, err := f.Extra(boss, n, name)
			fmt.Fprintln(&s, name, b, err)
		}
	}
	for i := range 5 {
		for kind := 1; kind < 3; kind++ {
			u, err := f.Usage(kind, i)
			q, err1 := f.Limit(kind, i)
			fmt.Fprintln(&s, kind, i, u, err, q, err1)
		}
	}
	return s.String()
}

func same(t *testing.T, what, got, want string) {
	t.Helper()
	if got != want {
		t.Fatalf("%s: %s\nwanted %s", what, got, want)
	}
}

// alike: two snapshots are the same.
func alike(t *testing.T, s *snap.Sets, name, shot string, r *snap.Sets, as, other string) {
	t.Helper()
	f, g := at(t, s, name, shot), at(t, r, as, other)
	same(t, other, picture(t, g), picture(t, f))
	same(t, other, tells(t, g), tells(t, f))
}

// garden makes a tree in which there is something of each kind.
func garden(t *testing.T, f *fs.FS) {
	t.Helper()
	n := file(t, f, "File", "some text")
	ok(t, f.Write(boss, n, 5000, []byte("behind a hole")))
	ok(t, f.SetExtra(boss, n, "e", []byte("extra")))
	ok(t, f.SetExtra(boss, n, strings.Repeat("\x00", api.MaxPart), bytes.Repeat([]byte{7}, api.MaxAttrVal)))
	ok(t, f.SetExtra(boss, n, "empty", nil))
	ok(t, f.Link(boss, n, 1, "other name"))
	d, err := f.Create(api.Cred{Uid: 0, Gids: []int{4}}, 1, "Dir", api.New{Kind: api.Dir, Mode: 0o2777})
	ok(t, err)
	ok(t, f.Change(boss, d, api.Set{What: 8, Project: 3}))
	m, err := f.Create(api.Cred{Uid: 2, Gids: []int{5}}, d, strings.Repeat("ÄΩ", 10), api.New{Kind: api.File, Mode: 0o4755})
	ok(t, err)
	ok(t, f.Clone(boss, n, 0, m, 3, 64))
	_, err = f.Create(api.Cred{Uid: 1}, d, "link", api.New{Kind: api.Link, Mode: 0o777, Target: strings.Repeat("/Dir/..", 57)})
	ok(t, err)
	ok(t, f.SetLimit(1, 1, api.Quota{Nodes: 9, Pages: 99}))
	ok(t, f.SetLimit(2, 4, api.Quota{Nodes: 1}))
	lost(t, f, "lost", "has no name")
	e, err := f.Create(boss, 1, "lost dir", api.New{Kind: api.Dir, Mode: 0o700})
	ok(t, err)
	ok(t, f.Hold(e))
	ok(t, f.Remove(boss, 1, "lost dir"))
	k := file(t, f, "long", "x")
	ok(t, f.Write(boss, k, 1<<40-300, bytes.Repeat([]byte{1}, 300)))
}

// What was sent comes to be, by whatever stream, and whatever has no names is in the snapshot, and not in the tree.
func TestAllThereIs(t *testing.T) {
	for _, shape := range []api.Shape{single, {Data: 6, Level: 2}, {Data: 1, Level: 1}, {Data: 3, Level: 1}} {
		for _, fold := range []bool{false, true} {
			s, r := begin(t, 1), must(made(t, shape, 20000, 2))
			ok(t, s.New("a", fold))
			f := treeOf(t, s, "a")
			ok(t, s.Snap("a", "empty"))
			garden(t, f)
			ok(t, s.Snap("a", "full"))
			ok(t, Receive(r, sent(t, s, "a", "", "empty"), "step by step", "1"))
			ok(t, Receive(r, sent(t, s, "a", "empty", "full"), "step by step", "2"))
			ok(t, Receive(r, sent(t, s, "a", "", "full"), "at once", "2"))
			alike(t, s, "a", "empty", r, "step by step", "1")
			for _, name := range []string{"step by step", "at once"} {
				alike(t, s, "a", "full", r, name, "2")
				ok(t, r.Clone(name, "2", name+", reaped"))
				same(t, name, picture(t, treeOf(t, r, name)), picture(t, treeOf(t, r, name+", reaped")))
				if treeOf(t, r, name).Held() != 0 {
					t.Error("something is held")
				}
			}
			ok(t, s.Clone("a", "full", "b"))
			same(t, "the tree", picture(t, treeOf(t, r, "at once")), picture(t, treeOf(t, s, "b")))
			n := file(t, treeOf(t, r, "at once"), "new", "new")
			if want := file(t, treeOf(t, s, "b"), "new", "new"); n != want {
				t.Errorf("the next node is %d, wanted %d", n, want)
			}
			same(t, "the tree", picture(t, treeOf(t, r, "at once")), picture(t, treeOf(t, s, "b")))
		}
	}
}

func must(s *snap.Sets, _ []*api.Disk) *snap.Sets { return s }

// Example 11 of the document.
func TestExample(t *testing.T) {
	s, r := begin(t, 1), begin(t, 2)
	ok(t, s.New("a", false))
	for _, shot := range []string{"one", "two", "three"} {
		file(t, treeOf(t, s, "a"), shot, "text of "+shot)
		ok(t, s.Snap("a", shot))
	}
	ok(t, Receive(r, sent(t, s, "a", "", "one"), "a", "one"))
	ok(t, Receive(r, sent(t, s, "a", "one", "two"), "a", "two"))
	is(t, Receive(r, sent(t, s, "a", "one", "two"), "a", "three"), api.ErrBase)
	ok(t, treeOf(t, r, "a").Change(boss, 1, api.Set{What: 1, Mode: 0o700}))
	is(t, Receive(r, sent(t, s, "a", "two", "three"), "a", "three"), api.ErrBase)
	ok(t, r.Rollback("a", "two"))
	ok(t, Receive(r, sent(t, s, "a", "two", "three"), "a", "three"))
	for _, shot := range []string{"one", "two", "three"} {
		alike(t, s, "a", shot, r, "a", shot)
	}
	if l, err := r.Snaps("a"); err != nil || !slices.Equal(l, []string{"one", "two", "three"}) {
		t.Errorf("%q, %v", l, err)
	}
}

// A stream may leave snapshots out, go on from one that came by a stream, and come back to where it came from.
func TestWays(t *testing.T) {
	s, r, q := begin(t, 1), begin(t, 2), begin(t, 3)
	ok(t, s.New("a", true))
	f := treeOf(t, s, "a")
	for i := range 4 {
		file(t, f, fmt.Sprint("file", i), fmt.Sprint("text ", i))
		ok(t, s.Snap("a", fmt.Sprint(i)))
	}
	ok(t, Receive(r, sent(t, s, "a", "", "0"), "b", "zero"))
	ok(t, Receive(r, sent(t, s, "a", "0", "2"), "b", "two"))
	ok(t, Receive(r, sent(t, s, "a", "2", "3"), "b", "three"))
	ok(t, Receive(q, sent(t, s, "a", "", "0"), "c", "nil"))
	ok(t, Receive(q, sent(t, r, "b", "zero", "three"), "c", "drei"))
	alike(t, s, "a", "3", q, "c", "drei")
	is(t, Receive(q, sent(t, r, "b", "zero", "three"), "c", "again"), api.ErrBase)
	ok(t, s.Rename("a", "renamed")) // a snapshot's origin is still what it was
	f = treeOf(t, s, "renamed")
	file(t, f, "more", "more")
	ok(t, s.Snap("renamed", "4"))
	ok(t, r.Rename("b", "bee"))
	ok(t, Receive(r, sent(t, s, "renamed", "3", "4"), "bee", "four"))
	ok(t, Receive(q, sent(t, r, "bee", "three", "four"), "c", "vier"))
	alike(t, s, "renamed", "4", q, "c", "vier")
	// what a receiver makes of it goes back to the sender
	file(t, treeOf(t, q, "c"), "mine", "of q")
	ok(t, q.Snap("c", "five"))
	ok(t, Receive(s, sent(t, q, "c", "vier", "five"), "renamed", "5"))
	alike(t, q, "c", "five", s, "renamed", "5")
	if treeOf(t, s, "renamed") != f {
		t.Error("the tree is another one")
	}
	same(t, "the tree", picture(t, f), picture(t, treeOf(t, q, "c")))
	is(t, Receive(r, sent(t, s, "renamed", "3", "5"), "bee", "five"), api.ErrBase)
	ok(t, Receive(r, sent(t, s, "renamed", "4", "5"), "bee", "five"))
	alike(t, q, "c", "five", r, "bee", "five")
	// in one pool, too
	ok(t, Receive(s, sent(t, s, "renamed", "", "3"), "twin", "x"))
	ok(t, Receive(s, sent(t, s, "renamed", "3", "5"), "twin", "y"))
	alike(t, q, "c", "five", s, "twin", "y")
	ok(t, s.DropSnap("renamed", "5"))
	is(t, Receive(s, sent(t, s, "twin", "x", "y"), "renamed", "5"), api.ErrBase)
	ok(t, s.DropSnap("renamed", "4"))
	is(t, Receive(s, sent(t, s, "twin", "x", "y"), "renamed", "5"), api.ErrBase) // it is still what it was at 5
	ok(t, s.Rollback("renamed", "3"))
	ok(t, Receive(s, sent(t, s, "twin", "x", "y"), "renamed", "5"))
}

// A snapshot that took another one's name, and one of another pool, are not the same.
func TestNamesAreNoOrigins(t *testing.T) {
	s, r := begin(t, 1), begin(t, 2)
	for _, x := range []*snap.Sets{s, r} {
		ok(t, x.New("a", false))
		ok(t, x.Snap("a", "one"))
		ok(t, x.Snap("a", "two"))
	}
	b := sent(t, s, "a", "one", "two")
	ok(t, r.DropSnap("a", "two"))
	is(t, Receive(r, b, "a", "two"), api.ErrBase)
	ok(t, s.DropSnap("a", "two"))
	ok(t, s.DropSnap("a", "one"))
	ok(t, s.Snap("a", "one"))
	is(t, Receive(s, b, "a", "two"), api.ErrBase)
	ok(t, s.Clone("a", "one", "b"))
	is(t, Receive(s, b, "b", "two"), api.ErrBase)
	ok(t, s.Snap("b", "one"))
	is(t, Receive(s, b, "b", "two"), api.ErrBase)
}

// What goes in is only read, and what comes out is the caller's.
func TestOwnMemory(t *testing.T) {
	s, r := begin(t, 1), begin(t, 2)
	ok(t, s.New("a", false))
	garden(t, treeOf(t, s, "a"))
	ok(t, s.Snap("a", "one"))
	before := picture(t, at(t, s, "a", "one"))
	b := sent(t, s, "a", "", "one")
	c := slices.Clone(b)
	ok(t, Receive(r, b, "a", "one"))
	if !bytes.Equal(b, c) {
		t.Error("Receive changes what it is given")
	}
	b = b[:cap(b)]
	for i := range b {
		b[i] = 99
	}
	alike(t, s, "a", "one", r, "a", "one")
	same(t, "the sender's", picture(t, at(t, s, "a", "one")), before)
	if !bytes.Equal(sent(t, s, "a", "", "one"), c) {
		t.Error("the stream is another one")
	}
}

// What was received has in common what is the same in it: a stream that brings little takes few rows, and so do Snap and Clone.
func TestRows(t *testing.T) {
	s, r := begin(t, 1), begin(t, 2)
	ok(t, s.New("a", false))
	f := treeOf(t, s, "a")
	for i := range 300 {
		name := fmt.Sprint("file", i)
		if i%2 > 0 {
			file(t, f, name, "some text")
		} else {
			lost(t, f, name, "some text")
		}
	}
	ok(t, s.Snap("a", "0"))
	ok(t, Receive(r, sent(t, s, "a", "", "0"), "b", "0"))
	few := func(what string, do func() error) {
		t.Helper()
		was := r.Pool().Use().Used
		ok(t, do())
		if more := r.Pool().Use().Used - was; more > 40 {
			t.Errorf("%s takes %d rows", what, more)
		}
	}
	for i := range 9 {
		from, to := fmt.Sprint(i), fmt.Sprint(i+1)
		ok(t, f.Write(boss, 3, 0, []byte(to)))
		ok(t, s.Snap("a", to))
		few("Receive", func() error { return Receive(r, sent(t, s, "a", from, to), "b", to) })
		few("Snap", func() error { return r.Snap("b", "mine") })
		few("Clone", func() error { return r.Clone("b", to, "c") })
		few("Snap of the clone", func() error { return r.Snap("c", "mine") })
		ok(t, r.DropSnap("c", "mine"))
		ok(t, r.Drop("c"))
		ok(t, r.DropSnap("b", "mine"))
	}
	dropAll(t, r)
}
