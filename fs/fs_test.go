package fs

import (
	"errors"
	"fmt"
	"maps"
	"slices"
	"strings"
	"testing"

	"bedrock/api"
	"bedrock/code"
	"bedrock/pool"
	"bedrock/tree"
)

func ok(t *testing.T, err error) {
	t.Helper()
	if err != nil {
		t.Fatal(err)
	}
}

func is(t *testing.T, err, want error) {
	t.Helper()
	if !errors.Is(err, want) {
		t.Fatalf("%v, wanted %v", err, want)
	}
}

// made makes a pool, over disks of so many sectors.
func made(t *testing.T, shape api.Shape, size int) (*pool.Pool, []*api.Disk) {
	t.Helper()
	var l []*api.Disk
	for range shape.Data + shape.Level {
		l = append(l, api.NewDisk(size))
	}
	p, err := pool.Format(l, shape, 1)
	ok(t, err)
	return p, l
}

// begin makes a new tree.
func begin(t *testing.T, fold bool) *FS {
	t.Helper()
	p, _ := made(t, api.Shape{Data: 1}, 40000)
	f, err := Make(tree.New(p), fold)
	ok(t, err)
	return f
}

var (
	boss = api.Cred{}
	ann  = api.Cred{Uid: 1, Gids: []int{10, 11}}
	bob  = api.Cred{Uid: 2, Gids: []int{20, 10}}
	cid  = api.Cred{Uid: 3}
)

// creates makes a node.
func creates(t *testing.T, f *FS, c api.Cred, d uint64, name string, kind api.NodeKind, mode int) uint64 {
	t.Helper()
	what := api.New{Kind: kind, Mode: mode}
	if kind == api.Link {
		what.Target = "target"
	}
	n, err := f.Create(c, d, name, what)
	ok(t, err)
	return n
}

// links makes a link to a target.
func links(t *testing.T, f *FS, d uint64, name, target string) uint64 {
	t.Helper()
	n, err := f.Create(boss, d, name, api.New{Kind: api.Link, Mode: 0o777, Target: target})
	ok(t, err)
	return n
}

// stat is what a node is.
func stat(t *testing.T, f *FS, n uint64) api.Attr {
	t.Helper()
	a, err := f.Stat(n)
	ok(t, err)
	return a
}

// has fails, if a directory has not these names and nodes.
func has(t *testing.T, f *FS, d uint64, want ...any) {
	t.Helper()
	l, err := f.List(boss, d, "", 1000)
	ok(t, err)
	var got []any
	for _, e := range l {
		got = append(got, e.Name, e.Node)
	}
	if !slices.Equal(got, want) {
		t.Fatalf("%d has %v, wanted %v", d, got, want)
	}
}

// picture is all that a tree tells.
func picture(t *testing.T, f *FS) string {
	t.Helper()
	var s strings.Builder
	fmt.Fprintln(&s, f.Turn(), f.Held())
	for n, err := range f.table.Nodes() {
		ok(t, err)
		target, _ := f.Target(n)
		l, _ := f.List(boss, n, "", 1000)
		b, _ := f.Read(boss, n, 0, 65536)
		fmt.Fprintf(&s, "%d %+v %q %v %q\n", n, stat(t, f, n), target, l, b)
		names, err := f.Extras(boss, n)
		ok(t, err)
		for _, name := range names {
			v, err := f.Extra(boss, n, name)
			ok(t, err)
			fmt.Fprintf(&s, "%q %q\n", name, v)
		}
	}
	for _, who := range []owner{{1, 0}, {1, 1}, {1, 2}, {1, 3}, {2, 1}, {2, 2}, {2, 3}} {
		u, err := f.Usage(who.kind, who.id)
		ok(t, err)
		l, err := f.Limit(who.kind, who.id)
		ok(t, err)
		fmt.Fprintln(&s, who, u, l)
	}
	return s.String()
}

// refused fails, if a call does not answer an error, or changes something.
func refused(t *testing.T, f *FS, want error, call func() error) {
	t.Helper()
	before := f.table.Root()
	held := maps.Clone(f.held)
	turn := f.Turn()
	is(t, call(), want)
	if f.table.Root() != before || !maps.Equal(f.held, held) || f.Turn() != turn {
		t.Fatal("something was changed")
	}
}

func TestMake(t *testing.T) {
	for _, fold := range []bool{false, true} {
		p, _ := made(t, api.Shape{Data: 1}, 4000)
		m := tree.New(p)
		f, err := Make(m, fold)
		if ok(t, err); f.Map() != m || f.Turn() != 0 || f.Held() != 0 {
			t.Errorf("%v, turn %d, %d held", f.Map(), f.Turn(), f.Held())
		}
		want := api.Attr{Kind: api.Dir, Mode: 0o755, Fold: fold, Parent: 1, Links: 1}
		if a := stat(t, f, 1); a != want {
			t.Errorf("the root is %+v", a)
		}
		has(t, f, 1)
		if u, err := f.Usage(1, 0); err != nil || u != (api.Quota{Nodes: 1}) {
			t.Errorf("usage %v, %v", u, err)
		}
		if n, err := f.Walk(boss, 1, "/", false); err != nil || n != 1 {
			t.Errorf("%d, %v", n, err)
		}
		creates(t, f, boss, 1, "x", api.File, 0)
		before := m.Root()
		if g, err := Make(m, fold); g != nil || api.Tell(err) != api.ErrExists || m.Root() != before {
			t.Errorf("once more: %v, %v", g, err)
		}
	}
}

// TestOn: a tree that is taken up again is what it was; a map without pairs has none.
func TestOn(t *testing.T) {
	p, l := made(t, api.Shape{Data: 1}, 4000)
	f, err := Make(tree.New(p), true)
	ok(t, err)
	fill(t, f)
	ok(t, f.Hold(1))
	want := picture(t, On(f.Map()))
	if got := picture(t, Fixed(f.Map())); got != want {
		t.Errorf("fixed:\n%s\nwanted\n%s", got, want)
	}
	ok(t, p.Commit(nil))
	q, err := pool.Open(l, api.Shape{Data: 1})
	ok(t, err)
	g := On(tree.Load(q, f.Map().Root()))
	if got := picture(t, g); got != want {
		t.Errorf("opened anew:\n%s\nwanted\n%s", got, want)
	}
	if n := creates(t, g, boss, 1, "next", api.File, 0); n != creates(t, f, boss, 1, "next", api.File, 0) || g.Turn() != f.Turn() {
		t.Errorf("%d at turn %d", n, g.Turn())
	}
	none := On(tree.New(p))
	if none.Turn() != 0 {
		t.Errorf("turn %d of no tree", none.Turn())
	}
	_, err = none.Stat(1)
	is(t, err, api.ErrNode)
	_, err = none.Create(boss, 1, "a", api.New{Kind: api.File})
	is(t, err, api.ErrNode)
	ok(t, none.Reap())
}

// fill makes nodes of all kinds, 2 to 7, with all that they may have. The last one has no names, and is held.
func fill(t *testing.T, f *FS) {
	t.Helper()
	d := creates(t, f, boss, 1, "Dir", api.Dir, 0o3777)
	ok(t, f.Change(boss, d, api.Set{What: 12, Gid: 10, Project: 1}))
	x := creates(t, f, ann, d, "File", api.File, 0o6666)
	ok(t, f.Write(ann, x, 300, []byte("bytes")))
	ok(t, f.Link(bob, x, d, "other"))
	e := creates(t, f, bob, d, "inner", api.Dir, 0o755)
	y := creates(t, f, bob, e, "y", api.File, 0o600)
	ok(t, f.Clone(boss, x, 1, y, 3, 1))
	ok(t, f.SetExtra(ann, x, "name", []byte("value")))
	ok(t, f.SetExtra(bob, e, "none", nil))
	links(t, f, 1, "link", strings.Repeat("dir/../", 50))
	z := creates(t, f, boss, 1, "z", api.File, 0)
	ok(t, f.Write(boss, z, 0, make([]byte, 5000)))
	ok(t, f.Hold(z))
	ok(t, f.Remove(boss, 1, "z"))
	ok(t, f.SetLimit(1, 2, api.Quota{Nodes: 20, Pages: 9}))
	ok(t, f.SetLimit(2, 3, api.Quota{Pages: 9}))
}

// Nodes that fill makes.
const (
	dirNode = 2 + iota
	fileNode
	innerNode
	yNode
	linkNode
	heldNode
)

// TestKeys: what a tree has lies under the keys of nodes, of directories, and its own.
func TestKeys(t *testing.T) {
	f := begin(t, true)
	fill(t, f)
	for p, err := range f.Map().Scan(nil, nil) {
		ok(t, err)
		l, err := code.Parts(p.Key)
		if ok(t, err); l[0].Kind != api.Number || l[0].Num > 19 {
			t.Errorf("a key of %v", l)
		}
	}
}

// wrongCalls is all calls by which a tree is changed; what can be wrong with them is.
func wrongCalls(f *FS) map[string]func() error {
	return map[string]func() error{
		"Create":   func() error { _, err := f.Create(ann, 99, "/", api.New{}); return err },
		"Link":     func() error { return f.Link(ann, 99, 98, "/") },
		"Remove":   func() error { return f.Remove(ann, 99, "/") },
		"Rename":   func() error { return f.Rename(ann, 99, "/", 98, "/", 7) },
		"Write":    func() error { return f.Write(ann, 99, -1, make([]byte, 70000)) },
		"Write 0":  func() error { return f.Write(ann, 99, -1, nil) },
		"Cut":      func() error { return f.Cut(ann, 99, -1) },
		"Punch":    func() error { return f.Punch(ann, 99, -1, -1) },
		"Clone":    func() error { return f.Clone(ann, 99, -1, 98, -1, -1) },
		"Change":   func() error { return f.Change(ann, 99, api.Set{What: 16}) },
		"Change 0": func() error { return f.Change(ann, 99, api.Set{}) },
		"SetExtra": func() error { return f.SetExtra(ann, 99, "", make([]byte, 300)) },
		"DelExtra": func() error { return f.DelExtra(ann, 99, "") },
		"Reap":     func() error { return f.Reap() },
		"SetLimit": func() error { return f.SetLimit(0, -1, api.Quota{Nodes: -1}) },
	}
}

// TestFixed: a tree that never changes refuses all changes, ahead of all other errors; but it can be looked at, and held.
func TestFixed(t *testing.T) {
	f := begin(t, false)
	fill(t, f)
	s, err := f.Map().Snap()
	ok(t, err)
	g := Fixed(s)
	for name, call := range wrongCalls(g) {
		if err := call(); api.Tell(err) != api.ErrReadOnly {
			t.Errorf("%s: %v", name, err)
		}
	}
	x := creates(t, f, boss, 1, "x", api.File, 0)
	is(t, g.Hold(x), api.ErrNode)
	before, root := picture(t, g), s.Root()
	const z = heldNode // without names
	ok(t, g.Hold(z))
	ok(t, g.Hold(z))
	if g.Held() != 1 {
		t.Errorf("%d are held", g.Held())
	}
	ok(t, g.Release(z))
	ok(t, g.Release(z))
	is(t, g.Release(z), api.ErrOrder)
	if picture(t, g) != before || s.Root() != root {
		t.Error("it changed")
	}
}

// TestNoNode: a number of no node is told ahead of all other errors.
func TestNoNode(t *testing.T) {
	f := begin(t, false)
	fill(t, f)
	calls := wrongCalls(f)
	delete(calls, "Reap")
	delete(calls, "SetLimit")
	more := map[string]func() error{
		"Walk":         func() error { _, err := f.Walk(ann, 99, strings.Repeat("/", 500), true); return err },
		"Walk of none": func() error { _, err := f.Walk(ann, 99, "", true); return err },
		"Stat":         func() error { _, err := f.Stat(99); return err },
		"May":          func() error { return f.May(ann, 99, 8) },
		"List":         func() error { _, err := f.List(ann, 99, "/", 0); return err },
		"Link's node":  func() error { return f.Link(ann, 99, 3, "/") },
		"Link's dir":   func() error { return f.Link(ann, 2, 99, "/") },
		"Rename's d":   func() error { return f.Rename(ann, 99, "/", 3, "/", 7) },
		"Rename's to":  func() error { return f.Rename(ann, 3, "/", 99, "/", 7) },
		"Clone's from": func() error { return f.Clone(ann, 99, -1, 1, -1, -1) },
		"Clone's to":   func() error { return f.Clone(ann, 1, -1, 99, -1, -1) },
		"Target":       func() error { _, err := f.Target(99); return err },
		"Read":         func() error { _, err := f.Read(ann, 99, -1, 70000); return err },
		"Extra":        func() error { _, err := f.Extra(ann, 99, ""); return err },
		"Extras":       func() error { _, err := f.Extras(ann, 99); return err },
		"Hold":         func() error { return f.Hold(99) },
		"Release":      func() error { return f.Release(99) },
	}
	maps.Copy(calls, more)
	for name, call := range calls {
		t.Run(name, func(t *testing.T) { refused(t, f, api.ErrNode, call) })
	}
}

// TestTurns: each call that changes something is a turn, whose number the nodes have that it is about.
func TestTurns(t *testing.T) {
	f := begin(t, true)
	turn := uint64(0)
	// turns fails, if a call is no turn, or other nodes than these are of it.
	turns := func(err error, of ...uint64) {
		t.Helper()
		ok(t, err)
		if turn++; f.Turn() != turn {
			t.Fatalf("turn %d, wanted %d", f.Turn(), turn)
		}
		for n, err := range f.table.Nodes() {
			ok(t, err)
			if got := stat(t, f, n).Turn; got > turn || (got == turn) != slices.Contains(of, n) {
				t.Errorf("%d is of turn %d", n, got)
			}
		}
	}
	create := func(d uint64, name string, kind api.NodeKind) uint64 {
		t.Helper()
		n, err := f.Create(boss, d, name, api.New{Kind: kind})
		turns(err, d, n)
		return n
	}
	d, e := create(1, "d", api.Dir), create(1, "e", api.Dir)
	x, y := create(d, "x", api.File), create(e, "y", api.File)
	turns(f.Link(boss, x, e, "x"), x, e)
	turns(f.Link(boss, y, e, "yy"), y, e)
	turns(f.Remove(boss, e, "yy"), y, e)
	turns(f.Rename(boss, d, "x", e, "z", 0), d, e, x)
	turns(f.Rename(boss, e, "z", e, "Z", 1), e, x)
	turns(f.Rename(boss, e, "z", e, "y", 2), e, x, y)
	turns(f.Rename(boss, e, "x", d, "u", 1), d, e, x)
	turns(f.Link(boss, y, d, "y"), y, d)
	turns(f.Rename(boss, d, "u", d, "y", 0), d, x, y) // y has another name
	turns(f.Rename(boss, e, "z", d, "y", 2), d, e, x, y)
	turns(f.Write(boss, x, 0, []byte("a")), x)
	turns(f.Write(boss, x, 0, []byte("a")), x)
	turns(f.Cut(boss, x, 1), x)
	turns(f.Punch(boss, x, 9, 9), x)
	turns(f.Clone(boss, x, 0, y, 0, 0), y)
	turns(f.Clone(boss, x, 0, x, 0, 1), x)
	turns(f.Change(boss, d, api.Set{What: 15}), d)
	turns(f.SetExtra(boss, y, "k", nil), y)
	turns(f.SetExtra(boss, y, "k", nil), y)
	turns(f.DelExtra(boss, y, "k"), y)
	ok(t, f.Hold(y))
	turns(f.Remove(boss, d, "y"), d, y)
	turns(f.Remove(boss, e, "Z"), e, x)
	turns(f.Write(boss, y, 0, []byte("without a name")), y)
	for _, c := range []struct {
		name string
		call func() error
	}{
		{"Write of no bytes", func() error { return f.Write(boss, x, 5000, nil) }},
		{"Rename to itself", func() error { return f.Rename(boss, 1, "d", 1, "d", 0) }},
		{"Rename to itself, 1", func() error { return f.Rename(boss, 1, "d", 1, "d", 1) }},
		{"Rename to itself, 2", func() error { return f.Rename(boss, 1, "d", 1, "D", 2) }},
		{"Change of nothing", func() error { return f.Change(boss, x, api.Set{Mode: 1, Uid: 1}) }},
		{"Hold", func() error { return f.Hold(x) }},
		{"Release", func() error { return f.Release(x) }},
		{"Release without names", func() error { return f.Release(y) }},
		{"Reap", func() error { return f.Reap() }},
		{"SetLimit", func() error { return f.SetLimit(1, 0, api.Quota{Nodes: 100}) }},
		{"Read", func() error { _, err := f.Read(boss, x, 0, 1); return err }},
		{"Walk", func() error { _, err := f.Walk(boss, 1, "d", true); return err }},
	} {
		if ok(t, c.call()); f.Turn() != turn {
			t.Errorf("%s is a turn", c.name)
		}
	}
	refused(t, f, api.ErrExists, func() error { return f.Link(boss, x, 1, "d") })
	create(1, "next", api.File)
}

// A tree that becomes another one tells what that tells, and each goes its own way.
func TestBecome(t *testing.T) {
	f := begin(t, false)
	m := f.Map()
	o, err := Make(tree.New(m.Pool()), true)
	ok(t, err)
	_, err = o.Create(api.Cred{}, 1, "Name", api.New{Kind: api.File})
	ok(t, err)
	was := f.Map().Root()
	is(t, m.Try(func() error {
		ok(t, f.Become(o))
		if f.Turn() != 1 {
			t.Errorf("%d turns", f.Turn())
		}
		return api.ErrLoop
	}), api.ErrLoop)
	if f.Map().Root() != was || f.Turn() != 0 {
		t.Error("it was not undone")
	}
	ok(t, f.Become(o))
	n, err := f.Walk(api.Cred{}, 1, "name", false)
	if ok(t, err); n != 2 || f.Turn() != 1 {
		t.Errorf("node %d, behind %d turns", n, f.Turn())
	}
	ok(t, f.Remove(api.Cred{}, 1, "name"))
	if _, err := o.Stat(2); err != nil || o.Turn() != 1 || f.Turn() != 2 {
		t.Error("one is to be seen in the other")
	}
}
