package fs

import (
	"fmt"
	"math"
	"slices"
	"strings"
	"testing"

	"bedrock/api"
)

// fault is what may be wrong with a call, and the error that tells it.
type fault struct {
	name string
	err  api.Errno
	set  func(a *args)
}

// args is what calls are given.
type args struct {
	c        api.Cred
	d, to, n uint64
	name, as string
	what     api.New
	how      int
	at, size int
	page     int
	b        []byte
	set      api.Set
}

// stage is a tree in which all faults can be.
type stage struct {
	*FS
	open, shut, gone, sticky, deep uint64 // directories: of all, of user 0, without a name, one where only owners may remove, one in open
	file, link, secret, bare, many uint64 // nodes: a file of all, a link, a file of user 0, a file without names, one with 100 names
}

func newStage(t *testing.T) *stage {
	t.Helper()
	f := begin(t, true)
	s := &stage{FS: f}
	s.open = creates(t, f, boss, 1, "open", api.Dir, 0o777)
	s.shut = creates(t, f, boss, 1, "shut", api.Dir, 0o744)
	s.gone = creates(t, f, boss, 1, "gone", api.Dir, 0o777)
	s.sticky = creates(t, f, boss, 1, "sticky", api.Dir, 0o1777)
	s.deep = creates(t, f, boss, s.open, "deep", api.Dir, 0o777)
	s.file = creates(t, f, ann, s.open, "file", api.File, 0o666)
	s.link = creates(t, f, ann, s.open, "link", api.Link, 0o666)
	s.secret = creates(t, f, boss, s.open, "secret", api.File, 0o600)
	s.bare = creates(t, f, boss, s.open, "bare", api.File, 0o666)
	s.many = creates(t, f, boss, s.open, "many", api.File, 0o666)
	creates(t, f, boss, s.open, "empty", api.Dir, 0o777)
	creates(t, f, boss, s.deep, "x", api.File, 0o666)
	creates(t, f, boss, s.deep, "more", api.Dir, 0o777)
	creates(t, f, boss, s.sticky, "x", api.File, 0o666)
	creates(t, f, boss, s.sticky, "dir", api.Dir, 0o777)
	creates(t, f, boss, s.shut, "x", api.File, 0o666)
	creates(t, f, bob, s.open, "bob's", api.File, 0o666)
	for i := range api.MaxLinks - 1 {
		ok(t, f.Link(boss, s.many, s.shut, fmt.Sprint(i)))
	}
	ok(t, f.Write(boss, s.file, 0, make([]byte, 600)))
	for i, n := range []uint64{s.gone, s.bare} {
		d := []uint64{1, s.open}[i]
		ok(t, f.Hold(n))
		ok(t, f.Remove(boss, d, []string{"gone", "bare"}[i]))
	}
	ok(t, f.SetLimit(1, 2, api.Quota{Nodes: 1}))
	ok(t, f.SetLimit(1, 1, api.Quota{Pages: 5}))
	ok(t, f.SetLimit(1, 5, api.Quota{Pages: 2}))
	return s
}

// ordered: of two faults the one that the document tells first is told; without one all is well.
func (s *stage) ordered(t *testing.T, call func(a args) error, good args, faults []fault) {
	t.Helper()
	for i, x := range faults {
		for _, y := range faults[i:] {
			a := good
			y.set(&a)
			x.set(&a)
			before := s.table.Root()
			if err := call(a); api.Tell(err) != x.err || s.table.Root() != before {
				t.Errorf("%s, and %s: %v, wanted %v", x.name, y.name, err, x.err)
			}
		}
	}
	is(t, s.Map().Try(func() error {
		ok(t, call(good))
		return errUndo
	}), errUndo)
}

// d is a fault of the directory d; the others likewise.
func inD(name string, err api.Errno, d uint64) fault {
	return fault{name, err, func(a *args) { a.d = d }}
}

func inTo(name string, err api.Errno, to uint64) fault {
	return fault{name, err, func(a *args) { a.to = to }}
}

func inN(name string, err api.Errno, n uint64) fault {
	return fault{name, err, func(a *args) { a.n = n }}
}

func inName(name string, err api.Errno, s string) fault {
	return fault{name, err, func(a *args) { a.name = s }}
}

func inAs(name string, err api.Errno, s string) fault {
	return fault{name, err, func(a *args) { a.as = s }}
}

func TestCreateOrder(t *testing.T) {
	s := newStage(t)
	good := args{c: ann, d: s.open, name: "new", what: api.New{Kind: api.Link, Mode: 0o7777, Target: "t"}}
	kind := func(k api.NodeKind) func(a *args) { return func(a *args) { a.what.Kind = k } }
	mode := func(m int) func(a *args) { return func(a *args) { a.what.Mode = m } }
	s.ordered(t, func(a args) error {
		n, err := s.Create(a.c, a.d, a.name, a.what)
		if err != nil && n != 0 {
			t.Errorf("%d, with an error", n)
		}
		return err
	}, good, []fault{
		inD("no node", api.ErrNode, 999),
		inD("a file", api.ErrNotDir, s.file),
		inD("a file of user 0", api.ErrNotDir, s.secret),
		inD("a link", api.ErrNotDir, s.link),
		inD("no name", api.ErrMissing, s.gone),
		inName("a bad name", api.ErrName, "a/b"),
		inName("no name at all", api.ErrName, ""),
		{"no kind", api.ErrArg, kind(0)},
		{"a high kind", api.ErrArg, kind(4)},
		{"a low kind", api.ErrArg, kind(-1)},
		{"a file with a target", api.ErrArg, func(a *args) { a.what = api.New{Kind: api.File, Target: "t"} }},
		{"a directory with a target", api.ErrArg, func(a *args) { a.what = api.New{Kind: api.Dir, Target: strings.Repeat("t", 401)} }},
		{"a high mode", api.ErrArg, mode(0o10000)},
		{"a low mode", api.ErrArg, mode(-1)},
		{"a long target", api.ErrLong, func(a *args) { a.what = api.New{Kind: api.Link, Target: strings.Repeat("a", 401)} }},
		{"no target", api.ErrMissing, func(a *args) { a.what = api.New{Kind: api.Link} }},
		inD("no access", api.ErrAccess, s.shut),
		inName("a name that is there", api.ErrExists, "FILE"),
		{"too many nodes", api.ErrQuota, func(a *args) { a.c = bob }},
	})
}

func TestLinkOrder(t *testing.T) {
	s := newStage(t)
	good := args{c: ann, n: s.file, d: s.open, name: "new"}
	s.ordered(t, func(a args) error { return s.Link(a.c, a.n, a.d, a.name) }, good, []fault{
		inN("no node", api.ErrNode, 999),
		inD("no directory", api.ErrNode, 999),
		inD("a file", api.ErrNotDir, s.file),
		inD("a file of user 0", api.ErrNotDir, s.secret),
		inD("a link", api.ErrNotDir, s.link),
		inD("no name", api.ErrMissing, s.gone),
		inN("a directory", api.ErrIsDir, s.deep),
		inN("a directory without a name", api.ErrIsDir, s.gone),
		inName("a bad name", api.ErrName, "."),
		inN("a node without names", api.ErrMissing, s.bare),
		inD("no access", api.ErrAccess, s.shut),
		inName("a name that is there", api.ErrExists, "LINK"),
		inN("too many names", api.ErrMany, s.many),
	})
}

func TestRemoveOrder(t *testing.T) {
	s := newStage(t)
	creates(t, s.FS, boss, s.sticky, "full", api.Dir, 0o777)
	d, err := s.Walk(boss, s.sticky, "full", true)
	ok(t, err)
	creates(t, s.FS, boss, d, "x", api.File, 0)
	good := args{c: ann, d: s.open, name: "FILE"}
	s.ordered(t, func(a args) error { return s.Remove(a.c, a.d, a.name) }, good, []fault{
		inD("no node", api.ErrNode, 999),
		inD("a file", api.ErrNotDir, s.file),
		inD("a file of user 0", api.ErrNotDir, s.secret),
		inName("a bad name", api.ErrName, ".."),
		inD("no access", api.ErrAccess, s.shut),
		inName("no such name", api.ErrMissing, "none"),
		{"another one's", api.ErrPerm, func(a *args) { a.d, a.name = s.sticky, "X" }},
		{"another one's, and full", api.ErrPerm, func(a *args) { a.d, a.name = s.sticky, "full" }},
		{"a full one", api.ErrNotEmpty, func(a *args) { a.d, a.name = s.open, "deep" }},
	})
	refused(t, s.FS, api.ErrNotEmpty, func() error { return s.Remove(boss, s.sticky, "full") })
	s.ordered(t, func(a args) error { return s.Remove(a.c, a.d, a.name) }, args{c: boss, d: s.sticky, name: "dir"}, nil)
}

func TestRenameOrder(t *testing.T) {
	s := newStage(t)
	good := args{c: ann, d: s.open, name: "FILE", to: s.deep, as: "new"}
	call := func(a args) error { return s.Rename(a.c, a.d, a.name, a.to, a.as, a.how) }
	setHow := func(how int) func(a *args) { return func(a *args) { a.how = how } }
	first := []fault{
		inD("no node", api.ErrNode, 999),
		inTo("no node to", api.ErrNode, 999),
		{"a high how", api.ErrArg, setHow(3)},
		{"a low how", api.ErrArg, setHow(-1)},
		inD("from a file", api.ErrNotDir, s.secret),
		inTo("to a link", api.ErrNotDir, s.link),
		inTo("to no name", api.ErrMissing, s.gone),
		inName("a bad name", api.ErrName, ".."),
		inAs("a bad new name", api.ErrName, "/"),
		inD("no access", api.ErrAccess, s.shut),
		inTo("no access there", api.ErrAccess, s.shut),
		inName("no such name", api.ErrMissing, "none"),
	}
	s.ordered(t, call, good, slices.Concat(first, []fault{
		{"nothing to exchange", api.ErrMissing, func(a *args) { a.how, a.to, a.as = 2, s.deep, "none" }},
		{"another one's", api.ErrPerm, func(a *args) { a.d, a.name = s.sticky, "x" }},
		{"another one's directory", api.ErrPerm, func(a *args) { a.d, a.name = s.sticky, "dir" }},
		{"into itself", api.ErrArg, func(a *args) { a.d, a.name, a.to = s.open, "deep", s.deep }},
		{"onto another one", api.ErrExists, func(a *args) { a.how, a.to, a.as = 1, s.deep, "X" }},
		{"another one's there", api.ErrPerm, func(a *args) { a.to, a.as = s.sticky, "x" }},
		{"a file onto a directory", api.ErrIsDir, func(a *args) { a.to, a.as = s.open, "empty" }},
	}))
	good.name = "empty"
	s.ordered(t, call, good, slices.Concat(first, []fault{
		{"onto another one", api.ErrExists, func(a *args) { a.how, a.to, a.as = 1, s.deep, "X" }},
		{"another one's there", api.ErrPerm, func(a *args) { a.to, a.as = s.sticky, "dir" }},
		{"a directory onto a file", api.ErrNotDir, func(a *args) { a.to, a.as = s.deep, "x" }},
		{"onto a full one", api.ErrNotEmpty, func(a *args) { a.to, a.as = s.open, "deep" }},
	}))
	good = args{c: ann, d: s.open, name: "file", to: s.deep, as: "x", how: 2}
	s.ordered(t, call, good, slices.Concat(first, []fault{
		{"into itself", api.ErrArg, func(a *args) { a.d, a.name, a.to, a.as = s.open, "deep", s.deep, "x" }},
		{"out of itself", api.ErrArg, func(a *args) { a.d, a.name, a.to, a.as = s.deep, "x", s.open, "deep" }},
		{"another one's there", api.ErrPerm, func(a *args) { a.to, a.as = s.sticky, "x" }},
	}))
}

func TestBytesOrder(t *testing.T) {
	s := newStage(t)
	good := args{c: ann, n: s.file, at: 1, size: 2000, b: make([]byte, 2000)}
	first := []fault{
		inN("no node", api.ErrNode, 999),
		inN("a directory", api.ErrIsDir, s.open),
		inN("one that may not be", api.ErrIsDir, s.shut),
		inN("a link", api.ErrKind, s.link),
		inN("no access", api.ErrAccess, s.secret),
	}
	at := fault{"a low place", api.ErrArg, func(a *args) { a.at = -1 }}
	size := fault{"a low size", api.ErrArg, func(a *args) { a.size = math.MinInt }}
	far := fault{"a high place", api.ErrLong, func(a *args) { a.at = api.MaxFile }}
	big := func(most int) fault {
		return fault{"a high size", api.ErrLong, func(a *args) { a.size, a.b = most+1, make([]byte, api.MaxIO+1) }}
	}
	s.ordered(t, func(a args) error { _, err := s.Read(a.c, a.n, a.at, a.size); return err }, good, slices.Concat(first, []fault{at, size, big(api.MaxIO), far}))
	s.ordered(t, func(a args) error { return s.Write(a.c, a.n, a.at, a.b[:min(600, len(a.b))]) }, good, slices.Concat(first, []fault{at, far}))
	s.ordered(t, func(a args) error { return s.Write(a.c, a.n, a.at, nil) }, good, slices.Concat(first, []fault{at, {"a high place", api.ErrLong, func(a *args) { a.at = api.MaxFile + 1 }}}))
	quota := fault{"too many pages", api.ErrQuota, func(a *args) { a.b = make([]byte, 2000) }}
	write := func(a args) error { return s.Write(a.c, a.n, a.at, a.b) }
	good.b = make([]byte, 600)
	s.ordered(t, write, good, slices.Concat(first, []fault{at, big(0), far, quota}))
	s.ordered(t, func(a args) error { return s.Cut(a.c, a.n, a.size) }, good, slices.Concat(first, []fault{size, big(api.MaxFile)}))
	s.ordered(t, func(a args) error { return s.Punch(a.c, a.n, a.at, a.size) }, good, slices.Concat(first, []fault{at, size, big(api.MaxFile), far}))
}

func TestCloneOrder(t *testing.T) {
	s := newStage(t)
	good := args{c: ann, n: s.file, to: s.file, page: 0, at: 1, size: 2}
	s.ordered(t, func(a args) error { return s.Clone(a.c, a.n, a.page, a.to, a.at, a.size) }, good, []fault{
		inN("no node", api.ErrNode, 999),
		inTo("no node to", api.ErrNode, 999),
		inN("a directory", api.ErrIsDir, s.shut),
		inN("a link", api.ErrKind, s.link),
		inTo("to a directory", api.ErrIsDir, s.open),
		inTo("to a link", api.ErrKind, s.link),
		inN("no access", api.ErrAccess, s.secret),
		inTo("no access there", api.ErrAccess, s.secret),
		{"a low page", api.ErrArg, func(a *args) { a.page = -1 }},
		{"a low place", api.ErrArg, func(a *args) { a.at = -1 }},
		{"a low size", api.ErrArg, func(a *args) { a.size = -1 }},
		{"too many", api.ErrLong, func(a *args) { a.size = 65 }},
		{"a high page", api.ErrLong, func(a *args) { a.page = 1 << 32 }},
		{"a high place", api.ErrLong, func(a *args) { a.at = 1 << 32 }},
		{"too many pages", api.ErrQuota, func(a *args) { a.at, a.size = 9, 3 }},
	})
}

func TestChangeOrder(t *testing.T) {
	s := newStage(t)
	good := args{c: ann, n: s.file, set: api.Set{What: 5, Mode: 0o7777, Gid: 11, Uid: -1, Project: -1}}
	set := func(f func(x *api.Set)) func(a *args) { return func(a *args) { f(&a.set) } }
	call := func(a args) error { return s.Change(a.c, a.n, a.set) }
	s.ordered(t, call, good, []fault{
		inN("no node", api.ErrNode, 999),
		{"a high What", api.ErrArg, set(func(x *api.Set) { x.What = 16 })},
		{"a low What", api.ErrArg, set(func(x *api.Set) { x.What = -1 })},
		{"a high mode", api.ErrArg, set(func(x *api.Set) { x.What, x.Mode = 1, 0o10000 })},
		{"a low mode", api.ErrArg, set(func(x *api.Set) { x.What, x.Mode = 1, -1 })},
		{"a high user", api.ErrArg, set(func(x *api.Set) { x.What, x.Uid = 2, 1<<31 })},
		{"a low user", api.ErrArg, set(func(x *api.Set) { x.What, x.Uid = 2, -1 })},
		{"a high group", api.ErrArg, set(func(x *api.Set) { x.What, x.Gid = 4, 1<<31 })},
		{"a low group", api.ErrArg, set(func(x *api.Set) { x.What, x.Gid = 4, -1 })},
		{"a high project", api.ErrArg, set(func(x *api.Set) { x.What, x.Project = 8, 1<<31 })},
		{"a low project", api.ErrArg, set(func(x *api.Set) { x.What, x.Project = 8, -1 })},
		{"another one's", api.ErrPerm, func(a *args) { a.c = api.Cred{Uid: 7, Gids: []int{11}} }},
		{"another one's, and nothing", api.ErrPerm, func(a *args) { a.c, a.set = bob, api.Set{} }},
		{"a user", api.ErrPerm, set(func(x *api.Set) { x.What, x.Uid = 2, 1 })},
		{"a project", api.ErrPerm, set(func(x *api.Set) { x.What, x.Project = 9, 0 })},
		{"a group that is not one's own", api.ErrPerm, set(func(x *api.Set) { x.What, x.Gid = 4, 20 })},
	})
	good = args{c: boss, n: s.file, set: api.Set{What: 15, Mode: 0o7777, Uid: 6, Gid: 1<<31 - 1, Project: 1<<31 - 1}}
	s.ordered(t, call, good, []fault{
		{"too many pages", api.ErrQuota, set(func(x *api.Set) { x.Uid = 5 })},
	})
	good.set.Uid = 1<<31 - 1
	s.ordered(t, call, good, nil)
	s.ordered(t, call, args{c: boss, n: s.file, set: api.Set{Mode: -1, Uid: -1, Gid: -1, Project: -1}}, nil) // nothing is asked
}

func TestExtraOrder(t *testing.T) {
	s := newStage(t)
	for i := range api.MaxAttrs {
		ok(t, s.SetExtra(boss, s.link, fmt.Sprint("name", i), nil))
	}
	ok(t, s.SetExtra(boss, s.file, "name", nil))
	good := args{c: ann, n: s.file, name: "name", b: make([]byte, 200)}
	first := []fault{
		inN("no node", api.ErrNode, 999),
		inN("no access", api.ErrAccess, s.secret),
		inName("no name", api.ErrName, ""),
		inName("a long name", api.ErrName, strings.Repeat("n", 61)),
	}
	missing := inName("no such name", api.ErrMissing, "none")
	s.ordered(t, func(a args) error { _, err := s.Extra(a.c, a.n, a.name); return err }, good, append(slices.Clone(first), missing))
	s.ordered(t, func(a args) error { return s.DelExtra(a.c, a.n, a.name) }, good, append(slices.Clone(first), missing))
	s.ordered(t, func(a args) error { _, err := s.Extras(a.c, a.n); return err }, good, first[:2])
	s.ordered(t, func(a args) error { return s.SetExtra(a.c, a.n, a.name, a.b) }, good, append(slices.Clone(first),
		fault{"a long value", api.ErrLong, func(a *args) { a.b = make([]byte, 201) }},
		fault{"too many", api.ErrMany, func(a *args) { a.n, a.name = s.link, "new" }},
	))
}

func TestListOrder(t *testing.T) {
	s := newStage(t)
	ok(t, s.Change(boss, s.shut, api.Set{What: 1, Mode: 0o733}))
	good := args{c: ann, d: s.open, name: "a", size: 3}
	s.ordered(t, func(a args) error { _, err := s.List(a.c, a.d, a.name, a.size); return err }, good, []fault{
		inD("no node", api.ErrNode, 999),
		inD("a file", api.ErrNotDir, s.file),
		inD("a file of user 0", api.ErrNotDir, s.secret),
		inD("a link", api.ErrNotDir, s.link),
		inD("no access", api.ErrAccess, s.shut),
		inName("a bad name", api.ErrName, ".."),
	})
}
