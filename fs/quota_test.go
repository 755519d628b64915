package fs

import (
	"fmt"
	"math"
	"testing"

	"bedrock/api"
)

// uses fails, if an owner has not so many nodes and pages.
func uses(t *testing.T, f *FS, kind, id, nodes, pages int) {
	t.Helper()
	if q, err := f.Usage(kind, id); err != nil || q != (api.Quota{Nodes: nodes, Pages: pages}) {
		t.Fatalf("%d %d has %v, %v, wanted %d, %d", kind, id, q, err, nodes, pages)
	}
}

func TestUsage(t *testing.T) {
	f := begin(t, false)
	d := creates(t, f, boss, 1, "d", api.Dir, 0o777)
	uses(t, f, 1, 0, 2, 0)
	ok(t, f.Change(boss, d, api.Set{What: 8, Project: 7}))
	uses(t, f, 2, 7, 1, 0)
	x := creates(t, f, ann, d, "x", api.File, 0o666)
	ok(t, f.Write(bob, x, 256*3, make([]byte, 257))) // by whom does not count
	uses(t, f, 1, 1, 1, 2)
	uses(t, f, 1, 2, 0, 0)
	uses(t, f, 2, 7, 2, 2)
	ok(t, f.Link(ann, x, d, "y"))
	uses(t, f, 1, 1, 1, 2)
	ok(t, f.Change(boss, x, api.Set{What: 2, Uid: 2}))
	uses(t, f, 1, 1, 0, 0)
	uses(t, f, 1, 2, 1, 2)
	uses(t, f, 2, 7, 2, 2)
	ok(t, f.Change(boss, x, api.Set{What: 8, Project: 0}))
	uses(t, f, 2, 7, 1, 0)
	ok(t, f.Change(boss, x, api.Set{What: 8, Project: 1<<31 - 1}))
	uses(t, f, 2, 1<<31-1, 1, 2)
	y := creates(t, f, ann, d, "z", api.File, 0)
	ok(t, f.Clone(boss, x, 3, y, 0, 1))
	uses(t, f, 1, 1, 1, 1) // also what is shared counts
	ok(t, f.Punch(boss, x, 256*3, 256))
	uses(t, f, 1, 2, 1, 1)
	ok(t, f.Cut(boss, x, 0))
	uses(t, f, 1, 2, 1, 0)
	ok(t, f.Cut(boss, x, 1<<40))
	uses(t, f, 1, 2, 1, 0)
	l := links(t, f, d, "l", "target")
	uses(t, f, 1, 0, 3, 1)
	uses(t, f, 2, 7, 3, 2)
	ok(t, f.Hold(y))
	ok(t, f.Remove(boss, d, "z"))
	uses(t, f, 1, 1, 1, 1) // it is there still
	ok(t, f.Write(boss, y, 5000, make([]byte, 1)))
	uses(t, f, 1, 1, 1, 2)
	uses(t, f, 2, 7, 3, 3)
	ok(t, f.Release(y))
	uses(t, f, 1, 1, 0, 0)
	ok(t, f.Rename(boss, d, "x", d, "l", 0))
	_, err := f.Stat(l)
	is(t, err, api.ErrNode)
	uses(t, f, 1, 0, 2, 0)
	uses(t, f, 2, 7, 1, 0)
	ok(t, f.Remove(boss, d, "l"))
	uses(t, f, 1, 2, 1, 0) // by its other name
	ok(t, f.Remove(boss, d, "y"))
	uses(t, f, 1, 2, 0, 0)
	uses(t, f, 2, 1<<31-1, 0, 0)
}

func TestLimit(t *testing.T) {
	f := begin(t, false)
	for _, c := range []struct {
		kind, id int
		q        api.Quota
		err      error
	}{
		{1, 0, api.Quota{Nodes: 1, Pages: 2}, nil},
		{1, 1<<31 - 1, api.Quota{Nodes: math.MaxInt, Pages: math.MaxInt}, nil},
		{2, 1, api.Quota{Pages: 1}, nil},
		{2, 1<<31 - 1, api.Quota{Nodes: 1}, nil},
		{0, 1, api.Quota{}, api.ErrArg},
		{3, 1, api.Quota{}, api.ErrArg},
		{-1, 1, api.Quota{}, api.ErrArg},
		{1, -1, api.Quota{}, api.ErrArg},
		{1, 1 << 31, api.Quota{}, api.ErrArg},
		{2, 0, api.Quota{}, api.ErrArg},
		{2, -1, api.Quota{}, api.ErrArg},
		{2, 1 << 31, api.Quota{}, api.ErrArg},
		{2, math.MinInt, api.Quota{}, api.ErrArg},
	} {
		err := f.SetLimit(c.kind, c.id, c.q)
		got, err2 := f.Limit(c.kind, c.id)
		_, err3 := f.Usage(c.kind, c.id)
		if api.Tell(err) != api.Tell(c.err) || api.Tell(err2) != api.Tell(c.err) || api.Tell(err3) != api.Tell(c.err) || got != c.q {
			t.Errorf("%d %d: %v, %v, %v, %v", c.kind, c.id, got, err, err2, err3)
		}
	}
	refused(t, f, api.ErrArg, func() error { return f.SetLimit(1, 1, api.Quota{Nodes: -1}) })
	refused(t, f, api.ErrArg, func() error { return f.SetLimit(1, 1, api.Quota{Pages: math.MinInt}) })
	uses(t, f, 1, 0, 1, 0)
	before := f.Map().Root()
	ok(t, f.SetLimit(2, 1, api.Quota{Pages: 1}))
	ok(t, f.SetLimit(2, 2, api.Quota{}))
	if f.Map().Root() != before {
		t.Error("what is so already was set")
	}
	ok(t, f.SetLimit(2, 1, api.Quota{}))
	if q, err := f.Limit(2, 1); err != nil || q != (api.Quota{}) || f.Turn() != 0 {
		t.Errorf("%v, %v, turn %d", q, err, f.Turn())
	}
}

// TestQuotaNodes: no more nodes than may be, of a user and of a project.
func TestQuotaNodes(t *testing.T) {
	f := begin(t, false)
	d := creates(t, f, boss, 1, "d", api.Dir, 0o777)
	ok(t, f.Change(boss, d, api.Set{What: 8, Project: 3}))
	ok(t, f.SetLimit(1, 1, api.Quota{Nodes: 2}))
	ok(t, f.SetLimit(2, 3, api.Quota{Nodes: 4}))
	full := func(c api.Cred) {
		t.Helper()
		for _, what := range []api.New{{Kind: api.File}, {Kind: api.Dir}, {Kind: api.Link, Target: "t"}} {
			refused(t, f, api.ErrQuota, func() error { _, err := f.Create(c, d, "new", what); return err })
		}
	}
	x := creates(t, f, ann, d, "a", api.File, 0)
	creates(t, f, ann, d, "b", api.Link, 0)
	full(ann)
	creates(t, f, bob, d, "c", api.Dir, 0)
	full(bob)
	full(boss) // he is no exception
	ok(t, f.Link(boss, x, d, "more"))
	ok(t, f.SetLimit(2, 3, api.Quota{}))
	full(ann)
	ok(t, f.SetLimit(1, 1, api.Quota{Nodes: 1})) // below what there is
	full(ann)
	ok(t, f.Write(boss, x, 0, []byte("a"))) // what does not grow may be above it
	ok(t, f.Remove(boss, d, "b"))
	full(ann)
	ok(t, f.Change(boss, x, api.Set{What: 2, Uid: 1})) // it is its user's already
	y := creates(t, f, bob, d, "d", api.File, 0)
	refused(t, f, api.ErrQuota, func() error { return f.Change(boss, y, api.Set{What: 2, Uid: 1}) })
	ok(t, f.Change(boss, x, api.Set{What: 2, Uid: 2}))
	ok(t, f.Change(boss, y, api.Set{What: 2, Uid: 1}))
	ok(t, f.SetLimit(2, 9, api.Quota{Nodes: 1}))
	ok(t, f.Change(boss, x, api.Set{What: 8, Project: 9}))
	refused(t, f, api.ErrQuota, func() error { return f.Change(boss, y, api.Set{What: 15, Project: 9, Mode: 0o777}) })
	ok(t, f.Change(boss, y, api.Set{What: 15, Mode: 0o777}))
}

// TestQuotaPages: no more pages than may be; and what is refused leaves all as it was.
func TestQuotaPages(t *testing.T) {
	f := begin(t, false)
	d := creates(t, f, boss, 1, "d", api.Dir, 0o777)
	x, y := creates(t, f, ann, d, "x", api.File, 0o666), creates(t, f, ann, d, "y", api.File, 0o6666)
	ok(t, f.Write(ann, x, 0, make([]byte, 3*256)))
	ok(t, f.SetLimit(1, 1, api.Quota{Pages: 4}))
	before := picture(t, f)
	for _, call := range []func() error{
		func() error { return f.Write(boss, x, 256*3, make([]byte, 257)) },
		func() error { return f.Write(ann, y, 255, []byte("ab")) },
		func() error { return f.Clone(ann, x, 0, y, 0, 2) },
		func() error { return f.Clone(boss, x, 0, x, 9, 2) },
		func() error {
			_, err := f.Create(ann, d, "l", api.New{Kind: api.Link, Target: fmt.Sprintf("%300d", 1)})
			return err
		},
	} {
		refused(t, f, api.ErrQuota, call)
		if picture(t, f) != before {
			t.Fatal("something was changed")
		}
	}
	ok(t, f.Write(ann, y, 0, []byte("a")))
	ok(t, f.Write(ann, x, 0, make([]byte, 3*256))) // that is data already
	ok(t, f.Clone(ann, x, 0, x, 1, 2))
	ok(t, f.Clone(ann, y, 0, x, 0, 3)) // fewer
	uses(t, f, 1, 1, 2, 2)
	ok(t, f.SetLimit(1, 1, api.Quota{Pages: 1}))
	ok(t, f.Write(ann, x, 0, []byte("still")))
	ok(t, f.Cut(ann, x, 5000))
	ok(t, f.Change(boss, x, api.Set{What: 11, Mode: 0o666, Uid: 1}))
	refused(t, f, api.ErrQuota, func() error { return f.Write(ann, x, 256, []byte("a")) })
	ok(t, f.Punch(ann, x, 0, 256))
	uses(t, f, 1, 1, 2, 1)
	refused(t, f, api.ErrQuota, func() error { return f.Write(ann, x, 256, []byte("a")) })
	z := creates(t, f, bob, d, "z", api.File, 0)
	ok(t, f.Write(boss, z, 0, []byte("a")))
	refused(t, f, api.ErrQuota, func() error { return f.Change(boss, z, api.Set{What: 2, Uid: 1}) })
	ok(t, f.SetLimit(2, 5, api.Quota{Pages: 1}))
	ok(t, f.Change(boss, z, api.Set{What: 8, Project: 5}))
	refused(t, f, api.ErrQuota, func() error { return f.Write(boss, z, 256, []byte("a")) })
	refused(t, f, api.ErrQuota, func() error { return f.Change(boss, y, api.Set{What: 8, Project: 5}) })
	ok(t, f.SetLimit(2, 5, api.Quota{}))
	ok(t, f.Change(boss, y, api.Set{What: 8, Project: 5}))
}

// TestSameEverywhere: in which blocks a tree lies does not hang on the order in which counts are gone through.
func TestSameEverywhere(t *testing.T) {
	var want string
	for range 20 {
		f := begin(t, false)
		x := creates(t, f, boss, 1, "x", api.File, 0)
		for i := range 30 {
			ok(t, f.SetLimit(1+i%2, 1+i, api.Quota{Nodes: 9}))
			ok(t, f.Change(boss, x, api.Set{What: 10, Uid: i, Project: 30 - i}))
		}
		var l []any
		for x, n := range f.Map().Pool().Blocks() {
			l = append(l, x, n)
		}
		if got := fmt.Sprint(f.Map().Root(), l); want == "" {
			want = got
		} else if got != want {
			t.Fatal("it lies elsewhere")
		}
	}
}
