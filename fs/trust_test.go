package fs

import (
	"testing"

	"bedrock/api"
	"bedrock/tree"
)

// In a tree that trusts, nobody is asked whether he may; all else is as it is, and both are one tree.
func TestTrusting(t *testing.T) {
	p, _ := made(t, shapes[0], 20000)
	f, err := Make(tree.New(p), false)
	ok(t, err)
	d := creates(t, f, boss, 1, "d", api.Dir, 0o1000)
	n := creates(t, f, boss, d, "n", api.File, 0o6000)
	creates(t, f, boss, d, "m", api.File, 0)
	g := f.Trusting()
	for i, call := range []func(f *FS) error{
		func(f *FS) error { _, err := f.Walk(ann, d, "n", false); return err },
		func(f *FS) error { return f.May(ann, n, 7) },
		func(f *FS) error { _, err := f.List(ann, d, "", 9); return err },
		func(f *FS) error { _, err := f.Create(ann, d, "new", api.New{Kind: api.File}); return err },
		func(f *FS) error { return f.Write(ann, n, 0, []byte("text")) },
		func(f *FS) error { _, err := f.Read(ann, n, 0, 4); return err },
		func(f *FS) error { return f.Cut(ann, n, 3) },
		func(f *FS) error { return f.Punch(ann, n, 0, 3) },
		func(f *FS) error { return f.Clone(ann, n, 0, n, 1, 1) },
		func(f *FS) error { return f.SetExtra(ann, n, "e", nil) },
		func(f *FS) error { return f.Link(ann, n, d, "link") },
		func(f *FS) error { return f.Rename(ann, d, "link", d, "m", 0) },
		func(f *FS) error { return f.Remove(ann, d, "m") },
		func(f *FS) error { return f.Change(ann, n, api.Set{What: 14, Uid: 5, Gid: 77, Project: 2}) },
	} {
		if err := call(f); api.Tell(err) != api.ErrAccess && api.Tell(err) != api.ErrPerm {
			t.Errorf("call %d: %v", i, err)
		}
		if err := call(g); err != nil {
			t.Errorf("call %d, trusted: %v", i, err)
		}
		if f.Turn() != g.Turn() {
			t.Errorf("call %d: turn %d, %d", i, f.Turn(), g.Turn())
		}
	}
	a, err := f.Stat(n)
	if ok(t, err); a.Mode != 0 || a.Uid != 5 || a.Gid != 77 || a.Links != 1 { // the bits go, as ever
		t.Errorf("%+v", a)
	}
	new, err := g.Walk(ann, d, "new", false)
	ok(t, err)
	a, err = f.Stat(new)
	if ok(t, err); a.Uid != ann.Uid {
		t.Errorf("%+v", a)
	}
	ok(t, f.Hold(n))
	if g.Held() != 1 {
		t.Error("what is held in one is not held in the other")
	}
	ok(t, g.Remove(ann, d, "n"))
	_, err = f.Stat(n)
	ok(t, err)
	ok(t, g.Release(n))
	_, err = f.Stat(n)
	is(t, err, api.ErrNode)
	is(t, g.Remove(ann, d, "n"), api.ErrMissing)
	is(t, g.Change(ann, new, api.Set{What: 1, Mode: -1}), api.ErrArg)
	_, err = g.Create(ann, new, "x", api.New{Kind: api.File})
	is(t, err, api.ErrNotDir)
	is(t, Fixed(f.Map()).Trusting().Cut(boss, new, 0), api.ErrReadOnly)
}
