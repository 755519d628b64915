package fs

import (
	"fmt"
	"testing"

	"bedrock/api"
)

// TestExample is the document's example 10.
func TestExample(t *testing.T) {
	f := begin(t, true)
	a := creates(t, f, boss, 1, "a", api.Dir, 0o755)
	b := creates(t, f, boss, a, "b", api.Dir, 0o755)
	x := creates(t, f, boss, 1, "x", api.File, 0o644)
	ok(t, f.Rename(boss, 1, "x", 1, "X", 1))
	has(t, f, 1, "a", a, "X", x)
	refused(t, f, api.ErrArg, func() error { return f.Rename(boss, 1, "a", b, "a", 0) })
	refused(t, f, api.ErrIsDir, func() error { return f.Rename(boss, 1, "x", 1, "a", 0) })
}

// TestRenameMove: an entry comes to where none is, whatever how says (but 2).
func TestRenameMove(t *testing.T) {
	for how := range 2 {
		f := begin(t, true)
		d, e := creates(t, f, boss, 1, "d", api.Dir, 0o755), creates(t, f, boss, 1, "e", api.Dir, 0o755)
		x, y := creates(t, f, boss, d, "X", api.File, 0), creates(t, f, boss, d, "Y", api.Dir, 0)
		l := creates(t, f, boss, d, "L", api.Link, 0)
		for i, name := range []string{"x", "y", "l"} {
			ok(t, f.Rename(boss, d, name, e, fmt.Sprint("New", i), how))
			refused(t, f, api.ErrMissing, func() error { return f.Rename(boss, d, name, e, "z", how) })
		}
		has(t, f, d)
		has(t, f, e, "New0", x, "New1", y, "New2", l)
		if stat(t, f, x).Parent != 0 || stat(t, f, y).Parent != e || stat(t, f, l).Parent != 0 || stat(t, f, y).Links != 1 {
			t.Error("a wrong parent")
		}
		ok(t, f.Rename(boss, e, "NEW1", e, "name", how))
		ok(t, f.Rename(boss, e, "name", 1, "name", how))
		if n, err := f.Walk(boss, y, "..", false); err != nil || n != 1 {
			t.Errorf("%d, %v", n, err)
		}
		has(t, f, 1, "d", d, "e", e, "name", y)
	}
}

// TestRenameFold: an entry may be called otherwise though that is one name, in a directory with fold.
func TestRenameFold(t *testing.T) {
	f := begin(t, true)
	x := creates(t, f, boss, 1, "name", api.File, 0)
	d := creates(t, f, boss, 1, "dir", api.Dir, 0)
	ok(t, f.Rename(boss, 1, "NAME", 1, "Name", 0))
	has(t, f, 1, "dir", d, "Name", x)
	ok(t, f.Rename(boss, 1, "name", 1, "NAME", 1))
	ok(t, f.Rename(boss, 1, "dir", 1, "DIR", 0))
	has(t, f, 1, "DIR", d, "NAME", x)
	if a := stat(t, f, d); a.Parent != 1 || a.Links != 1 {
		t.Errorf("%+v", a)
	}
	turn := f.Turn()
	ok(t, f.Rename(boss, 1, "name", 1, "NAME", 1)) // as it was entered
	ok(t, f.Rename(boss, 1, "name", 1, "nAME", 2))
	ok(t, f.Rename(boss, 1, "name", 1, "NAME", 2))
	if has(t, f, 1, "DIR", d, "NAME", x); f.Turn() != turn {
		t.Errorf("turn %d, was %d", f.Turn(), turn)
	}
	g := begin(t, false)
	x = creates(t, g, boss, 1, "name", api.File, 0)
	refused(t, g, api.ErrMissing, func() error { return g.Rename(boss, 1, "name", 1, "NAME", 2) })
	ok(t, g.Rename(boss, 1, "name", 1, "NAME", 1))
	has(t, g, 1, "NAME", x)
}

// TestRenameOnto: what is there already is taken away, or is not.
func TestRenameOnto(t *testing.T) {
	f := begin(t, true)
	d := creates(t, f, boss, 1, "d", api.Dir, 0o755)
	x, y := creates(t, f, boss, 1, "x", api.File, 0), creates(t, f, boss, d, "Y", api.File, 0)
	l := creates(t, f, boss, d, "l", api.Link, 0)
	refused(t, f, api.ErrExists, func() error { return f.Rename(boss, 1, "x", d, "y", 1) })
	ok(t, f.Rename(boss, 1, "x", d, "y", 0))
	has(t, f, d, "l", l, "y", x)
	_, err := f.Stat(y)
	is(t, err, api.ErrNode)
	ok(t, f.Rename(boss, d, "l", d, "Y", 0)) // a link is no directory either
	has(t, f, d, "Y", l)
	e, g := creates(t, f, boss, 1, "e", api.Dir, 0o755), creates(t, f, boss, d, "g", api.Dir, 0o755)
	creates(t, f, boss, e, "in", api.File, 0)
	refused(t, f, api.ErrNotEmpty, func() error { return f.Rename(boss, d, "g", 1, "e", 0) })
	ok(t, f.Rename(boss, 1, "e", d, "G", 0))
	has(t, f, d, "G", e, "Y", l)
	if _, err := f.Stat(g); api.Tell(err) != api.ErrNode || stat(t, f, e).Parent != d {
		t.Errorf("%v, %+v", err, stat(t, f, e))
	}
	refused(t, f, api.ErrNotEmpty, func() error { return f.Rename(boss, d, "g", 1, "d", 0) }) // onto where it is
}

// TestRenameHeld: what is taken away lives on, if it is held or has other names.
func TestRenameHeld(t *testing.T) {
	f := begin(t, false)
	creates(t, f, boss, 1, "a", api.File, 0)
	b := creates(t, f, boss, 1, "b", api.File, 0)
	creates(t, f, boss, 1, "c", api.File, 0)
	e, g := creates(t, f, boss, 1, "e", api.Dir, 0), creates(t, f, boss, 1, "g", api.Dir, 0)
	ok(t, f.Link(boss, b, 1, "bb"))
	ok(t, f.Rename(boss, 1, "a", 1, "b", 0))
	if a := stat(t, f, b); a.Links != 1 || a.Turn != f.Turn() {
		t.Errorf("%+v", a)
	}
	ok(t, f.Hold(b))
	ok(t, f.Hold(g))
	ok(t, f.Rename(boss, 1, "c", 1, "bb", 0))
	if a := stat(t, f, b); a.Links != 0 || a.Turn != f.Turn() {
		t.Errorf("%+v", a)
	}
	ok(t, f.Rename(boss, 1, "e", 1, "g", 0))
	if a := stat(t, f, g); a.Links != 0 || a.Parent != 1 || a.Turn != f.Turn() {
		t.Errorf("%+v", a)
	}
	refused(t, f, api.ErrMissing, func() error { return f.Rename(boss, 1, "b", g, "x", 0) })
	ok(t, f.Release(b))
	ok(t, f.Release(g))
	for _, n := range []uint64{b, g} {
		_, err := f.Stat(n)
		is(t, err, api.ErrNode)
	}
	if a := stat(t, f, e); a.Links != 1 {
		t.Errorf("%+v", a)
	}
}

// TestRenameOneNode: where both entries are of one node nothing is done.
func TestRenameOneNode(t *testing.T) {
	f := begin(t, false)
	d := creates(t, f, boss, 1, "d", api.Dir, 0o1777)
	x := creates(t, f, boss, 1, "x", api.File, 0)
	ok(t, f.Link(boss, x, d, "y"))
	ok(t, f.Link(boss, x, 1, "z"))
	ok(t, f.Change(boss, 1, api.Set{What: 1, Mode: 0o777}))
	before := f.Map().Root()
	for _, how := range []int{0, 2} {
		ok(t, f.Rename(ann, 1, "x", d, "y", how)) // though it is another one's there
		ok(t, f.Rename(ann, 1, "x", 1, "z", how))
	}
	if f.Map().Root() != before {
		t.Error("something was changed")
	}
	refused(t, f, api.ErrExists, func() error { return f.Rename(ann, 1, "x", d, "y", 1) })
	refused(t, f, api.ErrPerm, func() error { return f.Rename(ann, d, "y", 1, "x", 0) })
}

// TestRenameExchange: both entries keep their names.
func TestRenameExchange(t *testing.T) {
	f := begin(t, true)
	d, e := creates(t, f, boss, 1, "d", api.Dir, 0o755), creates(t, f, boss, 1, "e", api.Dir, 0o755)
	x, y := creates(t, f, boss, d, "File", api.File, 0), creates(t, f, boss, e, "Dir", api.Dir, 0)
	inner := creates(t, f, boss, y, "inner", api.Dir, 0)
	ok(t, f.Rename(boss, d, "file", e, "DIR", 2))
	has(t, f, d, "File", y)
	has(t, f, e, "Dir", x)
	if l, err := f.List(boss, e, "", 9); err != nil || l[0].Kind != api.File {
		t.Errorf("%v, %v", l, err)
	}
	if stat(t, f, y).Parent != d || stat(t, f, x).Parent != 0 || stat(t, f, inner).Parent != y || stat(t, f, x).Links != 1 || stat(t, f, y).Links != 1 {
		t.Error("a wrong parent")
	}
	ok(t, f.Rename(boss, 1, "d", e, "dir", 2)) // a directory and a file
	has(t, f, 1, "d", x, "e", e)
	has(t, f, e, "Dir", d)
	ok(t, f.Rename(boss, 1, "d", 1, "e", 2)) // in one directory
	has(t, f, 1, "d", e, "e", x)
	if stat(t, f, d).Parent != e || stat(t, f, e).Parent != 1 {
		t.Error("a wrong parent")
	}
	// e/Dir is d, d/File is y, y/inner
	refused(t, f, api.ErrArg, func() error { return f.Rename(boss, 1, "d", y, "inner", 2) })
	refused(t, f, api.ErrArg, func() error { return f.Rename(boss, y, "inner", 1, "d", 2) })
	refused(t, f, api.ErrArg, func() error { return f.Rename(boss, e, "dir", d, "file", 2) })
	refused(t, f, api.ErrArg, func() error { return f.Rename(boss, d, "file", e, "dir", 2) })
	refused(t, f, api.ErrMissing, func() error { return f.Rename(boss, d, "file", e, "none", 2) })
}

// TestRenameInside: a directory never comes into itself, however deep.
func TestRenameInside(t *testing.T) {
	f := begin(t, false)
	l := []uint64{1}
	for i := range 12 {
		l = append(l, creates(t, f, boss, l[i], "d", api.Dir, 0o755))
	}
	for i := range l[:12] {
		for j, to := range l {
			for how := range 2 {
				if j > i { // to is the directory, or in it
					refused(t, f, api.ErrArg, func() error { return f.Rename(boss, l[i], "d", to, "x", how) })
				}
			}
		}
	}
	ok(t, f.Rename(boss, l[5], "d", l[2], "x", 0)) // upwards it may
	if n, err := f.Walk(boss, 1, "d/d/x/d", false); err != nil || n != l[7] {
		t.Errorf("%d, %v", n, err)
	}
	if n, err := f.Walk(boss, l[7], "../..", false); err != nil || n != l[2] {
		t.Errorf("%d, %v", n, err)
	}
	ok(t, f.Rename(boss, l[2], "d", l[7], "d2", 0)) // which is not inside any more
}

// TestRenameRights: who may take an entry out of a directory, and away in another one.
func TestRenameRights(t *testing.T) {
	f := begin(t, false)
	open := creates(t, f, boss, 1, "open", api.Dir, 0o777)
	sticky := creates(t, f, boss, 1, "sticky", api.Dir, 0o1777)
	ok(t, f.Change(boss, sticky, api.Set{What: 2, Uid: 1}))
	creates(t, f, cid, open, "x", api.File, 0)
	creates(t, f, bob, sticky, "y", api.File, 0)
	for _, c := range []struct {
		c    api.Cred
		want error
	}{{boss, nil}, {ann, nil}, {bob, nil}, {cid, api.ErrPerm}} {
		for what, call := range map[string]func() error{
			"onto":     func() error { return f.Rename(c.c, open, "x", sticky, "y", 0) },
			"exchange": func() error { return f.Rename(c.c, open, "x", sticky, "y", 2) },
			"out of":   func() error { return f.Rename(c.c, sticky, "y", open, "new", 1) },
			"within":   func() error { return f.Rename(c.c, sticky, "y", sticky, "new", 1) },
		} {
			is(t, f.Map().Try(func() error {
				if err := call(); api.Tell(err) != api.Tell(c.want) {
					t.Errorf("%s, by %d: %v", what, c.c.Uid, err)
				}
				return errUndo
			}), errUndo)
		}
	}
	shut := creates(t, f, boss, 1, "shut", api.Dir, 0o755)
	half := creates(t, f, boss, 1, "half", api.Dir, 0o766) // write without pass
	creates(t, f, ann, open, "a", api.File, 0)
	for _, d := range []uint64{shut, half} {
		creates(t, f, boss, d, "a", api.File, 0o777)
		refused(t, f, api.ErrAccess, func() error { return f.Rename(ann, open, "a", d, "b", 0) })
		refused(t, f, api.ErrAccess, func() error { return f.Rename(ann, d, "a", open, "b", 0) })
	}
}
