package fs

import (
	"bytes"
	"fmt"
	"strings"
	"testing"

	"bedrock/api"
)

// TestMay: all bits that allow something, for the owner, the group, all others and user 0, whatever bits stand above them.
func TestMay(t *testing.T) {
	f := begin(t, false)
	x := creates(t, f, api.Cred{Uid: 5, Gids: []int{7}}, creates(t, f, boss, 1, "d", api.Dir, 0o777), "x", api.File, 0)
	for bits := range 0o1000 {
		mode := bits | bits%8<<9
		ok(t, f.Change(boss, x, api.Set{What: 1, Mode: mode}))
		for _, c := range []struct {
			c    api.Cred
			bits int
		}{
			{api.Cred{Uid: 5}, mode >> 6},
			{api.Cred{Uid: 5, Gids: []int{7}}, mode >> 6}, // the owner's alone
			{api.Cred{Uid: 6, Gids: []int{1, 2, 7}}, mode >> 3},
			{api.Cred{Uid: 7, Gids: []int{5}}, mode},
			{api.Cred{Uid: 1<<31 - 1}, mode},
			{api.Cred{Gids: []int{7}}, 7},
		} {
			for want := range 8 {
				werr := api.OK
				if want&c.bits != want {
					werr = api.ErrAccess
				}
				if err := f.May(c.c, x, want); api.Tell(err) != werr {
					t.Fatalf("mode %o: May(%v, %d) is %v", mode, c.c, want, err)
				}
			}
		}
	}
	for _, want := range []int{-1, 8, 1 << 62, -1 << 63} {
		is(t, f.May(boss, x, want), api.ErrArg)
		is(t, f.May(cid, x, want), api.ErrArg)
	}
}

func TestChange(t *testing.T) {
	f := begin(t, false)
	d := creates(t, f, boss, 1, "d", api.Dir, 0o777)
	x := creates(t, f, ann, d, "x", api.File, 0o6755)
	a := api.Attr{Kind: api.File, Mode: 0o6755, Uid: 1, Gid: 10, Links: 1}
	for _, c := range []struct {
		c   api.Cred
		how api.Set
		set func()
	}{
		{ann, api.Set{What: 1, Mode: 0o7777, Uid: 9, Gid: 9, Project: 9}, func() { a.Mode = 0o7777 }},
		{ann, api.Set{What: 4, Mode: 1, Gid: 11}, func() { a.Gid, a.Mode = 11, 0o1777 }},
		{ann, api.Set{What: 1, Mode: 0o6000}, func() { a.Mode = 0o6000 }},
		{ann, api.Set{What: 5, Mode: 0o7123, Gid: 11}, func() { a.Mode = 0o1123 }}, // whatever Mode says, though the group is the same
		{boss, api.Set{What: 5, Mode: 0o7123, Gid: 1 << 20}, func() { a.Mode, a.Gid = 0o7123, 1<<20 }},
		{boss, api.Set{What: 4, Gid: 0}, func() { a.Gid = 0 }},
		{boss, api.Set{What: 8, Project: 1<<31 - 1}, func() { a.Project = 1<<31 - 1 }},
		{boss, api.Set{What: 2, Uid: 1<<31 - 1}, func() { a.Uid = 1<<31 - 1 }},
		{api.Cred{Uid: 1<<31 - 1}, api.Set{What: 1}, func() { a.Mode = 0 }},
		{boss, api.Set{What: 15, Mode: 0o1, Uid: 2, Gid: 3, Project: 4}, func() { a.Mode, a.Uid, a.Gid, a.Project = 1, 2, 3, 4 }},
		{boss, api.Set{What: 15}, func() { a.Mode, a.Uid, a.Gid, a.Project = 0, 0, 0, 0 }},
	} {
		ok(t, f.Change(c.c, x, c.how))
		c.set()
		a.Turn = f.Turn()
		if got := stat(t, f, x); got != a {
			t.Fatalf("behind %+v by %d it is %+v, wanted %+v", c.how, c.c.Uid, got, a)
		}
	}
	turn := f.Turn()
	ok(t, f.Change(boss, x, api.Set{Mode: 7, Uid: 7, Gid: 7, Project: 7}))
	if got := stat(t, f, x); got != a || f.Turn() != turn {
		t.Errorf("%+v", got)
	}
	ok(t, f.Change(boss, 1, api.Set{What: 15, Mode: 0o700, Uid: 1, Gid: 2, Project: 3}))
	want := api.Attr{Kind: api.Dir, Mode: 0o700, Uid: 1, Gid: 2, Project: 3, Links: 1, Parent: 1, Turn: f.Turn()}
	if got := stat(t, f, 1); got != want {
		t.Errorf("the root is %+v", got)
	}
}

// TestExtras: of nodes of all kinds; who may read and write them may ask for them and change them.
func TestExtras(t *testing.T) {
	f := begin(t, false)
	d := creates(t, f, boss, 1, "d", api.Dir, 0o777)
	for i, kind := range []api.NodeKind{api.File, api.Dir, api.Link} {
		n := creates(t, f, ann, d, fmt.Sprint(i), kind, 0o640)
		ok(t, f.SetExtra(ann, n, "b", []byte("value")))
		ok(t, f.SetExtra(ann, n, strings.Repeat("a", 60), make([]byte, 200)))
		ok(t, f.SetExtra(boss, n, "c", nil))
		refused(t, f, api.ErrAccess, func() error { return f.SetExtra(bob, n, "d", nil) })
		refused(t, f, api.ErrAccess, func() error { return f.DelExtra(bob, n, "b") })
		refused(t, f, api.ErrAccess, func() error { _, err := f.Extra(cid, n, "b"); return err })
		refused(t, f, api.ErrAccess, func() error { _, err := f.Extras(cid, n); return err })
		v, err := f.Extra(bob, n, "b")
		if ok(t, err); !bytes.Equal(v, []byte("value")) {
			t.Errorf("%q", v)
		}
		ok(t, f.DelExtra(ann, n, "c"))
		refused(t, f, api.ErrMissing, func() error { return f.DelExtra(ann, n, "c") })
		if l, err := f.Extras(bob, n); err != nil || fmt.Sprint(l) != fmt.Sprint([]string{strings.Repeat("a", 60), "b"}) {
			t.Errorf("%v, %v", l, err)
		}
		if a := stat(t, f, n); a.Turn != f.Turn() || a.Mode != 0o640 {
			t.Errorf("%+v", a)
		}
	}
}

// TestExtrasMode: further attributes leave the mode as it is.
func TestExtrasMode(t *testing.T) {
	f := begin(t, false)
	x := creates(t, f, ann, creates(t, f, boss, 1, "d", api.Dir, 0o777), "x", api.File, 0o6666)
	ok(t, f.SetExtra(bob, x, "a", nil))
	ok(t, f.DelExtra(bob, x, "a"))
	if a := stat(t, f, x); a.Mode != 0o6666 {
		t.Errorf("%o", a.Mode)
	}
}
