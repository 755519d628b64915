package fs

import (
	"fmt"
	"strings"
	"testing"

	"bedrock/api"
)

// TestCreate: what a new node is hangs on who makes it, and where.
func TestCreate(t *testing.T) {
	for _, fold := range []bool{false, true} {
		f := begin(t, fold)
		plainDir := creates(t, f, boss, 1, "plain", api.Dir, 0o777)
		grouped := creates(t, f, boss, 1, "grouped", api.Dir, 0o2777)
		ok(t, f.Change(boss, grouped, api.Set{What: 12, Gid: 77, Project: 5}))
		for _, c := range []struct {
			c    api.Cred
			d    uint64
			what api.New
			want api.Attr
		}{
			{ann, plainDir, api.New{Kind: api.File, Mode: 0o7777}, api.Attr{Mode: 0o7777, Uid: 1, Gid: 10}},
			{cid, plainDir, api.New{Kind: api.Dir}, api.Attr{Uid: 3, Parent: plainDir}},
			{bob, plainDir, api.New{Kind: api.Link, Mode: 0o1, Target: "abc"}, api.Attr{Mode: 1, Uid: 2, Gid: 20, Size: 3, Pages: 1}},
			{api.Cred{Gids: []int{4}}, plainDir, api.New{Kind: api.Dir, Mode: 0o5000}, api.Attr{Mode: 0o5000, Gid: 4, Parent: plainDir}},
			{ann, grouped, api.New{Kind: api.File, Mode: 0o644}, api.Attr{Mode: 0o644, Uid: 1, Gid: 77, Project: 5}},
			{cid, grouped, api.New{Kind: api.Dir, Mode: 0o700}, api.Attr{Mode: 0o2700, Uid: 3, Gid: 77, Project: 5, Parent: grouped}},
			{cid, grouped, api.New{Kind: api.Dir, Mode: 0o2700}, api.Attr{Mode: 0o2700, Uid: 3, Gid: 77, Project: 5, Parent: grouped}},
			{bob, grouped, api.New{Kind: api.Link, Mode: 0o777, Target: strings.Repeat("l", 300)}, api.Attr{Mode: 0o777, Uid: 2, Gid: 77, Project: 5, Size: 300, Pages: 2}},
		} {
			n, err := f.Create(c.c, c.d, fmt.Sprint("name", f.Turn()), c.what)
			ok(t, err)
			c.want.Kind, c.want.Fold, c.want.Links, c.want.Turn = c.what.Kind, fold, 1, f.Turn()
			if a := stat(t, f, n); a != c.want || n != f.Turn() { // (all turns but one made a node)
				t.Errorf("%d is %+v, wanted %+v", n, a, c.want)
			}
		}
	}
}

// TestCreateInherits: what a directory is made as goes on to what is made in it.
func TestCreateInherits(t *testing.T) {
	f := begin(t, true)
	d := uint64(1)
	ok(t, f.Change(boss, 1, api.Set{What: 13, Mode: 0o2777, Gid: 8, Project: 9}))
	for i := range 5 {
		d = creates(t, f, ann, d, fmt.Sprint(i), api.Dir, 0o700)
		if a := stat(t, f, d); !a.Fold || a.Gid != 8 || a.Project != 9 || a.Mode != 0o2700 {
			t.Errorf("%+v", a)
		}
	}
	creates(t, f, ann, d, "name", api.File, 0)
	_, err := f.Create(ann, d, "NAME", api.New{Kind: api.File})
	is(t, err, api.ErrExists)
}

// TestCreateGood: names of all kinds, and what they lead to.
func TestCreateGood(t *testing.T) {
	f := begin(t, false)
	var want []any
	for _, name := range []string{"\x01", " ", "...", "A", "a", strings.Repeat("z", 40), "\xff"} {
		want = append(want, name, creates(t, f, boss, 1, name, api.File, 0))
	}
	has(t, f, 1, want...)
	for _, name := range []string{"", ".", "..", "a/b", "a\x00", strings.Repeat("z", 41)} {
		refused(t, f, api.ErrName, func() error { _, err := f.Create(boss, 1, name, api.New{Kind: api.File}); return err })
	}
}

// TestList: as the directory has its entries, and for those who may read it.
func TestList(t *testing.T) {
	f := begin(t, true)
	d := creates(t, f, ann, creates(t, f, boss, 1, "d", api.Dir, 0o777), "e", api.Dir, 0o440)
	var want []api.Entry
	for i, name := range []string{"A", "b", "Ca", "cb", "D"} {
		kind := []api.NodeKind{api.File, api.Dir, api.Link}[i%3]
		want = append(want, api.Entry{Name: name, Node: creates(t, f, boss, d, name, kind, 0), Kind: kind})
	}
	for _, c := range []struct {
		c     api.Cred
		after string
		most  int
		want  []api.Entry
		err   error
	}{
		{ann, "", 9, want, nil},
		{bob, "", 2, want[:2], nil},
		{boss, "B", 2, want[2:4], nil},
		{boss, "c", 9, want[2:], nil},
		{boss, "", 0, nil, nil},
		{boss, "", -1, nil, nil},
		{boss, "d", 9, nil, nil},
		{cid, "", 9, nil, api.ErrAccess},
		{boss, "/", 9, nil, api.ErrName},
	} {
		l, err := f.List(c.c, d, c.after, c.most)
		if fmt.Sprint(l, err) != fmt.Sprint(c.want, c.err) {
			t.Errorf("List(%v, %q, %d) is %v, %v, wanted %v, %v", c.c, c.after, c.most, l, err, c.want, c.err)
		}
	}
}

func TestLink(t *testing.T) {
	f := begin(t, true)
	d, e := creates(t, f, boss, 1, "d", api.Dir, 0o777), creates(t, f, boss, 1, "e", api.Dir, 0o777)
	x, l := creates(t, f, ann, d, "x", api.File, 0), creates(t, f, ann, d, "l", api.Link, 0)
	ok(t, f.Link(bob, x, e, "Other"))
	ok(t, f.Link(bob, l, e, "link"))
	has(t, f, e, "link", l, "Other", x)
	if a := stat(t, f, x); a.Links != 2 || a.Uid != 1 || a.Turn != f.Turn()-1 {
		t.Errorf("%+v", a)
	}
	if k, err := f.List(boss, e, "", 1); err != nil || k[0].Kind != api.Link {
		t.Errorf("%v, %v", k, err)
	}
	is(t, f.Link(bob, x, e, "OTHER"), api.ErrExists)
	ok(t, f.Write(boss, x, 0, []byte("one file")))
	ok(t, f.Remove(boss, d, "x"))
	if b, err := f.Read(boss, x, 0, 9); err != nil || string(b) != "one file" || stat(t, f, x).Links != 1 {
		t.Errorf("%q, %v", b, err)
	}
}

// TestLinkMany: a node has at most 100 names.
func TestLinkMany(t *testing.T) {
	f := begin(t, false)
	x := creates(t, f, boss, 1, "0", api.File, 0)
	for i := range 99 {
		ok(t, f.Link(boss, x, 1, fmt.Sprint(i+1)))
	}
	if a := stat(t, f, x); a.Links != 100 {
		t.Errorf("%+v", a)
	}
	refused(t, f, api.ErrExists, func() error { return f.Link(boss, x, 1, "99") })
	refused(t, f, api.ErrMany, func() error { return f.Link(boss, x, 1, "100") })
	ok(t, f.Remove(boss, 1, "50"))
	ok(t, f.Link(boss, x, 1, "100"))
	refused(t, f, api.ErrMany, func() error { return f.Link(boss, x, 1, "50") })
	for i := range 101 {
		if i != 50 {
			ok(t, f.Remove(boss, 1, fmt.Sprint(i)))
		}
	}
	_, err := f.Stat(x)
	is(t, err, api.ErrNode)
}

// TestRemoveSticky: from a sticky directory user 0 may remove, its owner, and the node's.
func TestRemoveSticky(t *testing.T) {
	for _, c := range []struct {
		c    api.Cred
		mode int
		err  error
	}{{boss, 0o1777, nil}, {ann, 0o1777, nil}, {bob, 0o1777, nil}, {cid, 0o1777, api.ErrPerm}, {cid, 0o777, nil}, {cid, 0o6777, nil}} {
		f := begin(t, false)
		d := creates(t, f, boss, 1, "d", api.Dir, c.mode)
		ok(t, f.Change(boss, d, api.Set{What: 2, Uid: 1}))
		creates(t, f, bob, d, "x", api.File, 0)
		creates(t, f, bob, d, "e", api.Dir, 0)
		for _, name := range []string{"x", "e"} {
			if err := f.Remove(c.c, d, name); api.Tell(err) != api.Tell(c.err) {
				t.Errorf("user %d removes from %o: %v", c.c.Uid, c.mode, err)
			}
		}
	}
}

// TestRemoveAll: a node whose last name is removed takes all with it that it had; its number is not given again.
func TestRemoveAll(t *testing.T) {
	f := begin(t, false)
	x := creates(t, f, boss, 1, "x", api.File, 0)
	was := f.Map().Pool().Use().Used
	for i := range 16 {
		ok(t, f.SetExtra(boss, x, fmt.Sprint("extra", i), make([]byte, 200)))
		ok(t, f.Write(boss, x, 5000*i, []byte(strings.Repeat("bytes ", 99))))
	}
	ok(t, f.Remove(boss, 1, "x"))
	if now := f.Map().Pool().Use().Used; now > was {
		t.Errorf("%d rows are in use, were %d", now, was)
	}
	_, err := f.Read(boss, x, 0, 1)
	is(t, err, api.ErrNode)
	if y := creates(t, f, boss, 1, "x", api.File, 0); y != x+1 || stat(t, f, y).Size != 0 {
		t.Errorf("%d", y)
	}
	is(t, f.Remove(boss, 1, "y"), api.ErrMissing)
}
