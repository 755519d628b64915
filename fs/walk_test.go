package fs

import (
	"errors"
	"fmt"
	"strings"
	"testing"

	"bedrock/api"
)

// way is a Walk, and what it should tell.
type way struct {
	c      api.Cred
	from   uint64
	path   string
	follow bool
	want   uint64
	err    error
}

func walks(t *testing.T, f *FS, l []way) {
	t.Helper()
	for _, w := range l {
		got, err := f.Walk(w.c, w.from, w.path, w.follow)
		if got != w.want || !errors.Is(err, w.err) || w.err == nil && err != nil {
			t.Errorf("Walk(%v, %d, %.50q, %v) is %d, %v, wanted %d, %v", w.c, w.from, w.path, w.follow, got, err, w.want, w.err)
		}
	}
}

func TestWalk(t *testing.T) {
	for _, fold := range []bool{false, true} {
		f := begin(t, fold)
		d := creates(t, f, boss, 1, "dir", api.Dir, 0o755)
		e := creates(t, f, boss, d, "Inner", api.Dir, 0o755)
		x := creates(t, f, boss, d, "file", api.File, 0)
		long := strings.Repeat("n", 40)
		n := creates(t, f, boss, e, long, api.File, 0)
		bytes := creates(t, f, boss, 1, "\xff\x01é", api.File, 0)
		walks(t, f, []way{
			{boss, 1, "dir", false, d, nil},
			{boss, 1, "/", false, 1, nil},
			{boss, x, "/", true, 1, nil},
			{boss, x, "/dir", true, d, nil},
			{boss, x, "dir", true, 0, api.ErrNotDir},
			{boss, x, ".", true, 0, api.ErrNotDir},
			{boss, x, "..", true, 0, api.ErrNotDir},
			{boss, x, "a\x00", true, 0, api.ErrNotDir},
			{boss, e, "///dir//file", true, x, nil},
			{boss, 1, "dir/./Inner/../file", true, x, nil},
			{boss, 1, "dir/file/", true, 0, api.ErrNotDir},
			{boss, 1, "dir/file/.", true, 0, api.ErrNotDir},
			{boss, 1, "dir/", false, d, nil},
			{boss, 1, "dir///", false, d, nil},
			{boss, e, ".", false, e, nil},
			{boss, e, "..", false, d, nil},
			{boss, e, "../../../../..", false, 1, nil},
			{boss, 1, "..", false, 1, nil},
			{boss, 1, ".../x", false, 0, api.ErrMissing},
			{boss, 1, "dir/none", false, 0, api.ErrMissing},
			{boss, 1, "none/" + long + "n", false, 0, api.ErrMissing},
			{boss, 1, long + "n/none", false, 0, api.ErrName},
			{boss, 1, "dir/a\x00b", false, 0, api.ErrName},
			{boss, 1, "dir/Inner/" + long, false, n, nil},
			{boss, 1, "\xff\x01é", false, bytes, nil},
			{boss, 1, strings.Repeat("/", 400), false, 1, nil},
			{boss, 1, strings.Repeat("/", 401), false, 0, api.ErrLong},
			{boss, 1, strings.Repeat("./", 198) + "/dir", false, d, nil},
			{boss, 1, strings.Repeat("./", 199) + "/dir", false, 0, api.ErrLong},
			{boss, 1, "", false, 0, api.ErrMissing},
			{boss, x, "", false, 0, api.ErrMissing},
		})
		small := way{boss, 1, "DIR/inner", false, 0, api.ErrMissing}
		if fold {
			small.want, small.err = e, nil
		}
		walks(t, f, []way{small})
	}
}

func TestWalkAccess(t *testing.T) {
	f := begin(t, false)
	d := creates(t, f, ann, creates(t, f, boss, 1, "top", api.Dir, 0o777), "d", api.Dir, 0o710)
	e := creates(t, f, boss, d, "e", api.Dir, 0o700)
	creates(t, f, boss, e, "x", api.File, 0o777)
	other := api.Cred{Uid: 9, Gids: []int{1, 2}}
	walks(t, f, []way{
		{ann, 1, "top/d/e", true, e, nil},
		{bob, 1, "top/d/e", true, e, nil}, // by the group's bits
		{other, 1, "top/d", true, d, nil}, // what is at the end is not asked
		{other, 1, "top/d/e", true, 0, api.ErrAccess},
		{other, 1, "top/d/", true, 0, api.ErrAccess},
		{other, d, ".", true, 0, api.ErrAccess},
		{other, d, "..", true, 0, api.ErrAccess},
		{other, d, "none", true, 0, api.ErrAccess},
		{other, d, "a\x00", true, 0, api.ErrAccess},
		{other, d, "/top", true, d - 1, nil}, // it is not begun there
		{ann, 1, "top/d/e/x", true, 0, api.ErrAccess},
		{boss, 1, "top/d/e/x", true, e + 1, nil},
	})
	ok(t, f.Change(boss, 1, api.Set{What: 1, Mode: 0o766}))
	walks(t, f, []way{{ann, 1, "/", true, 0, api.ErrAccess}, {ann, d, "/top", true, 0, api.ErrAccess}, {ann, d, "e", true, e, nil}})
}

func TestWalkLinks(t *testing.T) {
	f := begin(t, false)
	d := creates(t, f, boss, 1, "d", api.Dir, 0o755)
	e := creates(t, f, boss, d, "e", api.Dir, 0o700)
	x := creates(t, f, boss, d, "x", api.File, 0)
	up := links(t, f, e, "up", "../x")
	abs := links(t, f, e, "abs", "/d")
	slash := links(t, f, 1, "slash", "d/e/")
	to := links(t, f, 1, "to", "slash")
	dead := links(t, f, 1, "dead", "d/none")
	bad := links(t, f, 1, "bad", "d/a\x00b")
	file := links(t, f, 1, "file", "d/x/")
	round := links(t, f, 1, "round", "d/../round")
	top := links(t, f, d, "top", "/")
	walks(t, f, []way{
		{boss, e, "up", true, x, nil},
		{boss, e, "up", false, up, nil},
		{boss, 1, "d/e/up", true, x, nil},
		{boss, 1, "d/e/up/", true, 0, api.ErrNotDir},
		{boss, 1, "d/e/up/", false, 0, api.ErrNotDir},
		{boss, 1, "d/e/abs/x", false, x, nil},
		{boss, 1, "d/e/abs", false, abs, nil},
		{boss, 1, "d/e/abs/", false, d, nil},
		{boss, 1, "d/e/abs/.", false, d, nil},
		{boss, 1, "slash", true, e, nil},
		{boss, 1, "slash", false, slash, nil},
		{boss, 1, "to", true, e, nil},
		{boss, 1, "to", false, to, nil},
		{boss, 1, "to/", false, e, nil},
		{boss, 1, "to/up", false, up, nil},
		{boss, 1, "to/up", true, x, nil},
		{boss, 1, "to/..", false, d, nil},
		{boss, 1, "dead", true, 0, api.ErrMissing},
		{boss, 1, "dead", false, dead, nil},
		{boss, 1, "dead/x", false, 0, api.ErrMissing},
		{boss, 1, "bad", true, 0, api.ErrName},
		{boss, 1, "bad", false, bad, nil},
		{boss, 1, "file", true, 0, api.ErrNotDir},
		{boss, 1, "file", false, file, nil},
		{boss, 1, "round", false, round, nil},
		{boss, 1, "round", true, 0, api.ErrLoop},
		{boss, 1, "round/none", false, 0, api.ErrLoop},
		{boss, d, "top", true, 1, nil},
		{boss, d, "top", false, top, nil},
		{boss, d, "top/d/top/d", false, d, nil},
		{boss, up, "x", false, 0, api.ErrNotDir}, // from a link nothing leads on
		{ann, 1, "slash", true, 0, api.ErrAccess},
		{ann, 1, "d/e", true, e, nil},
	})
}

// TestWalkFollow: eight links are followed in a path, wherever they are, and no ninth.
func TestWalkFollow(t *testing.T) {
	f := begin(t, false)
	x := creates(t, f, boss, 1, "0", api.Dir, 0)
	var last uint64
	for i := range 9 {
		last = links(t, f, 1, fmt.Sprint(i+1), fmt.Sprint(i))
	}
	links(t, f, 1, "here", ".")
	walks(t, f, []way{
		{boss, 1, "8", true, x, nil},
		{boss, 1, "9", true, 0, api.ErrLoop},
		{boss, 1, "9/", false, 0, api.ErrLoop},
		{boss, 1, "9", false, last, nil},
		{boss, 1, strings.Repeat("here/", 8), false, 1, nil},
		{boss, 1, strings.Repeat("here/", 8) + "9", false, last, nil},
		{boss, 1, strings.Repeat("here/", 8) + "9", true, 0, api.ErrLoop},
		{boss, 1, strings.Repeat("here/", 8) + "0", true, x, nil},
		{boss, 1, strings.Repeat("here/", 9), false, 0, api.ErrLoop},
		{boss, 1, strings.Repeat("here/", 9) + "none", false, 0, api.ErrLoop},
		{boss, 1, strings.Repeat("here/", 4) + "4", true, x, nil},
		{boss, 1, strings.Repeat("here/", 4) + "5", true, 0, api.ErrLoop},
	})
	// Targets may be long, and there may be eight of them.
	dots := strings.Repeat("./", 199)
	creates(t, f, boss, 1, "a0", api.Dir, 0)
	for i := range 8 {
		links(t, f, 1, fmt.Sprint("a", i+1), dots+fmt.Sprint("a", i))
	}
	walks(t, f, []way{{boss, 1, dots + "a8", true, last + 2, nil}})
}

// TestWalkGone: a directory without names keeps its Parent, which may be no more.
func TestWalkGone(t *testing.T) {
	f := begin(t, false)
	d := creates(t, f, boss, 1, "d", api.Dir, 0o755)
	e := creates(t, f, boss, d, "e", api.Dir, 0o755)
	ok(t, f.Hold(e))
	ok(t, f.Remove(boss, d, "e"))
	walks(t, f, []way{{boss, e, "..", false, d, nil}, {boss, e, "../..", false, 1, nil}, {boss, e, ".", false, e, nil}})
	ok(t, f.Remove(boss, 1, "d"))
	if a := stat(t, f, e); a.Parent != d || a.Links != 0 {
		t.Errorf("%+v", a)
	}
	walks(t, f, []way{
		{boss, e, "..", false, 0, api.ErrNode},
		{boss, e, "../none", false, 0, api.ErrNode},
		{boss, e, "none", false, 0, api.ErrMissing},
		{boss, e, "/", false, 1, nil},
	})
}

func TestTarget(t *testing.T) {
	f := begin(t, false)
	d, x := creates(t, f, boss, 1, "d", api.Dir, 0), creates(t, f, boss, 1, "x", api.File, 0)
	for i, target := range []string{"a", "/", "\x00\xff//", strings.Repeat("t", 256), strings.Repeat("t", 257), strings.Repeat("t", 400)} {
		n := links(t, f, 1, fmt.Sprint(i), target)
		if s, err := f.Target(n); err != nil || s != target {
			t.Errorf("%q, %v, wanted %q", s, err, target)
		}
		want := api.Attr{Kind: api.Link, Mode: 0o777, Links: 1, Turn: f.Turn(), Size: len(target), Pages: (len(target) + 255) / 256}
		if a := stat(t, f, n); a != want {
			t.Errorf("%+v, wanted %+v", a, want)
		}
	}
	for _, n := range []uint64{1, d, x} {
		if s, err := f.Target(n); s != "" || api.Tell(err) != api.ErrKind {
			t.Errorf("%q, %v", s, err)
		}
		if a := stat(t, f, n); a.Size != 0 || a.Pages != 0 {
			t.Errorf("%+v", a)
		}
	}
}
