package sys

import (
	"bytes"
	"fmt"
	"strings"
	"testing"

	"bedrock/api"
	"bedrock/flow"
	"bedrock/snap"
)

// crashed lets all that is not safe be lost, and takes the set up again.
func crashed(t *testing.T, l []*api.Disk, name string) (*Sys, *snap.Sets) {
	t.Helper()
	for _, d := range l {
		d.Crash(nil)
	}
	s := opened(t, l, mirror)
	return mounted(t, s, name), s
}

// synced: a Sync does it by the notes, or by a commit.
func synced(t *testing.T, y *Sys, notes bool) {
	t.Helper()
	life := y.pool().Life()
	ok(t, y.Sync())
	if y.pool().Life() == life != notes {
		t.Errorf("by notes: %v, wanted %v", !notes, notes)
	}
}

// Each call that changes the tree is done again from its note.
func TestRedo(t *testing.T) {
	y, _, l := begun(t)
	wood(t, y)
	ok(t, y.Mkdir(1, "/g", 0o2777))
	ok(t, y.Change(1, "/g", api.Set{What: 12, Gid: 33, Project: 3, Mode: -1, Uid: -1}))
	past := []string{}
	for i, call := range []func() error{
		func() error { return y.Mkdir(2, "/g/ann", 0o700) },
		func() error { return y.Mkdir(2, "/l/ann", 0o700) },
		func() error { return y.Symlink(3, strings.Repeat("t", api.MaxPath), "/l/far") },
		func() error { _, err := y.Open(2, "/l/file", 7, 0o6604); return err },
		func() error { _, err := y.Open(3, "/g/bob", 7, 0o600); return err },
		func() error { return y.Write(2, 0, []byte("text")) },
		func() error {
			return y.Change(2, "/l/file", api.Set{What: 1, Mode: 0o6606, Uid: -9, Gid: -9, Project: -9})
		},
		func() error { return y.Write(2, 0, bytes.Repeat([]byte("more"), 400)) },
		func() error { return y.Link(2, "/l/file", "/g/file") },
		func() error { return y.Change(2, "/g/file", api.Set{What: 5, Mode: 0o7777, Gid: 11}) },
		func() error { return y.Cut(2, 0, 700) },
		func() error { return y.Remove(2, "/g/file") },
		func() error { return y.Rename(2, "/l/file", "/l/far", 2) },
		func() error { return y.Rename(2, "/l/far", "/g/far", 1) },
		func() error { return y.Rename(1, "/d/shut", "/g/ann", 0) }, // which goes
		func() error { return y.Change(1, "/g/far", api.Set{What: 2, Uid: 2}) },
		func() error { _, err := y.Open(2, "/g/far", 18, 0); return err },
		func() error { _, err := y.Open(1, "/x", 22, 0); return err },
		func() error { return y.Remove(1, "/x") }, // which is held
		func() error { return y.Write(1, 0, []byte("without a name")) },
		func() error { return y.Chdir(1, "/d/sub/ann") },
		func() error { return y.Remove(4, "/l/ann") }, // likewise
		func() error { return y.Rename(1, "/g/bob", "/g/far", 0) },
		func() error { return y.Write(3, 0, []byte("bob")) },
		func() error { return y.Close(1, 0) },
		func() error { return y.Chdir(1, "/") },
		func() error { return y.Exit(2) },
	} {
		root := y.tree.Map().Root()
		if err := call(); err != nil || y.tree.Map().Root() == root && i != 20 { // but for a Chdir
			t.Fatalf("call %d: %v", i, err)
		}
		past = append(past, reaped(t, y.tree))
		if i%3 == 0 {
			copies := []*api.Disk{l[0].Copy(), l[1].Copy()}
			s := opened(t, copies, mirror)
			same(t, fmt.Sprint("behind call ", i), picture(mounted(t, s, "a").Tree()), past[i])
		}
	}
	synced(t, y, true)
	y, _ = crashed(t, l, "a")
	same(t, "behind all", picture(y.Tree()), past[len(past)-1])
	if y.Tree().Held() > 0 {
		t.Error("something is held")
	}
	y, _ = crashed(t, l, "a")
	same(t, "once more", picture(y.Tree()), past[len(past)-1])
	for _, d := range l {
		d.Crash(nil)
	}
}

// By a Sync all that was done lasts, by the notes if all is noted.
func TestSync(t *testing.T) {
	y, s, l := begun(t)
	synced(t, y, true) // of nothing
	fd := open(t, y, 1, "/x", 7)
	write(t, y, 1, fd, "one")
	synced(t, y, true)
	synced(t, y, true)
	write(t, y, 1, fd, strings.Repeat("l", api.MaxNote)) // too long
	write(t, y, 1, fd, "two")
	synced(t, y, false)
	write(t, y, 1, fd, "three")
	synced(t, y, true)
	for range 70 {
		write(t, y, 1, fd, "four")
	}
	synced(t, y, false) // the log was full
	write(t, y, 1, fd, "five")
	synced(t, y, true)
	write(t, y, 1, fd, strings.Repeat("l", api.MaxIO))
	ok(t, s.Commit()) // by somebody else
	write(t, y, 1, fd, "six")
	synced(t, y, true)
	ok(t, s.Snap("a", "s"))
	synced(t, y, false) // that is not noted
	write(t, y, 1, fd, "seven")
	synced(t, y, true)
	ok(t, s.Clone("a", "s", "c"))
	f, err := s.Tree("c")
	ok(t, err)
	synced(t, y, false)
	_, err = f.Create(boss, 1, "new", api.New{Kind: api.File})
	ok(t, err)
	synced(t, y, false)
	write(t, y, 1, fd, "eight")
	synced(t, y, true)
	ok(t, y.Tree().SetLimit(1, 3, api.Quota{Nodes: 9})) // by somebody who should not
	write(t, y, 1, fd, "nine")
	synced(t, y, false)
	want, wantC := reaped(t, y.Tree()), picture(f)
	write(t, y, 1, fd, "ten, which is lost")
	y, s = crashed(t, l, "a")
	same(t, "a", picture(y.Tree()), want)
	f, err = s.Tree("c")
	ok(t, err)
	same(t, "c", picture(f), wantC)
	_, err = s.At("a", "s")
	ok(t, err)
}

// What was not synced may be lost: from some call on.
func TestNotSynced(t *testing.T) {
	y, _, l := begun(t)
	fd := open(t, y, 1, "/x", 7)
	ok(t, y.Sync())
	past := []string{picture(y.Tree())}
	for i := range 10 {
		if i == 6 {
			write(t, y, 1, fd, strings.Repeat("l", 5000)) // which is not noted, nor all that comes then
		}
		write(t, y, 1, fd, "text")
		past = append(past, picture(y.Tree()))
	}
	for k := range 11 {
		copies := []*api.Disk{l[0].Copy(), l[1].Copy()}
		if k > 0 {
			for _, d := range copies {
				d.Lose(4 + k) // a row of the log
			}
		}
		got := picture(mounted(t, opened(t, copies, mirror), "a").Tree())
		if want := past[min(6, max(k-1, 0))]; k > 0 && k < 7 && got != want || k == 0 && got != past[6] {
			t.Errorf("row %d is lost: %s", k, got)
		}
	}
}

// What was noted for one set is done whichever is mounted, and is not to be seen in that.
func TestOtherSet(t *testing.T) {
	y, _, l := begun(t)
	fd := open(t, y, 1, "/x", 7)
	write(t, y, 1, fd, "of a")
	ok(t, y.Remove(1, "/x"))
	write(t, y, 1, fd, ", without a name")
	ok(t, y.Mkdir(1, "/d", 0o700))
	synced(t, y, true)
	want := reaped(t, y.Tree())
	y, s := crashed(t, l, "b")
	if y.Tree().Turn() != 0 {
		t.Error("b was changed")
	}
	f, err := s.Tree("a")
	ok(t, err)
	same(t, "a", reaped(t, f), want)
	if f.Held() > 0 {
		t.Error("something is held")
	}
	ok(t, y.Unmount())
	y, _ = crashed(t, l, "a")
	same(t, "a", picture(y.Tree()), want)
}

// A set keeps its notes by its number; notes that are none of a system are passed over.
func TestStrangeNotes(t *testing.T) {
	y, s, l := begun(t)
	ok(t, y.Mkdir(1, "/d", 0o700))
	good := deed{opMake, []uint64{0, 0, 2, 0o700, 1}, []string{"e", ""}}.bytes(y.set)
	for _, b := range [][]byte{
		{1}, {noteMark}, {noteMark, 1}, []byte("some note"), {noteMark, opWrite, 1, 200}, {noteMark, opFree, 1, 1, 255, 255, 255, 255, 255, 255, 255, 255, 255, 127, 0},
		good[:len(good)-1], append(bytes.Clone(good), 0), deed{99, nil, nil}.bytes(y.set), deed{0, nil, nil}.bytes(y.set),
		deed{opMake, []uint64{0, 0, 2, 0o700}, []string{"e", ""}}.bytes(y.set), deed{opWrite, []uint64{0, 1 << 63, 1}, []string{"e"}}.bytes(y.set),
		deed{opCut, []uint64{0, 1, 1}, []string{"e"}}.bytes(y.set), bytes.Repeat([]byte{noteMark}, 40),
	} {
		ok(t, s.Pool().Note(b))
	}
	ok(t, y.Mkdir(1, "/f", 0o700))
	want := picture(y.Tree())
	synced(t, y, true)
	y, _ = crashed(t, l, "a")
	same(t, "a", picture(y.Tree()), want)
}

// Where limits are tight: what was freed makes room for what comes then, also when it is done again.
func TestRedoOfQuotas(t *testing.T) {
	l := disks(mirror, 20000)
	s := formatted(t, l, mirror)
	f, err := s.Tree("a")
	ok(t, err)
	ok(t, f.SetLimit(1, 1, api.Quota{Nodes: 2, Pages: 2}))
	ok(t, f.Change(boss, 1, api.Set{What: 1, Mode: 0o777}))
	for _, early := range []bool{false, true} {
		y := mounted(t, s, "a")
		spawn(t, y)
		one, two := open(t, y, 2, "/one", 7), open(t, y, 2, "/two", 7)
		ok(t, y.Remove(2, "/one"))
		_, err = y.Open(2, "/three", 7, 0o600)
		is(t, err, api.ErrQuota)
		ok(t, y.Remove(2, "/two"))
		if early {
			ok(t, s.Commit()) // of nodes without names
		}
		ok(t, y.Write(2, one, make([]byte, 500)))
		is(t, y.Write(2, two, []byte("text")), api.ErrQuota)
		ok(t, y.Close(2, one))
		write(t, y, 2, two, "text")
		open(t, y, 2, "/three", 7)
		is(t, y.Mkdir(2, "/four", 0o700), api.ErrQuota)
		ok(t, y.Exit(2))
		ok(t, y.Mkdir(1, "/four", 0o700))
		ok(t, y.Change(1, "/four", api.Set{What: 2, Uid: 1}))
		synced(t, y, true)
		want := reaped(t, y.Tree())
		y, s = crashed(t, l, "a")
		same(t, "a", picture(y.Tree()), want)
		q, err := y.Tree().Usage(1, 1)
		if ok(t, err); q != (api.Quota{Nodes: 2}) {
			t.Errorf("%v", q)
		}
		ok(t, y.Spawn(1, boss))
		ok(t, y.Remove(1, "/three"))
		ok(t, y.Remove(1, "/four"))
		ok(t, y.Unmount())
	}
}

// What processes did in a Try that is undone was not done, nor is it noted.
func TestUndone(t *testing.T) {
	y, s, l := begun(t)
	fd := open(t, y, 1, "/x", 7)
	write(t, y, 1, fd, "text")
	other := open(t, y, 4, "/x", 3)
	ok(t, y.Lock(1, fd, 2, 0, 10, false))
	is(t, y.Lock(4, other, 1, 5, 1, true), api.ErrWaits)
	ok(t, y.Mkdir(1, "/d", 0o700))
	ok(t, y.Sync())
	looks := func() string {
		out := fmt.Sprint(y.locks, y.waits, y.tree.Held(), picture(y.Tree()))
		for pid := range 10 {
			if p := y.procs[pid]; p != nil {
				out += fmt.Sprint(pid, *p)
			}
		}
		return out
	}
	before := looks()
	for i, do := range []func(){
		func() { ok(t, y.Mkdir(1, "/e", 0o700)) },
		func() { ok(t, y.Spawn(7, bob)); ok(t, y.Mkdir(1, "/f", 0o777)); ok(t, y.Chdir(7, "/f")) },
		func() { ok(t, y.Exit(1)) },
		func() { ok(t, y.Exit(1)); ok(t, y.Spawn(1, ann)); open(t, y, 4, "/x", 1) },
		func() { ok(t, y.Close(1, fd)) },
		func() { ok(t, y.Unlock(1, fd, 0, 0)); write(t, y, 4, other, "more") },
		func() { ok(t, y.Remove(1, "/x")); ok(t, y.Exit(4)); ok(t, y.Close(1, fd)) },
		func() { _, err := y.Dup(1, fd); ok(t, err); ok(t, y.Chdir(1, "d")); ok(t, y.Remove(1, "/d")) },
		func() { _, err := y.Seek(1, fd, 2, 0); ok(t, err); _, err = y.Read(1, fd, 1); ok(t, err) },
		func() { is(t, y.Lock(3, open(t, y, 3, "/x", 1), 1, 0, 0, true), api.ErrWaits) },
		func() { ok(t, y.Mkdir(1, "/e", 0o700)); is(t, y.Sync(), api.ErrOrder) },
	} {
		is(t, s.Pool().Try(func() error {
			ok(t, s.Pool().Try(func() error { do(); return nil }))
			return api.ErrLoop
		}), api.ErrLoop)
		same(t, fmt.Sprint("undone ", i), looks(), before)
		audit(t, y)
	}
	copies := []*api.Disk{l[0].Copy(), l[1].Copy()}
	same(t, "on the disks", picture(mounted(t, opened(t, copies, mirror), "a").Tree()), picture(y.Tree()))
	ok(t, s.Pool().Try(func() error { return y.Mkdir(1, "/e", 0o700) }))
	ok(t, y.Mkdir(1, "/f", 0o700))
	synced(t, y, false)
	want := reaped(t, y.Tree())
	y, _ = crashed(t, l, "a")
	same(t, "synced", picture(y.Tree()), want)
}

// Snapshots and clones may be made meanwhile; what has no names is in those, and not in these.
func TestSnapshots(t *testing.T) {
	y, s, _ := begun(t)
	fd := open(t, y, 1, "/x", 7)
	write(t, y, 1, fd, "text")
	n := number(t, y, "/x")
	ok(t, y.Remove(1, "/x"))
	ok(t, s.Snap("a", "s"))
	f, err := s.At("a", "s")
	ok(t, err)
	want := picture(f)
	write(t, y, 1, fd, ", and more")
	ok(t, s.Clone("a", "s", "c"))
	g, err := s.Tree("c")
	ok(t, err)
	_, err = g.Stat(n)
	is(t, err, api.ErrNode)
	ok(t, y.Close(1, fd))
	same(t, "the snapshot", picture(f), want)
	is(t, s.Rollback("a", "s"), api.ErrBusy)
	ok(t, y.Unmount())
	ok(t, s.Rollback("a", "s"))
	y = mounted(t, s, "c")
	if y.Tree() != g {
		t.Error("another tree")
	}
	ok(t, y.Unmount())
	is(t, func() error { _, err := Mount(s, "d"); return err }(), api.ErrMissing)
}

// Streams may go and come meanwhile; what came lasts by the next Sync.
func TestStreams(t *testing.T) {
	y, s, l := begun(t)
	fd := open(t, y, 1, "/x", 7)
	write(t, y, 1, fd, "text")
	ok(t, y.Remove(1, "/x"))
	ok(t, y.Mkdir(1, "/d", 0o755))
	ok(t, s.Snap("a", "s"))
	ok(t, s.Clone("a", "s", "c"))
	ok(t, s.Snap("c", "t"))
	synced(t, y, false)
	b, err := flow.Send(s, "c", "", "t") // which nobody looked at
	ok(t, err)
	ok(t, y.Mkdir(1, "/e", 0o755))
	synced(t, y, true)
	ok(t, flow.Receive(s, b, "r", "t"))
	ok(t, y.Mkdir(1, "/f", 0o755))
	synced(t, y, false)
	want := reaped(t, y.Tree())
	y, s = crashed(t, l, "a")
	same(t, "a", picture(y.Tree()), want)
	ok(t, y.Unmount())
	c, r := mounted(t, s, "c").Tree(), mounted(t, s, "r").Tree()
	same(t, "what came", picture(r), picture(c))
	if q, err := c.Usage(1, 0); err != nil || q.Nodes != 2 {
		t.Errorf("%v, %v", q, err)
	}
}

// A clone that was looked at in a Try that was undone may be mounted.
func TestMountOfClones(t *testing.T) {
	y, s, l := begun(t)
	open(t, y, 1, "/x", 7)
	ok(t, y.Remove(1, "/x"))
	ok(t, s.Snap("a", "s"))
	ok(t, y.Unmount())
	ok(t, s.Clone("a", "s", "c"))
	ok(t, s.Clone("a", "s", "d"))
	want := ""
	is(t, s.Pool().Try(func() error {
		f, err := s.Tree("c")
		ok(t, err)
		want = picture(f)
		return api.ErrLoop
	}), api.ErrLoop)
	y = mounted(t, s, "c")
	same(t, "c", picture(y.Tree()), want)
	ok(t, y.Spawn(1, boss))
	ok(t, y.Mkdir(1, "/d", 0o700))
	synced(t, y, true)
	want = picture(y.Tree())
	y, _ = crashed(t, l, "c")
	same(t, "c", picture(y.Tree()), want)
	y, _ = crashed(t, l, "d")
	if y.Tree().Turn() != 2 {
		t.Errorf("turn %d", y.Tree().Turn())
	}
}
