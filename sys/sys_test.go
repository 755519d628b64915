package sys

import (
	"bytes"
	"errors"
	"fmt"
	"slices"
	"strings"
	"testing"

	"bedrock/api"
	"bedrock/fs"
	"bedrock/node"
	"bedrock/pool"
	"bedrock/snap"
)

var (
	mirror = api.Shape{Data: 1, Level: 1}
	boss   = api.Cred{}
	ann    = api.Cred{Uid: 1, Gids: []int{10, 11}}
	bob    = api.Cred{Uid: 2}
)

func ok(t *testing.T, err error) {
	t.Helper()
	if err != nil {
		t.Fatal(err)
	}
}

func is(t *testing.T, err, want error) {
	t.Helper()
	if !errors.Is(err, want) || want == nil && err != nil {
		t.Fatalf("%v, wanted %v", err, want)
	}
}

// fails holds an error against the one that there should be, and goes on.
func fails(t *testing.T, what string, err error, want api.Errno) {
	t.Helper()
	if api.Tell(err) != want {
		t.Errorf("%s: %v, wanted %v", what, err, want)
	}
}

func disks(shape api.Shape, size int) []*api.Disk {
	var l []*api.Disk
	for range shape.Data + shape.Level {
		l = append(l, api.NewDisk(size))
	}
	return l
}

// formatted makes sets on disks: "a" without fold, "b" with it.
func formatted(t *testing.T, l []*api.Disk, shape api.Shape) *snap.Sets {
	t.Helper()
	p, err := pool.Format(slices.Clone(l), shape, 7)
	ok(t, err)
	s, err := snap.Make(p)
	ok(t, err)
	ok(t, s.New("a", false))
	ok(t, s.New("b", true))
	ok(t, s.Commit())
	return s
}

// opened takes up the sets of disks.
func opened(t *testing.T, l []*api.Disk, shape api.Shape) *snap.Sets {
	t.Helper()
	p, err := pool.Open(slices.Clone(l), shape)
	ok(t, err)
	s, err := snap.Open(p)
	ok(t, err)
	return s
}

func mounted(t *testing.T, s *snap.Sets, name string) *Sys {
	t.Helper()
	y, err := Mount(s, name)
	if ok(t, err); y == nil || y.Tree() == nil {
		t.Fatal("no system")
	}
	return y
}

// begun is a system of "a", with the processes 1 (of the boss), 2 (of ann), 3 (of bob) and 4 (of the boss).
func begun(t *testing.T) (*Sys, *snap.Sets, []*api.Disk) {
	t.Helper()
	l := disks(mirror, 20000)
	s := formatted(t, l, mirror)
	y := mounted(t, s, "a")
	spawn(t, y)
	return y, s, l
}

func spawn(t *testing.T, y *Sys) {
	t.Helper()
	for i, c := range []api.Cred{boss, ann, bob, boss} {
		ok(t, y.Spawn(i+1, c))
	}
}

func open(t *testing.T, y *Sys, pid int, path string, how int) int {
	t.Helper()
	fd, err := y.Open(pid, path, how, 0o666)
	ok(t, err)
	return fd
}

func write(t *testing.T, y *Sys, pid, fd int, text string) {
	t.Helper()
	ok(t, y.Write(pid, fd, []byte(text)))
}

// text is what a file has.
func text(t *testing.T, y *Sys, path string) string {
	t.Helper()
	n, err := y.tree.Walk(boss, root, path, true)
	ok(t, err)
	b, err := y.tree.Read(boss, n, 0, api.MaxIO)
	ok(t, err)
	return string(b)
}

// number is the node at the end of a path.
func number(t *testing.T, y *Sys, path string) uint64 {
	t.Helper()
	n, err := y.tree.Walk(boss, root, path, false)
	ok(t, err)
	return n
}

// picture is all that a tree tells, but for what is held.
func picture(f *fs.FS) string {
	var s strings.Builder
	fmt.Fprintln(&s, f.Turn())
	for n, err := range node.On(f.Map()).Nodes() {
		if err != nil {
			fmt.Fprintln(&s, err)
			break
		}
		a, err := f.Stat(n)
		target, err1 := f.Target(n)
		entries, err2 := f.List(boss, n, "", 1000)
		b, err3 := f.Read(boss, n, 0, api.MaxIO)
		fmt.Fprintln(&s, n, a, err, target, err1, entries, err2, len(b), bytes.TrimRight(b, "\x00"), err3)
	}
	for id := range 4 {
		for kind := 1; kind < 3; kind++ {
			u, err := f.Usage(kind, id)
			q, err1 := f.Limit(kind, id)
			fmt.Fprintln(&s, kind, id, u, err, q, err1)
		}
	}
	return s.String()
}

// reaped is what a tree tells when its nodes without names were reaped.
func reaped(t *testing.T, f *fs.FS) string {
	t.Helper()
	out := ""
	is(t, f.Map().Try(func() error {
		m, err := f.Map().Snap()
		ok(t, err)
		g := fs.On(m)
		ok(t, g.Reap())
		out = picture(g)
		return api.ErrLoop
	}), api.ErrLoop)
	return out
}

func same(t *testing.T, what, got, want string) {
	t.Helper()
	if got != want {
		t.Fatalf("%s: %s\nwanted %s", what, got, want)
	}
}

// counts is how often nodes are held by processes, by what these have.
func (y *Sys) counts() map[uint64]int {
	l := map[uint64]int{}
	for _, p := range y.procs {
		for _, n := range p.holds() {
			l[n]++
		}
	}
	return l
}

// audit: what is held is what processes have; locks are of processes that have their nodes open, and don't stand against each other; who waits has reason to.
func audit(t *testing.T, y *Sys) {
	t.Helper()
	if held := y.counts(); y.tree.Held() != len(held) {
		t.Fatalf("%d nodes are held, wanted %d", y.tree.Held(), len(held))
	}
	for n, l := range y.locks {
		for i, a := range l {
			if p := y.procs[a.pid]; p == nil || !p.opened(n) || a.from >= a.to || a.from < 0 {
				t.Fatalf("a lock %v of node %d", a, n)
			}
			for _, b := range l[:i] {
				if a.against(b) || a.pid == b.pid && (a.meets(b.span) || a.kind == b.kind && a.touches(b.span)) {
					t.Fatalf("locks %v and %v of node %d", a, b, n)
				}
			}
		}
		if len(l) == 0 {
			t.Fatal("no locks are kept")
		}
	}
	for pid, p := range y.procs {
		if p.want.waits() && len(y.against(p.want)) == 0 {
			t.Fatalf("%d waits for nothing", pid)
		}
	}
}

func TestMount(t *testing.T) {
	l := disks(mirror, 20000)
	s := formatted(t, l, mirror)
	for name, want := range map[string]api.Errno{"": api.ErrName, "a/b": api.ErrName, "..": api.ErrName, "c": api.ErrMissing} {
		y, err := Mount(s, name)
		if fails(t, name, err, want); y != nil {
			t.Error("a system, with an error")
		}
	}
	f, err := s.Tree("a")
	ok(t, err)
	n, err := f.Create(boss, 1, "x", api.New{Kind: api.File})
	ok(t, err)
	ok(t, f.Hold(n))
	life := s.Pool().Life()
	if y, err := Mount(s, "a"); api.Tell(err) != api.ErrBusy || y != nil || s.Pool().Life() != life {
		t.Errorf("of a tree of which something is held: %v", err)
	}
	ok(t, f.Remove(boss, 1, "x"))
	s = opened(t, l, mirror)
	f, err = s.Tree("a")
	ok(t, err)
	n, err = f.Create(boss, 1, "x", api.New{Kind: api.File})
	ok(t, err)
	g := fs.On(f.Map())
	ok(t, g.Hold(n))
	ok(t, g.Remove(boss, 1, "x"))
	_, err = f.Stat(n)
	ok(t, err)
	y := mounted(t, s, "a")
	if y.Tree() != f {
		t.Error("another tree")
	}
	_, err = f.Stat(n)
	is(t, err, api.ErrNode)
	same(t, "committed", picture(mounted(t, opened(t, l, mirror), "a").Tree()), picture(f))
	is(t, s.Pool().Try(func() error {
		y, err := Mount(s, "b")
		if y != nil {
			t.Error("a system, with an error")
		}
		return err
	}), api.ErrOrder)
}

func TestUnmount(t *testing.T) {
	y, s, l := begun(t)
	fd := open(t, y, 1, "/x", 7)
	write(t, y, 1, fd, "there")
	other := open(t, y, 2, "/x", 1)
	ok(t, y.Lock(1, fd, 2, 0, 0, false))
	is(t, y.Lock(2, other, 1, 0, 1, true), api.ErrWaits)
	ok(t, y.Remove(1, "/x"))
	n := y.procs[1].opens[0].node
	ok(t, y.Mkdir(1, "/d", 0o777))
	ok(t, y.Chdir(3, "/d"))
	ok(t, y.Remove(1, "/d"))
	ok(t, y.Mkdir(1, "/e", 0o700))
	is(t, s.Pool().Try(y.Unmount), api.ErrOrder)
	if audit(t, y); len(y.procs) != 4 || !y.Waits(2) || y.tree.Held() != 3 {
		t.Error("an Unmount with an error changed something")
	}
	ok(t, y.Unmount())
	if f := y.Tree(); f.Held() > 0 {
		t.Errorf("%d nodes are held", f.Held())
	}
	_, err := y.Tree().Stat(n)
	is(t, err, api.ErrNode)
	want := picture(y.Tree())
	y = mounted(t, s, "b") // and again, in the same sets
	ok(t, y.Unmount())
	y = mounted(t, s, "a")
	same(t, "mounted again", picture(y.Tree()), want)
	for _, d := range l {
		d.Crash(nil)
	}
	s = opened(t, l, mirror)
	f, err := s.Tree("a")
	ok(t, err)
	same(t, "behind a crash", picture(f), want)
	ok(t, s.Drop("b"))
	y = mounted(t, s, "a")
	ok(t, y.Unmount())
	ok(t, s.Drop("a"))
}

func TestPids(t *testing.T) {
	y, _, _ := begun(t)
	for _, pid := range []int{0, -1, 1, 4, -1 << 63} {
		fails(t, fmt.Sprint("Spawn ", pid), y.Spawn(pid, boss), api.ErrPid)
	}
	ok(t, y.Spawn(1<<62, bob))
	ok(t, y.Exit(1<<62))
	is(t, y.Exit(1<<62), api.ErrPid)
	ok(t, y.Spawn(1<<62, ann))
	for what, call := range calls(y) {
		for _, pid := range []int{5, 0, -1} {
			if got, err := call(pid); api.Tell(err) != api.ErrPid || got != "" {
				t.Errorf("%s of process %d: %q, %v", what, pid, got, err)
			}
		}
	}
	is(t, y.Exit(5), api.ErrPid)
	if y.Waits(5) || y.Waits(0) || y.Waits(1) {
		t.Error("one waits that is not there, or goes on")
	}
	fd, own := open(t, y, 1, "/x", 7), open(t, y, 4, "/x", 7)
	ok(t, y.Lock(1, fd, 2, 0, 1, false))
	is(t, y.Lock(4, own, 2, 0, 1, true), api.ErrWaits)
	before := y.tree.Map().Root()
	for what, call := range calls(y) {
		if got, err := call(4); api.Tell(err) != api.ErrWaits || got != "" {
			t.Errorf("%s of one that waits: %q, %v", what, got, err)
		}
	}
	if !y.Waits(4) || y.tree.Map().Root() != before {
		t.Error("something was changed")
	}
	ok(t, y.Exit(4))
	if y.Waits(4) {
		t.Error("one waits that is no more")
	}
	audit(t, y)
}

// calls is all calls of a process (but for Exit), with arguments with which nothing else is wrong, or much.
func calls(y *Sys) map[string]func(pid int) (string, error) {
	none := func(err error) (string, error) { return "", err }
	num := func(n int, err error) (string, error) {
		if n == 0 {
			return "", err
		}
		return fmt.Sprint(n), err
	}
	l := map[string]func(pid int) (string, error){}
	for i, path := range []string{"/x", "", "/x/", strings.Repeat("n", 500)} {
		add := func(what string, call func(pid int) (string, error)) { l[fmt.Sprint(what, " ", i)] = call }
		how := []int{1, 99, 0, -1}[i]
		add("Chdir", func(pid int) (string, error) { return none(y.Chdir(pid, path)) })
		add("Stat", func(pid int) (string, error) {
			n, a, err := y.Stat(pid, path, true)
			if n == 0 && a == (api.Attr{}) {
				return "", err
			}
			return fmt.Sprint(n, a), err
		})
		add("Open", func(pid int) (string, error) { return num(y.Open(pid, path, how, how)) })
		add("Close", func(pid int) (string, error) { return none(y.Close(pid, how)) })
		add("Dup", func(pid int) (string, error) { return num(y.Dup(pid, how)) })
		add("Seek", func(pid int) (string, error) { return num(y.Seek(pid, how, how, how)) })
		add("Read", func(pid int) (string, error) {
			b, err := y.Read(pid, how, how)
			return string(b), err
		})
		add("Write", func(pid int) (string, error) { return none(y.Write(pid, how, []byte(path))) })
		add("Cut", func(pid int) (string, error) { return none(y.Cut(pid, how, how)) })
		add("Mkdir", func(pid int) (string, error) { return none(y.Mkdir(pid, path, how)) })
		add("Symlink", func(pid int) (string, error) { return none(y.Symlink(pid, path, path)) })
		add("Link", func(pid int) (string, error) { return none(y.Link(pid, path, path)) })
		add("Remove", func(pid int) (string, error) { return none(y.Remove(pid, path)) })
		add("Rename", func(pid int) (string, error) { return none(y.Rename(pid, path, path, how)) })
		add("Change", func(pid int) (string, error) { return none(y.Change(pid, path, api.Set{What: how})) })
		add("Lock", func(pid int) (string, error) { return none(y.Lock(pid, how, how, how, how, true)) })
		add("Unlock", func(pid int) (string, error) { return none(y.Unlock(pid, how, how, how)) })
	}
	return l
}

// What a process is made of is not kept so that it could be seen.
func TestCredIsKept(t *testing.T) {
	y, _, _ := begun(t)
	ok(t, y.Mkdir(1, "/d", 0o070))
	ok(t, y.Change(1, "/d", api.Set{What: 4, Gid: 77}))
	c := api.Cred{Uid: 9, Gids: []int{5, 77}}
	ok(t, y.Spawn(9, c))
	c.Gids[1], c.Uid = 0, 0
	ok(t, y.Chdir(9, "/d"))
	ok(t, y.Mkdir(9, "sub", 0o700))
	_, a, err := y.Stat(9, "sub", true)
	if ok(t, err); a.Uid != 9 || a.Gid != 5 || a.Kind != api.Dir || a.Mode != 0o700 {
		t.Errorf("%+v", a)
	}
}

func TestChdir(t *testing.T) {
	y, _, _ := begun(t)
	ok(t, y.Mkdir(1, "d", 0o755))
	ok(t, y.Mkdir(1, "d/shut", 0o766))
	open(t, y, 1, "d/x", 7)
	ok(t, y.Symlink(1, "d/shut", "l"))
	ok(t, y.Symlink(1, "../x", "d/file"))
	for path, want := range map[string]api.Errno{
		"": api.ErrMissing, "none": api.ErrMissing, "d/none": api.ErrMissing, "d/x": api.ErrNotDir, "d/x/": api.ErrNotDir, "d/file": api.ErrMissing,
		"d/shut": api.ErrAccess, "l": api.ErrAccess, "d/shut/.": api.ErrAccess, strings.Repeat("/", 401): api.ErrLong, "a\x00": api.ErrName,
	} {
		fails(t, path, y.Chdir(2, path), want)
	}
	if p := y.procs[2]; p.dir != root || y.tree.Held() != 2 {
		t.Error("a Chdir with an error changed something")
	}
	ok(t, y.Chdir(2, "./d//"))
	_, _, err := y.Stat(2, "x", false)
	ok(t, err)
	_, _, err = y.Stat(2, "d", false)
	is(t, err, api.ErrMissing)
	ok(t, y.Chdir(1, "l"))
	n := number(t, y, "d/shut")
	if y.procs[1].dir != n {
		t.Error("the link is not followed")
	}
	ok(t, y.Remove(4, "/d/shut"))
	a, err := y.tree.Stat(n)
	if ok(t, err); a.Links != 0 {
		t.Errorf("%+v", a)
	}
	is(t, y.Mkdir(1, "sub", 0o700), api.ErrMissing)
	_, _, err = y.Stat(1, "..", false)
	ok(t, err)
	ok(t, y.Chdir(1, "."))
	ok(t, y.Chdir(1, ".."))
	_, err = y.tree.Stat(n)
	is(t, err, api.ErrNode)
	ok(t, y.Chdir(1, "/"))
	if y.procs[1].dir != root {
		t.Error("not the root")
	}
	audit(t, y)
}

func TestExit(t *testing.T) {
	y, _, _ := begun(t)
	ok(t, y.Mkdir(1, "d", 0o777))
	ok(t, y.Chdir(1, "d"))
	var fds []int
	for range 3 {
		fds = append(fds, open(t, y, 1, "x", 7))
	}
	_, err := y.Dup(1, fds[0])
	ok(t, err)
	open(t, y, 1, "/y", 7)
	open(t, y, 2, "/d/x", 1)
	n, m, d := number(t, y, "d/x"), number(t, y, "y"), number(t, y, "d")
	for _, path := range []string{"/d/x", "/y", "/d"} {
		ok(t, y.Remove(1, path))
	}
	turn := y.tree.Turn()
	ok(t, y.Exit(1))
	for _, k := range []uint64{m, d} {
		_, err := y.tree.Stat(k)
		is(t, err, api.ErrNode)
	}
	_, err = y.tree.Stat(n) // 2 has it still
	ok(t, err)
	audit(t, y)
	ok(t, y.Exit(2))
	_, err = y.tree.Stat(n)
	if is(t, err, api.ErrNode); y.tree.Turn() != turn {
		t.Error("an Exit is a turn")
	}
	ok(t, y.Spawn(1, bob))
	if p := y.procs[1]; p.dir != root || p.fds != [api.MaxFds]int{} || p.cred.Uid != 2 {
		t.Errorf("%+v", p)
	}
}
