package sys

import (
	"fmt"
	"math/rand"
	"strings"
	"testing"

	"bedrock/api"
	"bedrock/pool"
	"bedrock/snap"
)

var lone = api.Shape{Data: 1}

// forest makes a tree that has many blocks, and processes: 1 stands in /d/gone, which has no name any more, and has open /d/x (0), a file without a name (1) and / (2); 2 has /d/x open (0), and a lock of it; 3 has nothing.
func forest(t *testing.T, y *Sys) {
	t.Helper()
	spawn(t, y)
	ok(t, y.Exit(4))
	ok(t, y.Mkdir(1, "/d", 0o777))
	ok(t, y.Mkdir(1, "/d/sub", 0o777))
	ok(t, y.Mkdir(1, "/d/gone", 0o777))
	ok(t, y.Symlink(1, "d/sub", "/l"))
	open(t, y, 1, "/d/x", 7)
	open(t, y, 1, "/d/lost", 7)
	open(t, y, 1, "/", 1)
	write(t, y, 1, 0, strings.Repeat("some text", 300))
	write(t, y, 1, 1, strings.Repeat("more text", 300))
	ok(t, y.Chdir(1, "/d/gone"))
	ok(t, y.Remove(1, "/d/gone"))
	ok(t, y.Remove(1, "/d/lost"))
	open(t, y, 2, "/d/x", 3)
	ok(t, y.Lock(2, 0, 2, 0, 9, false))
	for i := range 60 {
		ok(t, y.Close(3, open(t, y, 3, fmt.Sprint("/d/file ", i), 7)))
		ok(t, y.Change(1, fmt.Sprint("/d/file ", i), api.Set{What: 10, Uid: i, Project: i}))
	}
}

// deeds is calls of the processes that forest makes, which all go well.
func deeds() []call {
	none := func(name string, ask func(y *Sys) error) call {
		return call{name, func(y *Sys) (string, error) { return "", ask(y) }}
	}
	num := func(name string, ask func(y *Sys) (int, error)) call {
		return call{name, func(y *Sys) (string, error) {
			n, err := ask(y)
			if n == 0 {
				return "", err
			}
			return fmt.Sprint(n), err
		}}
	}
	return []call{
		none("Spawn", func(y *Sys) error { return y.Spawn(9, bob) }),
		none("Exit", func(y *Sys) error { return y.Exit(1) }),
		none("Chdir", func(y *Sys) error { return y.Chdir(1, "/l") }),
		{"Stat", func(y *Sys) (string, error) {
			n, a, err := y.Stat(2, "/l/../file 33", true)
			if n == 0 && a == (api.Attr{}) {
				return "", err
			}
			return fmt.Sprint(n, a), err
		}},
		num("Open", func(y *Sys) (int, error) { return y.Open(1, "/d/file 44", 3, 0) }),
		num("Open and make", func(y *Sys) (int, error) { return y.Open(1, "/l/new", 15, 0o600) }),
		num("Open and cut", func(y *Sys) (int, error) { return y.Open(1, "/d/x", 18, 0) }),
		none("Close", func(y *Sys) error { return y.Close(1, 1) }),
		num("Seek", func(y *Sys) (int, error) { return y.Seek(1, 0, -3, 2) }),
		{"Read", func(y *Sys) (string, error) {
			b, err := y.Read(2, 0, 2000)
			return string(b), err
		}},
		none("Write", func(y *Sys) error { return y.Write(2, 0, []byte("other text")) }),
		none("Write without a name", func(y *Sys) error { return y.Write(1, 1, []byte("other text")) }),
		none("Cut", func(y *Sys) error { return y.Cut(1, 0, 5) }),
		none("Mkdir", func(y *Sys) error { return y.Mkdir(2, "/l/new", 0o700) }),
		none("Symlink", func(y *Sys) error { return y.Symlink(2, "there", "/l/new") }),
		none("Link", func(y *Sys) error { return y.Link(1, "/d/x", "/l/new") }),
		none("Remove", func(y *Sys) error { return y.Remove(1, "/d/file 22") }),
		none("Remove what is open", func(y *Sys) error { return y.Remove(1, "/d/x") }),
		none("Rename", func(y *Sys) error { return y.Rename(1, "/d/file 11", "/l/new", 0) }),
		none("Rename to what is open", func(y *Sys) error { return y.Rename(1, "/d/file 11", "/d/x", 0) }),
		none("Change", func(y *Sys) error { return y.Change(1, "/d/file 7", api.Set{What: 15, Mode: 0o600, Uid: 3}) }),
	}
}

// told is all that a system has, and how the rows are used.
func (y *Sys) told() string {
	out := fmt.Sprint(y.tree.Map().Root(), y.pool().Use(), y.tree.Turn(), y.tree.Held(), y.locks, y.waits)
	for pid := range 10 {
		if p := y.procs[pid]; p != nil {
			out += fmt.Sprint("; ", pid, *p)
		}
	}
	return out
}

// outcome is what a call tells, and what it leaves, if that is asked for; it is undone then.
func outcome(t *testing.T, y *Sys, c call, look bool) (got, after string, err error) {
	t.Helper()
	before := y.told()
	is(t, y.pool().Try(func() error {
		got, err = c.ask(y)
		switch {
		case err == nil && look:
			after = picture(y.Tree()) + fmt.Sprint(y.tree.Held(), y.counts(), y.locks)
		case err != nil && (y.told() != before || got != ""):
			t.Fatalf("%s: %q, with %v, or something was changed", c.name, got, err)
		}
		return api.ErrLoop
	}), api.ErrLoop)
	if y.told() != before {
		t.Fatalf("%s was not undone", c.name)
	}
	return got, after, err
}

// However much is spoilt: a call answers what it should, or that something is spoilt, and changes nothing then.
func TestSpoilt(t *testing.T) {
	l := disks(lone, 20000)
	y := mounted(t, formatted(t, l, lone), "a")
	forest(t, y)
	ok(t, y.sets.Commit())
	want, after := map[string]string{}, map[string]string{}
	for _, c := range deeds() {
		got, s, err := outcome(t, y, c, true)
		ok(t, err)
		want[c.name], after[c.name] = got, s
	}
	good, bad := map[string]int{}, map[string]int{}
	for b := range y.pool().Blocks() {
		l[0].Spoil(b.At, 333, 1)
		for _, c := range deeds() {
			got, _, err := outcome(t, y, c, false)
			if err != nil {
				is(t, err, api.ErrSpoilt)
				bad[c.name]++
			} else if good[c.name]++; got != want[c.name] {
				t.Fatalf("%s is %q, wanted %q", c.name, got, want[c.name])
			}
		}
		l[0].Spoil(b.At, 333, 1)
	}
	for _, c := range deeds() {
		if good[c.name] == 0 || bad[c.name] == 0 {
			t.Errorf("%s: %d good, %d bad", c.name, good[c.name], bad[c.name])
		}
		if got, s, err := outcome(t, y, c, true); err != nil || got != want[c.name] || s != after[c.name] {
			t.Errorf("%s is %q, %v behind it all", c.name, got, err)
		}
	}
	audit(t, y)
}

// busy takes up what forest made: a process has a file open that has no name, and wrote more than can be noted.
func busy(t *testing.T, d *api.Disk) *Sys {
	t.Helper()
	y := mounted(t, opened(t, []*api.Disk{d}, lone), "a")
	ok(t, y.Spawn(1, boss))
	ok(t, y.Spawn(2, boss))
	open(t, y, 1, "/d/x", 3)
	open(t, y, 2, "/d/x", 3)
	open(t, y, 1, "/d/n", 7)
	ok(t, y.Remove(1, "/d/n"))
	ok(t, y.sets.Commit())
	write(t, y, 1, 0, strings.Repeat("l", 3000))
	return y
}

// A Sync and an Unmount that cannot read what they need change nothing.
func TestSpoiltCommits(t *testing.T) {
	l := disks(lone, 20000)
	y := mounted(t, formatted(t, l, lone), "a")
	forest(t, y)
	ok(t, y.sets.Commit())
	for what, call := range map[string]func(y *Sys) error{"Sync": (*Sys).Sync, "Unmount": (*Sys).Unmount} {
		good, bad := 0, 0
		for i := 0; ; i++ {
			d := l[0].Copy()
			y := busy(t, d)
			var blocks []api.Ptr
			for b := range y.pool().Blocks() {
				blocks = append(blocks, b)
			}
			if i == len(blocks) {
				break
			}
			before, life, want := y.told(), y.pool().Life(), reaped(t, y.Tree())
			d.Spoil(blocks[i].At, 333, 1)
			err := call(y)
			d.Spoil(blocks[i].At, 333, 1)
			if err == nil {
				good++
				continue
			}
			bad++
			if is(t, err, api.ErrSpoilt); y.told() != before || y.pool().Life() != life {
				t.Fatalf("%s with an error changed something", what)
			}
			ok(t, call(y))
			same(t, what, picture(mounted(t, opened(t, []*api.Disk{d}, lone), "a").Tree()), want)
		}
		if good == 0 || bad == 0 {
			t.Errorf("%s: %d good, %d bad", what, good, bad)
		}
	}
}

// A Mount that cannot read what it needs leaves all as it is, so that another one can be tried.
func TestSpoiltMount(t *testing.T) {
	l := disks(lone, 20000)
	y := mounted(t, formatted(t, l, lone), "a")
	forest(t, y)
	ok(t, y.sets.Commit())
	for _, c := range deeds()[10:] {
		c.ask(y)
	}
	ok(t, y.Sync())
	want := reaped(t, y.Tree())
	var blocks []api.Ptr
	s := opened(t, []*api.Disk{l[0].Copy()}, lone)
	for b := range s.Pool().Blocks() {
		blocks = append(blocks, b)
	}
	good, bad := 0, 0
	for _, b := range blocks {
		d := l[0].Copy()
		s := opened(t, []*api.Disk{d}, lone)
		d.Spoil(b.At, 333, 1)
		y, err := Mount(s, "a")
		if err == nil {
			good++
			d.Spoil(b.At, 333, 1)
			same(t, "mounted", picture(y.Tree()), want)
			continue
		}
		if is(t, err, api.ErrSpoilt); y != nil {
			t.Error("a system, with an error")
		}
		bad++
		d.Spoil(b.At, 333, 1)
		same(t, "mounted then", picture(mounted(t, s, "a").Tree()), want)
	}
	if good == 0 || bad == 0 {
		t.Errorf("%d good, %d bad", good, bad)
	}
}

// However little room there is: a call answers that there is none, and changes nothing then, or all is well.
func TestRoom(t *testing.T) {
	none, done := 0, 0
	r := rand.New(rand.NewSource(1))
	for size := 150; size < 1000; size += 13 {
		l := disks(lone, size)
		p, err := pool.Format(l, lone, 7)
		ok(t, err)
		s, err := snap.Make(p)
		ok(t, err)
		if s.New("a", false) != nil {
			continue
		}
		y, err := Mount(s, "a")
		if err != nil {
			is(t, err, api.ErrRoom)
			continue
		}
		ok(t, y.Spawn(1, boss))
		ok(t, y.Spawn(2, boss))
		for i := range 60 {
			before := y.told()
			_, err := y.Open(1, fmt.Sprint("/file ", i), 15, 0o600)
			if err == nil {
				b := make([]byte, 2000)
				r.Read(b)
				before = y.told()
				if err = y.Write(1, i%5, b); api.Tell(err) == api.ErrFd {
					err = nil
				}
			}
			if err == nil {
				before = y.told()
				err = y.Remove(1, fmt.Sprint("/file ", i-3))
			}
			if err != nil && api.Tell(err) != api.ErrMissing && api.Tell(err) != api.ErrMany {
				if is(t, err, api.ErrRoom); before != "" && y.told() != before {
					t.Fatal("with an error something was changed")
				}
				none++
			} else {
				done++
			}
			if err := y.Sync(); err != nil {
				is(t, err, api.ErrRoom)
			}
			if i%3 > 0 {
				y.Close(1, i%7)
			}
			audit(t, y)
		}
		want := reapedOf(t, y)
		if err := y.Unmount(); err != nil {
			is(t, err, api.ErrRoom)
			continue
		}
		f, err := opened(t, l, lone).Tree("a")
		ok(t, err)
		same(t, "unmounted", picture(f), want)
	}
	if none < 20 || done < 20 {
		t.Errorf("%d without room, %d with it", none, done)
	}
}

// reapedOf is what the tree is when all processes have exited.
func reapedOf(t *testing.T, y *Sys) string {
	t.Helper()
	out := ""
	is(t, y.pool().Try(func() error {
		for _, pid := range []int{1, 2} {
			if err := y.Exit(pid); err != nil {
				return api.ErrLoop
			}
		}
		out = picture(y.Tree())
		return api.ErrLoop
	}), api.ErrLoop)
	return out
}

// Where a disk fails the error is told, and nothing else; when all is taken up again it was done, or not.
func TestDown(t *testing.T) {
	l := disks(lone, 20000)
	y := mounted(t, formatted(t, l, lone), "a")
	forest(t, y)
	ok(t, y.sets.Commit())
	all := append(deeds(), call{"Sync", func(y *Sys) (string, error) { return "", y.Sync() }}, call{"Unmount", func(y *Sys) (string, error) { return "", y.Unmount() }})
	met, done := 0, 0
	for _, c := range all {
		e := busy(t, l[0].Copy())
		before := reaped(t, e.Tree())
		c.ask(e)
		after, err := reaped(t, e.Tree()), error(api.ErrDevice)
		for k := 0; err != nil; k++ {
			d := l[0].Copy()
			y := busy(t, d)
			ok(t, y.Sync())
			d.Fail(k, 1<<30)
			var got string
			got, err = c.ask(y)
			d.Fail(0, 0)
			found := picture(mounted(t, opened(t, []*api.Disk{d.Copy()}, lone), "a").Tree())
			switch {
			case err == nil:
				same(t, c.name, found, after)
				continue
			case found == after:
				done++
			default:
				same(t, c.name, found, before)
			}
			if met++; api.Tell(err) != api.ErrDevice || got != "" {
				t.Fatalf("%s: %q, %v", c.name, got, err)
			}
		}
	}
	if met < 50 || done < 10 {
		t.Errorf("%d operations failed, and %d times it was done", met, done)
	}
}
