package sys

import (
	"bytes"
	"fmt"
	"math/rand"
	"runtime/debug"
	"slices"
	"testing"
	"time"

	"bedrock/api"
	"bedrock/flow"
	"bedrock/fs"
	"bedrock/node"
	digits "bedrock/number"
	"bedrock/pool"
	"bedrock/snap"
	"bedrock/sum"
	"bedrock/tree"
)

// Where in a sector its sum stands, and what it is of.
const atSum = api.SectorSize - 4

// filled is disks with sets, snapshots, clones, and a system whose last deeds are only noted; and the rows in which something is.
func filled(t *testing.T, shape api.Shape) ([]*api.Disk, []int) {
	t.Helper()
	l := disks(shape, 1200)
	s := formatted(t, l, shape)
	y := mounted(t, s, "a")
	spawn(t, y)
	ok(t, y.Mkdir(1, "dir", 0o777))
	ok(t, y.Mkdir(1, "dir/deep", 0o777))
	ok(t, y.Symlink(1, "dir/deep/", "link"))
	for i := range 6 {
		fd := open(t, y, 1, fmt.Sprintf("dir/file %d", i), 4|2|1)
		ok(t, y.Write(1, fd, bytes.Repeat([]byte{byte(i), 7}, 900*i)))
	}
	f := y.Tree()
	ok(t, f.SetExtra(boss, 2, "color", []byte("red")))
	ok(t, f.SetLimit(1, 0, api.Quota{Nodes: 1000, Pages: 1000}))
	ok(t, y.Change(1, "dir/file 1", api.Set{What: 8, Project: 5}))
	ok(t, y.Remove(1, "dir/file 2")) // it is held, and has no names
	ok(t, s.Snap("a", "one"))
	ok(t, y.Link(1, "dir/file 3", "second"))
	ok(t, s.Snap("a", "two"))
	ok(t, s.Clone("a", "one", "c"))
	ok(t, s.Clone("a", "two", "d"))
	ok(t, s.Snap("d", "three"))
	ok(t, s.Commit())
	ok(t, y.Rename(1, "second", "dir/third", 0))
	ok(t, y.Remove(1, "dir/file 4"))
	fd := open(t, y, 1, "noted", 4|2)
	ok(t, y.Write(1, fd, bytes.Repeat([]byte("noted"), 100)))
	ok(t, y.Sync())
	var rows []int
	for at := range l[0].Size() {
		b, err := l[0].Read(at, 1)
		if ok(t, err); !bytes.Equal(b, make([]byte, api.SectorSize)) {
			rows = append(rows, at)
		}
	}
	return l, rows
}

// reform gives a sector other bytes, with a sum that fits.
func reform(d *api.Disk, at int, change func(s []byte)) {
	s, err := d.Read(at, 1)
	if err != nil {
		return
	}
	change(s)
	digits.Put(s[atSum:], uint64(sum.Sum(s[:atSum])))
	_ = d.Write(at, s)
	_ = d.Flush()
}

// turned turns bits of a sector in some way, so that the sum fits.
func turned(r *rand.Rand, d *api.Disk, rows []int) {
	at, other := rows[r.Intn(len(rows))], rows[r.Intn(len(rows))]
	switch r.Intn(5) {
	case 0:
		bit := r.Intn(8*api.SectorSize - 32)
		d.Spoil(at, bit, 1)
		d.Spoil(at, bit+1, 0x82f63b78)
	case 1:
		reform(d, at, func(s []byte) { s[r.Intn(atSum)] = byte(r.Intn(256)) })
	case 2:
		reform(d, at, func(s []byte) { s[20+r.Intn(104)] += byte(r.Intn(5) - 2) })
	case 3: // the place of a block for another one, or for something else
		reform(d, at, func(s []byte) { digits.Put(s[20+r.Intn(100):][:4], uint64(other)) })
	case 4: // what another sector has
		b, err := d.Read(other, 1)
		if err == nil {
			reform(d, at, func(s []byte) { copy(s[20:atSum], b[20:atSum]) })
		}
	}
}

// exercise calls all that there is, with one of the sets, whatever it answers.
func exercise(r *rand.Rand, l []*api.Disk, shape api.Shape) {
	p, err := pool.Open(l, shape)
	if err != nil {
		return
	}
	var blocks []api.Ptr
	for x := range p.Blocks() {
		blocks = append(blocks, x)
		p.Get(x)
	}
	s, err := snap.Open(p)
	if err != nil {
		return
	}
	undone := func(f func()) {
		_ = p.Try(func() error {
			f()
			return api.ErrLoop
		})
	}
	names, _ := s.Names()
	name, shot := one(r, append(names, "a", "c")), "one"
	if shots, _ := s.Snaps(name); len(shots) > 0 {
		shot = one(r, shots)
		if b, err := flow.Send(s, name, one(r, append(shots, "")), shot); err == nil {
			undone(func() { _ = flow.Receive(s, b, "got", "it") })
		}
	}
	undone(func() { tourAt(s, name, shot) })
	undone(func() { _ = s.Clone(name, shot, "clone"); s.Tree("clone") })
	undone(func() { _ = s.Rollback(name, shot) })
	undone(func() { _ = s.DropSnap(name, shot) })
	undone(func() { _ = s.Snap(name, "new"); _ = s.Rename(name, "other") })
	undone(func() { _ = s.Drop(name) })
	undone(func() {
		if f, err := s.Tree(name); err == nil {
			tour(f)
			_ = f.Reap()
			alterAll(f)
		}
	})
	undone(func() {
		for _, x := range blocks {
			_ = p.Share(x)
			_ = p.Drop(x)
			_ = tree.Load(p, x).Free()
		}
	})
	if y, err := Mount(s, one(r, append(names, "a"))); err == nil {
		work(y)
	}
	_, _ = p.Scrub()
	_ = s.Commit()
	_, _ = pool.Open(l, shape)
}

// one is one of a list.
func one(r *rand.Rand, l []string) string { return l[r.Intn(len(l))] }

func tourAt(s *snap.Sets, name, shot string) {
	if f, err := s.At(name, shot); err == nil {
		tour(f)
	}
}

// tour looks at all of a tree.
func tour(f *fs.FS) {
	x := node.On(f.Map())
	for range f.Map().Scan(nil, nil) {
	}
	for range tree.Diff(f.Map(), tree.New(f.Map().Pool())) {
	}
	for n, err := range x.Nodes() {
		if err != nil {
			break
		}
		a, _ := f.Stat(n)
		f.Read(boss, n, 0, api.MaxIO)
		f.Read(boss, n, a.Size-10, 100)
		f.Target(n)
		f.List(boss, n, "", 100)
		names, _ := f.Extras(boss, n)
		for _, s := range names {
			f.Extra(boss, n, s)
		}
		for _, data := range []bool{false, true} {
			x.Next(n, 0, data)
			x.Next(n, a.Size/2, data)
		}
		f.Walk(boss, n, "../dir/deep/../../link/.", true)
	}
	for kind := range 3 {
		f.Usage(kind, kind)
		f.Limit(kind, 0)
	}
	for range node.Pages(x, node.On(tree.New(f.Map().Pool()))) {
	}
}

// alterAll changes much of a tree.
func alterAll(f *fs.FS) {
	for n := range uint64(14) {
		_ = f.Write(boss, n, 200, bytes.Repeat([]byte("w"), 600))
		_ = f.Clone(boss, n, 0, 5, 3, 9)
		_ = f.Clone(boss, 6, 0, n, 20, 40)
		_ = f.Punch(boss, n, 100, 5000)
		_ = f.Cut(boss, n, 700)
		_ = f.Change(boss, n, api.Set{What: 15, Mode: 0o777, Uid: 3, Gid: 4, Project: 6})
		_ = f.SetExtra(boss, n, "more", []byte("value"))
		_ = f.DelExtra(boss, n, "color")
		_, _ = f.Create(boss, n, "child", api.New{Kind: api.File})
		_ = f.Link(boss, n, 2, fmt.Sprint("linked ", n))
		l, _ := f.List(boss, n, "", 100)
		for i, e := range l {
			_ = f.Rename(boss, n, e.Name, 3, fmt.Sprint(i), i%3)
			_ = f.Rename(boss, n, e.Name, n, "again", 0)
			_ = f.Hold(e.Node)
			_ = f.Remove(boss, n, e.Name)
			_ = f.Release(e.Node)
		}
	}
}

// work lets processes do something.
func work(y *Sys) {
	_ = y.Spawn(1, boss)
	_ = y.Spawn(2, ann)
	_ = y.Mkdir(1, "dir/made", 0o755)
	for i := range 6 {
		name := fmt.Sprint("dir/file ", i)
		fd, err := y.Open(1, name, 3, 0)
		if err != nil {
			continue
		}
		y.Read(1, fd, 3000)
		_ = y.Write(1, fd, []byte("more"))
		_ = y.Lock(1, fd, 1, 0, 10, false)
		_ = y.Remove(1, name)
		_ = y.Rename(1, "dir/third", name, 0)
		_ = y.Link(1, name, "linked")
	}
	_ = y.Chdir(2, "link")
	y.Stat(2, "../file 1", true)
	_ = y.Sync()
	_ = y.Exit(1)
	_ = y.Unmount()
}

// ends fails if something panics, or goes on for ever.
func ends(t *testing.T, what string, do func()) {
	t.Helper()
	done := make(chan string, 1)
	go func() {
		defer func() {
			said := ""
			if x := recover(); x != nil {
				said = fmt.Sprint(x, "\n", string(debug.Stack()))
			}
			done <- said
		}()
		do()
	}()
	select {
	case said := <-done:
		if said != "" {
			t.Errorf("%s: it panics: %s", what, said)
		}
	case <-time.After(time.Minute):
		t.Fatalf("%s: it does not end", what)
	}
}

// TestTurned: whatever is found in sectors whose sums fit: no call panics, and every call ends.
func TestTurned(t *testing.T) {
	for shape, count := range map[api.Shape]int{{Data: 1}: 300, mirror: 100} {
		l, rows := filled(t, shape)
		for i := range count {
			r := rand.New(rand.NewSource(int64(i)))
			copies := copied(l)
			for range 1 + i%3 {
				turned(r, copies[0], rows)
			}
			ends(t, fmt.Sprintf("%+v, %d", shape, i), func() { exercise(r, copies, shape) })
		}
	}
}

// TestJunk: so it is if the maps have pairs that nobody put there.
func TestJunk(t *testing.T) {
	shape := api.Shape{Data: 1}
	l, _ := filled(t, shape)
	for i := range 200 {
		r := rand.New(rand.NewSource(int64(i)))
		copies := copied(l)
		ends(t, fmt.Sprint(i), func() {
			s := opened(t, copies, shape)
			f, err := s.Tree(one(r, []string{"a", "c", "d"}))
			ok(t, err)
			junk(r, f.Map(), 1+r.Intn(5))
			ok(t, s.Commit())
			exercise(r, copies, shape)
		})
	}
}

func copied(l []*api.Disk) []*api.Disk {
	var out []*api.Disk
	for _, d := range l {
		out = append(out, d.Copy())
	}
	return out
}

// junk changes pairs of a map as no layer above it would.
func junk(r *rand.Rand, m *tree.Map, count int) {
	var l []api.Pair
	for p := range m.Scan(nil, nil) {
		l = append(l, p)
	}
	for range count {
		p, q := l[r.Intn(len(l))], l[r.Intn(len(l))]
		key, val, block := slices.Clone(p.Key), append([]byte{0}, p.Val...)[1:], p.Block
		switch r.Intn(6) {
		case 0:
			key[r.Intn(len(key))] += byte(r.Intn(5) - 2)
		case 1:
			val = append(val, 0)
			val[r.Intn(len(val))] = byte(r.Intn(256))
		case 2:
			if len(val) > 0 {
				val[r.Intn(len(val))] += byte(r.Intn(5) - 2)
			}
		case 3:
			val = val[:r.Intn(len(val)+1)]
		case 4:
			val = q.Val
		case 5:
			block = q.Block
		}
		if block == (api.Ptr{}) {
			_ = m.Put(key, val)
		} else if m.Pool().Share(block) == nil {
			_ = m.Tie(key, val, block)
		}
	}
}
