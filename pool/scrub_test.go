package pool

import (
	"bytes"
	"errors"
	"math/rand"
	"testing"

	"bedrock/api"
)

// full is a pool with blocks that the last commit left, of which one is dropped, blocks that came since, and notes.
type full struct {
	p         *Pool
	l         []*api.Disk
	shape     api.Shape
	now, last map[api.Ptr][]byte
}

func filled(t *testing.T, shape api.Shape, size int) full {
	t.Helper()
	p, l := made(t, shape, size)
	f := full{p, l, shape, map[api.Ptr][]byte{}, map[api.Ptr][]byte{}}
	for i := range 12 {
		b := text(i*i*11, i)
		f.last[put(t, p, b)] = b
	}
	ok(t, p.Commit([]byte("before")))
	ok(t, p.Commit([]byte("root")))
	i := 0
	for x := range p.Blocks() {
		if i++; i == 5 || i == 10 {
			ok(t, p.Drop(x))
		} else {
			f.now[x] = f.last[x]
		}
	}
	for i := range 3 {
		b := text(i*100, 100+i)
		f.now[put(t, p, b)] = b
	}
	ok(t, p.Note(text(250, 1)))
	ok(t, p.Note(text(10, 2)))
	ok(t, p.Sync())
	return f
}

// good looks whether a pool has all these blocks.
func good(t *testing.T, p *Pool, blocks map[api.Ptr][]byte) {
	t.Helper()
	n := 0
	for range p.Blocks() {
		n++
	}
	if n != len(blocks) {
		t.Fatalf("%d blocks, wanted %d", n, len(blocks))
	}
	for x, b := range blocks {
		has(t, p, x, b, 1)
	}
}

// taken is the pool as it is opened on copies of the disks, but those that are gone.
func (f full) taken(t *testing.T, gone ...int) *Pool {
	t.Helper()
	var l []*api.Disk
	for _, d := range f.l {
		l = append(l, d.Copy())
	}
	for _, i := range gone {
		l[i].Kill()
	}
	p := opened(t, l, f.shape)
	if n := p.Notes(); string(p.Root()) != "root" || len(n) != 2 || !bytes.Equal(n[0], text(250, 1)) || !bytes.Equal(n[1], text(10, 2)) {
		t.Fatalf("root %q, %d notes", p.Root(), len(n))
	}
	good(t, p, f.last)
	return p
}

// ruin spoils every sector of a disk.
func ruin(d *api.Disk, seed int) {
	r := rand.New(rand.NewSource(int64(seed)))
	for i := range d.Size() {
		switch r.Intn(3) {
		case 0:
			d.Lose(i)
		case 1:
			d.Spoil(i, r.Intn(1024), r.Uint32()|1)
		default:
			d.Spoil(i, 0, 1<<31|1)
		}
	}
}

// sets are all sets of n of the numbers below m.
func sets(m, n int) [][]int {
	if n == 0 {
		return [][]int{nil}
	}
	var out [][]int
	for last := n - 1; last < m; last++ {
		for _, s := range sets(last, n-1) {
			out = append(out, append(s[:len(s):len(s)], last))
		}
	}
	return out
}

// TestSpoiltWithin: what is spoilt on as many disks as may be is not to be seen, and is mended: any other disks may be lost then.
func TestSpoiltWithin(t *testing.T) {
	for _, shape := range shapes {
		all := sets(shape.Data+shape.Level, shape.Level)
		for k, bad := range all {
			f := filled(t, shape, 400)
			for _, i := range bad {
				ruin(f.l[i], k)
			}
			good(t, f.p, f.now)
			f.taken(t)
			s, err := f.p.Scrub()
			if ok(t, err); s.Blocks != len(f.now) || s.Spoilt != 0 || (s.Mended > 0) != (shape.Level > 0) {
				t.Fatalf("%+v", s)
			}
			good(t, f.p, f.now)
			crash(f.l)
			for _, gone := range all {
				f.taken(t, gone...)
			}
			if s, err = f.p.Scrub(); err != nil || s != (api.Scrub{Blocks: len(f.now)}) {
				t.Fatalf("again: %+v, %v", s, err)
			}
			for _, i := range bad {
				ruin(f.l[i], k)
			}
			ok(t, f.p.Commit([]byte("next")))
			good(t, f.p, f.now)
			good(t, opened(t, f.l, shape), f.now)
		}
	}
}

// TestScrubMends: each sector that something is in is mended, and counted once; the others are left alone.
func TestScrubMends(t *testing.T) {
	f := filled(t, mirror, 400)
	_, err := f.p.Scrub()
	ok(t, err)
	count := 0
	for row := range 400 {
		f.l[row%2].Lose(row)
		s, err := f.p.Scrub()
		ok(t, err)
		if s.Blocks != len(f.now) || s.Mended > 1 || s.Spoilt > 0 {
			t.Fatalf("row %d: %+v", row, s)
		}
		count += s.Mended
	}
	u := f.p.Use()
	if want := u.Used + u.Held + u.Own + 2 + 4; count != want {
		t.Fatalf("%d sectors were mended, wanted %d", count, want)
	}
}

// TestSpoiltBeyond: however much is spoilt, a block is what it was, or spoilt, and the pool goes on.
func TestSpoiltBeyond(t *testing.T) {
	for _, shape := range shapes {
		for seed := range 20 {
			r := rand.New(rand.NewSource(int64(seed)))
			f := filled(t, shape, 400)
			if seed%2 == 0 {
				_, err := f.p.Scrub()
				ok(t, err)
			}
			for range r.Intn(3000) {
				d := f.l[r.Intn(len(f.l))]
				if r.Intn(2) == 0 {
					d.Lose(r.Intn(400))
				} else {
					d.Spoil(r.Intn(400), r.Intn(1000), r.Uint32()|1)
				}
			}
			bad := 0
			look := func() {
				bad = 0
				for x, b := range f.now {
					got, err := f.p.Get(x)
					if errors.Is(err, api.ErrSpoilt) {
						bad++
					} else if ok(t, err); !bytes.Equal(got, b) {
						t.Fatal("other bytes")
					}
				}
			}
			look()
			s, err := f.p.Scrub()
			if err != nil {
				is(t, err, api.ErrSpoilt)
				look()
				ok(t, f.p.Commit([]byte("anew")))
				s, err = f.p.Scrub()
				ok(t, err)
			}
			look()
			if s.Blocks != len(f.now) || s.Spoilt < bad || s.Spoilt > bad+2 {
				t.Fatalf("%+v, and %d are spoilt", s, bad)
			}
			for x := range f.now {
				if _, err := f.p.Get(x); err != nil {
					ok(t, f.p.Drop(x))
					delete(f.now, x)
				}
			}
			ok(t, f.p.Commit([]byte("mended")))
			if s, err := f.p.Scrub(); err != nil || s.Spoilt != 0 || s.Blocks != len(f.now) {
				t.Fatalf("%+v, %v", s, err)
			}
			good(t, opened(t, f.l, shape), f.now)
		}
	}
}

// TestSpoiltForEver: a block is counted once, its other rows are mended, and one that the last commit left, and is dropped, counts too.
func TestSpoiltForEver(t *testing.T) {
	p, l := made(t, mirror, 400)
	a, b := put(t, p, text(1000, 1)), put(t, p, text(1000, 2))
	ok(t, p.Commit(nil))
	ok(t, p.Drop(b))
	for _, d := range l {
		d.Lose(a.At + 3)
		d.Lose(a.At + 5)
		d.Lose(b.At + 9)
	}
	l[0].Lose(a.At)
	l[0].Lose(a.At + 4)
	l[1].Lose(a.At + 9)
	l[1].Lose(b.At)
	_, err := p.Get(a)
	is(t, err, api.ErrSpoilt)
	s, err := p.Scrub()
	if ok(t, err); s != (api.Scrub{Blocks: 1, Mended: 4, Spoilt: 2}) {
		t.Fatalf("%+v", s)
	}
	if s, err = p.Scrub(); err != nil || s != (api.Scrub{Blocks: 1, Spoilt: 2}) {
		t.Fatalf("%+v, %v", s, err)
	}
	ok(t, p.Commit(nil))
	if s, err = p.Scrub(); err != nil || s != (api.Scrub{Blocks: 1, Spoilt: 1}) {
		t.Fatalf("%+v, %v", s, err)
	}
	has(t, p, put(t, p, []byte("on")), []byte("on"), 1)
}

// TestOwnSpoilt: where the notes on the blocks are spoilt Scrub tells it, and changes nothing; a commit writes them anew.
func TestOwnSpoilt(t *testing.T) {
	f := filled(t, mirror, 400)
	in := map[int]int{}
	for x := range f.last {
		for i := range max(1, (x.Len+103)/104) {
			in[x.At+i] = 1
		}
	}
	for row := api.OwnRows; row < 400; row++ {
		if in[row] == 0 {
			f.l[0].Lose(row)
			f.l[1].Lose(row)
		}
	}
	was := f.p.Use()
	for range 2 {
		s, err := f.p.Scrub()
		is(t, err, api.ErrSpoilt)
		if s != (api.Scrub{}) || f.p.Use() != was {
			t.Fatalf("%+v %+v", s, f.p.Use())
		}
	}
	good(t, f.p, f.now)
	_, err := Open([]*api.Disk{f.l[0].Copy(), f.l[1].Copy()}, mirror)
	is(t, err, api.ErrSpoilt)
	is(t, f.p.Replace(0, api.NewDisk(400)), api.ErrSpoilt)
	ok(t, f.p.Commit([]byte("anew")))
	good(t, f.p, f.now)
	if s, err := f.p.Scrub(); err != nil || s.Spoilt != 0 {
		t.Fatalf("%+v, %v", s, err)
	}
}

// TestOwnRowsLost: heads and notes that no disk has any more are written anew.
func TestOwnRowsLost(t *testing.T) {
	f := filled(t, api.Shape{Data: 2}, 400)
	for _, d := range f.l {
		for row := range api.OwnRows {
			d.Lose(row)
		}
	}
	s, err := f.p.Scrub()
	if ok(t, err); s.Mended != 2*(2+4) {
		t.Fatalf("%+v", s)
	}
	crash(f.l)
	f.taken(t)
}

// TestOneSector: without disks to spare, one sector that is spoilt never makes another pool of it.
func TestOneSector(t *testing.T) {
	for _, data := range []int{1, 2} {
		shape := api.Shape{Data: data}
		for _, at := range []string{"formatted", "committed", "opened", "crashed"} {
			f := filled(t, shape, 200)
			switch at {
			case "formatted":
				_, err := Format(f.l, shape, 42)
				ok(t, err)
			case "opened":
				opened(t, f.l, shape)
			case "crashed":
				f.l[data-1].Fail(6, 1000)
				is(t, f.p.Commit([]byte("next")), api.ErrDevice)
				crash(f.l, 2)
			}
			for row := range 200 {
				for k := range data {
					oneSector(t, f, at, row, k)
				}
			}
		}
	}
}

func oneSector(t *testing.T, f full, at string, row, disk int) {
	t.Helper()
	var l []*api.Disk
	for _, d := range f.l {
		l = append(l, d.Copy())
	}
	if row%2 == 0 {
		l[disk].Lose(row)
	} else {
		l[disk].Spoil(row, 7*row%1024, 1<<16|1)
	}
	p, err := Open(l, f.shape)
	if err != nil {
		is(t, err, api.ErrSpoilt)
		return
	}
	blocks := f.last
	if at == "formatted" {
		blocks = nil
	}
	if (string(p.Root()) == "root") != (at != "formatted") || p.ID() != 42 {
		t.Fatalf("%s, row %d: pool %d, root %q", at, row, p.ID(), p.Root())
	}
	n := 0
	for x := range p.Blocks() {
		n++
		b, err := p.Get(x)
		if errors.Is(err, api.ErrSpoilt) && x.At <= row {
			continue
		}
		if ok(t, err); !bytes.Equal(b, blocks[x]) || blocks[x] == nil && x.Len > 0 {
			t.Fatalf("%s, row %d: other bytes", at, row)
		}
	}
	if n != len(blocks) {
		t.Fatalf("%s, row %d: %d blocks", at, row, n)
	}
}

// TestScrubAstray: what goes astray while all is mended is mended too.
func TestScrubAstray(t *testing.T) {
	for seed := range 200 {
		r := rand.New(rand.NewSource(int64(seed)))
		f := filled(t, mirror, 400)
		k := r.Intn(2)
		ruin(f.l[k], seed)
		for range 1 + r.Intn(4) {
			f.l[k].Mislay(r.Intn(100), r.Intn(402)-1)
		}
		s, err := f.p.Scrub()
		if ok(t, err); s.Spoilt > 0 {
			t.Fatalf("%+v", s)
		}
		crash(f.l)
		f.taken(t, 1-k)
	}
}

func TestReplace(t *testing.T) {
	for _, shape := range shapes {
		f := filled(t, shape, 400)
		n := len(f.l)
		is(t, f.p.Replace(-1, api.NewDisk(400)), api.ErrArg)
		is(t, f.p.Replace(n, nil), api.ErrArg)
		is(t, f.p.Replace(0, nil), api.ErrShape)
		is(t, f.p.Replace(0, api.NewDisk(399)), api.ErrShape)
		good(t, f.p, f.now)
		if shape.Level == 0 {
			continue
		}
		for i := range f.l {
			d := api.NewDisk(400 + i)
			if i%2 == 0 {
				f.l[i].Kill()
			}
			ok(t, f.p.Replace(i, d))
			f.l[i] = d
			good(t, f.p, f.now)
			crash(f.l)
			f.taken(t)
		}
		for _, gone := range sets(n, shape.Level) {
			f.taken(t, gone...)
		}
		ok(t, f.p.Commit(nil))
		good(t, opened(t, f.l, shape), f.now)
	}
}

// TestScrubOpened: in a pool that was opened the notes that were found are needed still.
func TestScrubOpened(t *testing.T) {
	f := filled(t, mirror, 400)
	f.p = opened(t, f.l, mirror)
	ruin(f.l[0], 1)
	if s, err := f.p.Scrub(); err != nil || s.Blocks != len(f.last) || s.Spoilt != 0 || s.Mended == 0 {
		t.Fatalf("%+v, %v", s, err)
	}
	f.taken(t, 1)
}
