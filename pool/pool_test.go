package pool

import (
	"bytes"
	"errors"
	"math"
	"math/rand"
	"runtime"
	"slices"
	"testing"

	"bedrock/api"
)

var shapes = []api.Shape{{Data: 1, Level: 0}, {Data: 1, Level: 1}, {Data: 1, Level: 2}, {Data: 2, Level: 0}, {Data: 2, Level: 1}, {Data: 3, Level: 2}, {Data: 6, Level: 2}}

var mirror = api.Shape{Data: 1, Level: 1}

func ok(t *testing.T, err error) {
	t.Helper()
	if err != nil {
		t.Fatal(err)
	}
}

func is(t *testing.T, err, want error) {
	t.Helper()
	if !errors.Is(err, want) {
		t.Fatalf("%v, wanted %v", err, want)
	}
}

func disks(n, size int) []*api.Disk {
	var l []*api.Disk
	for range n {
		l = append(l, api.NewDisk(size))
	}
	return l
}

func made(t *testing.T, shape api.Shape, size int) (*Pool, []*api.Disk) {
	t.Helper()
	l := disks(shape.Data+shape.Level, size)
	p, err := Format(l, shape, 42)
	ok(t, err)
	return p, l
}

func opened(t *testing.T, l []*api.Disk, shape api.Shape) *Pool {
	t.Helper()
	p, err := Open(l, shape)
	ok(t, err)
	return p
}

func text(n, seed int) []byte {
	b := make([]byte, n)
	rand.New(rand.NewSource(int64(n*1000 + seed))).Read(b)
	return b
}

func put(t *testing.T, p *Pool, b []byte) api.Ptr {
	t.Helper()
	x, err := p.Put(b)
	ok(t, err)
	return x
}

// has looks whether x leads to a block that is b and is in use so often; to none, if uses is 0.
func has(t *testing.T, p *Pool, x api.Ptr, b []byte, uses int) {
	t.Helper()
	got, err := p.Get(x)
	if uses == 0 {
		is(t, err, api.ErrBlock)
	} else if ok(t, err); !bytes.Equal(got, b) {
		t.Fatalf("%+v: %d other bytes than the %d that were put", x, len(got), len(b))
	}
	if p.Uses(x) != uses {
		t.Fatalf("%+v is in use %d times, wanted %d", x, p.Uses(x), uses)
	}
}

func uses(t *testing.T, p *Pool, used, held int) {
	t.Helper()
	u := p.Use()
	if u.Used != used || u.Held != held || u.All != u.Used+u.Held+u.Own+u.Free {
		t.Fatalf("%+v, wanted %d used and %d held", u, used, held)
	}
}

func crash(l []*api.Disk, fates ...byte) {
	for _, d := range l {
		d.Crash(fates)
	}
}

func TestNewPool(t *testing.T) {
	p, l := made(t, mirror, 2000)
	if p.ID() != 42 || len(p.Root()) > 0 || len(p.Notes()) > 0 || p.Use() != (api.Use{All: 1932, Free: 1932}) {
		t.Fatalf("%d %q %q %+v", p.ID(), p.Root(), p.Notes(), p.Use())
	}
	put(t, p, []byte("alpha"))
	put(t, p, nil)
	put(t, p, text(4096, 1))
	uses(t, p, 42, 0)
	crash(l)
	p = opened(t, l, mirror)
	if p.ID() != 42 || p.Use() != (api.Use{All: 1932, Free: 1932}) {
		t.Fatalf("it is not safe: %d, %+v", p.ID(), p.Use())
	}
	for range p.Blocks() {
		t.Fatal("a block that was not committed")
	}
}

func TestFormatRefuses(t *testing.T) {
	for _, shape := range []api.Shape{{}, {Data: -1, Level: 1}, {Data: 7}, {Data: 1, Level: 3}, {Data: 1, Level: -1}, {Data: math.MaxInt, Level: math.MaxInt}} {
		_, err := Format(disks(2, 200), shape, 1)
		is(t, err, api.ErrShape)
		_, err = Open(disks(2, 200), shape)
		is(t, err, api.ErrShape)
	}
	for _, l := range [][]*api.Disk{nil, disks(1, 200), disks(3, 200), {api.NewDisk(200), nil}} {
		p, err := Format(l, mirror, 1)
		is(t, err, api.ErrShape)
		if p != nil {
			t.Fatal("a pool with an error")
		}
		_, err = Open(l, mirror)
		is(t, err, api.ErrShape)
	}
	for _, size := range []int{-1, 0, 1, 3, 67, 99} {
		_, err := Format([]*api.Disk{api.NewDisk(200), api.NewDisk(size)}, mirror, 1)
		is(t, err, api.ErrRoom)
		_, err = Open([]*api.Disk{api.NewDisk(200), api.NewDisk(size)}, mirror)
		is(t, err, api.ErrMissing)
	}
	p, l := made(t, mirror, 100)
	if p.Use().All != 32 {
		t.Fatalf("%+v", p.Use())
	}
	l[0].Kill()
	_, err := Format(l, mirror, 1)
	ok(t, err)
	l[1].Kill()
	_, err = Format(l, mirror, 1)
	is(t, err, api.ErrGone)
}

// TestFormatFails: whichever operation fails, there is what there was, or the new pool.
func TestFormatFails(t *testing.T) {
	for k := range 1000 {
		p, l := made(t, mirror, 200)
		old := put(t, p, []byte("old"))
		ok(t, p.Commit([]byte("old root")))
		l[k%2].Fail(k/2, 1)
		q, err := Format(l, mirror, 43)
		if err == nil {
			if k < 10 {
				t.Fatalf("operation %d did not fail", k)
			}
			return
		}
		is(t, err, api.ErrDevice)
		if q != nil {
			t.Fatal("a pool with an error")
		}
		l[0].Crash([]byte{byte(k), 1})
		l[1].Crash([]byte{byte(k / 3)})
		p = opened(t, l, mirror)
		switch p.ID() {
		case 42:
			has(t, p, old, []byte("old"), 1)
		case 43:
			has(t, p, old, nil, 0)
			if len(p.Root()) > 0 {
				t.Fatal("a root in a new pool")
			}
		default:
			t.Fatalf("the pool %d", p.ID())
		}
	}
	t.Fatal("no end")
}

// TestForgets: a new pool on the disks of an old one, of whatever shape, has nothing of it, and answers no pointer again.
func TestForgets(t *testing.T) {
	l := disks(2, 200)
	seen := map[api.Ptr]int{}
	for i := range 10 {
		shape := api.Shape{Data: 1 + i%2, Level: 1 - i%2}
		p, err := Format(l, shape, uint64(i))
		ok(t, err)
		if len(p.Notes()) > 0 || len(p.Root()) > 0 || p.Use().Free != p.Use().All {
			t.Fatal("it is not new")
		}
		for j := range 10 {
			x := put(t, p, text(j, i))
			if seen[x] > 0 {
				t.Fatalf("%+v was answered before", x)
			}
			seen[x] = 1
		}
		ok(t, p.Note([]byte("old note")))
		ok(t, p.Sync())
		if i%3 > 0 {
			ok(t, p.Commit([]byte("old root")))
		}
		p = opened(t, l, shape)
		if p.ID() != uint64(i) || len(p.Notes()) != (3-i%3)/3 {
			t.Fatalf("pool %d, notes %q", p.ID(), p.Notes())
		}
	}
}

func TestOpenRefuses(t *testing.T) {
	_, err := Open(disks(2, 200), mirror)
	is(t, err, api.ErrMissing)
	p, l := made(t, api.Shape{Data: 2, Level: 1}, 200)
	_, err = Open(l, api.Shape{Data: 1, Level: 2})
	is(t, err, api.ErrShape)
	_, err = Open(l[:2], api.Shape{Data: 2, Level: 0})
	is(t, err, api.ErrShape)
	x := put(t, p, []byte("x"))
	ok(t, p.Commit([]byte("r")))
	var small []*api.Disk
	for _, d := range l {
		s := api.NewDisk(199)
		b, err := d.Read(0, 199)
		ok(t, err)
		ok(t, s.Write(0, b))
		small = append(small, s)
	}
	q, err := Open(small, api.Shape{Data: 2, Level: 1})
	is(t, err, api.ErrShape)
	if q != nil {
		t.Fatal("a pool with an error")
	}
	for k := 0; ; k++ {
		l[k%3].Fail(k/3, 1)
		_, err := Open(l, api.Shape{Data: 2, Level: 1})
		l[k%3].Fail(0, 0)
		if err == nil {
			break
		}
		is(t, err, api.ErrDevice)
	}
	p = opened(t, l, api.Shape{Data: 2, Level: 1})
	has(t, p, x, []byte("x"), 1)
	l[0].Kill()
	p = opened(t, l, api.Shape{Data: 2, Level: 1})
	has(t, p, x, []byte("x"), 1)
	l[1].Kill()
	_, err = Open(l, api.Shape{Data: 2, Level: 1})
	is(t, err, api.ErrSpoilt)
	l[2].Kill()
	_, err = Open(l, api.Shape{Data: 2, Level: 1})
	is(t, err, api.ErrMissing)
	_, l = made(t, api.Shape{Data: 2, Level: 1}, 200)
	l[0].Kill()
	l[1].Kill()
	_, err = Open(l, api.Shape{Data: 2, Level: 1})
	is(t, err, api.ErrGone)
}

func TestBlocks(t *testing.T) {
	for _, shape := range shapes {
		p, l := made(t, shape, 1500)
		row := 104 * shape.Data
		var all []api.Ptr
		sizes := []int{0, 1, 103, 104, 105, 207, 208, 209, row - 1, row, row + 1, 3 * row, 4095, 4096}
		used := 0
		for i, n := range sizes {
			x := put(t, p, text(n, i))
			if x.Len != n || x.At < api.OwnRows || slices.Contains(all, x) {
				t.Fatalf("%+v", x)
			}
			all = append(all, x)
			used += max(1, (n+row-1)/row)
			uses(t, p, used, 0)
			has(t, p, x, text(n, i), 1)
		}
		ok(t, p.Share(all[3]))
		ok(t, p.Commit(nil))
		look := func() {
			uses(t, p, used, 0)
			for i, n := range sizes {
				has(t, p, all[i], text(n, i), 1+max(0, 1-(i-3)*(i-3)))
			}
			var told []api.Ptr
			for x, n := range p.Blocks() {
				if n != p.Uses(x) {
					t.Fatalf("%+v: %d", x, n)
				}
				told = append(told, x)
			}
			if !slices.IsSortedFunc(told, func(a, b api.Ptr) int { return a.At - b.At }) {
				t.Fatal("blocks out of order")
			}
			for range p.Blocks() {
				break
			}
			if len(told) != len(all) {
				t.Fatalf("%d blocks", len(told))
			}
		}
		look()
		p = opened(t, l, shape)
		look()
		if _, err := p.Put(make([]byte, 4097)); !errors.Is(err, api.ErrLong) {
			t.Fatal(err)
		}
		look()
	}
}

func TestWrongPointers(t *testing.T) {
	p, _ := made(t, mirror, 2000)
	a := put(t, p, []byte("alpha"))
	b := put(t, p, text(300, 1))
	ok(t, p.Commit(nil))
	wrong := []api.Ptr{{}, {At: a.At}, {At: math.MinInt}, {At: math.MaxInt}, {At: a.At, Len: a.Len}, {At: a.At, Stamp: a.Stamp}, {At: b.At, Len: a.Len, Stamp: a.Stamp}, {At: b.At + 1, Len: b.Len, Stamp: b.Stamp}, {At: a.At, Len: a.Len + 1, Stamp: a.Stamp}, {At: a.At, Len: a.Len + 8192, Stamp: a.Stamp}, {At: a.At, Len: a.Len - 8192, Stamp: a.Stamp}, {At: a.At, Len: a.Len, Stamp: a.Stamp + 1}, {At: a.At, Len: a.Len, Stamp: a.Stamp | 1<<63}}
	for i := range 2000 {
		wrong = append(wrong, api.Ptr{At: i})
	}
	for _, x := range wrong {
		has(t, p, x, nil, 0)
		is(t, p.Share(x), api.ErrBlock)
		is(t, p.Drop(x), api.ErrBlock)
	}
	has(t, p, a, []byte("alpha"), 1)
	has(t, p, b, text(300, 1), 1)
	ok(t, p.Drop(a))
	is(t, p.Drop(a), api.ErrBlock)
	is(t, p.Share(a), api.ErrBlock)
	has(t, p, a, nil, 0)
}

// TestLead: of a block that is in use its first row tells what leads to it, of all other rows nothing.
func TestLead(t *testing.T) {
	for _, shape := range shapes {
		p, l := made(t, shape, 2000)
		if p.RowBytes() != shape.Data*api.SectorRoom {
			t.Errorf("%+v: rows of %d bytes", shape, p.RowBytes())
		}
		for i := range 10 {
			put(t, p, text(i*100, i))
		}
		gone := put(t, p, []byte("gone"))
		ok(t, p.Commit(nil))
		ok(t, p.Drop(gone))
		leads(t, p)
		p = opened(t, l, shape)
		leads(t, p)
		l[0].Fail(0, 1)
		_, err := p.Scrub()
		is(t, err, api.ErrDevice)
		_, err = p.Lead(api.OwnRows)
		is(t, err, api.ErrDown)
	}
}

func leads(t *testing.T, p *Pool) {
	t.Helper()
	want := map[int]api.Ptr{}
	for x := range p.Blocks() {
		want[x.At] = x
	}
	for _, at := range []int{math.MinInt, -1, math.MaxInt} {
		_, err := p.Lead(at)
		is(t, err, api.ErrBlock)
	}
	for at := range 2000 {
		x, err := p.Lead(at)
		if want[at] == (api.Ptr{}) {
			is(t, err, api.ErrBlock)
		} else {
			ok(t, err)
		}
		if x != want[at] {
			t.Fatalf("%d: %+v, wanted %+v", at, x, want[at])
		}
	}
}

// TestOwnMemory: what goes in and what comes out has nothing in common with what is kept.
func TestOwnMemory(t *testing.T) {
	p, l := made(t, mirror, 200)
	b, root, note := []byte("block"), []byte("root"), []byte("note")
	x := put(t, p, b)
	b[0] = 'X'
	got, _ := p.Get(x)
	got[1] = 'Y'
	has(t, p, x, []byte("block"), 1)
	ok(t, p.Commit(root))
	root[0] = 'X'
	p.Root()[1] = 'Y'
	if string(p.Root()) != "root" {
		t.Fatalf("%q", p.Root())
	}
	ok(t, p.Note(note))
	note[0] = 'X'
	_, err := p.Scrub()
	ok(t, err)
	p = opened(t, l, mirror)
	p.Notes()[0][1] = 'Y'
	if n := p.Notes(); len(n) != 1 || string(n[0]) != "note" || string(p.Root()) != "root" {
		t.Fatalf("%q %q", n, p.Root())
	}
	p.Root()[1] = 'Y'
	if string(p.Root()) != "root" {
		t.Fatalf("%q", p.Root())
	}
	l[0] = nil // the list of disks is the caller's
	has(t, p, x, []byte("block"), 1)
}

func TestShare(t *testing.T) {
	p, l := made(t, mirror, 200)
	x := put(t, p, []byte("x"))
	for range api.MaxShare - 1 {
		ok(t, p.Share(x))
	}
	is(t, p.Share(x), api.ErrMany)
	ok(t, p.Commit(nil))
	p = opened(t, l, mirror)
	has(t, p, x, []byte("x"), api.MaxShare)
	for i := range api.MaxShare {
		if p.Uses(x) != api.MaxShare-i {
			t.Fatalf("%d uses behind %d Drops", p.Uses(x), i)
		}
		ok(t, p.Drop(x))
	}
	is(t, p.Drop(x), api.ErrBlock)
	uses(t, p, 0, 1)
}

func TestHeld(t *testing.T) {
	p, _ := made(t, mirror, 200)
	a, b := put(t, p, text(300, 1)), put(t, p, text(200, 2))
	ok(t, p.Drop(b))
	uses(t, p, 3, 0)
	ok(t, p.Commit(nil))
	ok(t, p.Drop(a))
	uses(t, p, 0, 3)
	has(t, p, a, nil, 0)
	if c := put(t, p, text(300, 3)); c.At == a.At {
		t.Fatal("rows that are held were given")
	}
	ok(t, p.Commit(nil))
	uses(t, p, 3, 0)
	if c := put(t, p, text(300, 3)); c.At >= a.At+6 {
		t.Fatalf("rows that were held are not given again: %+v", c)
	}
}

func TestCommit(t *testing.T) {
	p, l := made(t, mirror, 200)
	is(t, p.Commit(make([]byte, 49)), api.ErrLong)
	root := text(48, 1)
	ok(t, p.Commit(root))
	if !bytes.Equal(p.Root(), root) {
		t.Fatal("another root")
	}
	is(t, p.Commit(make([]byte, 49)), api.ErrLong)
	crash(l)
	p = opened(t, l, mirror)
	if !bytes.Equal(p.Root(), root) {
		t.Fatal("another root")
	}
	ok(t, p.Commit(nil))
	crash(l)
	p = opened(t, l, mirror)
	if len(p.Root()) > 0 {
		t.Fatalf("the root %q", p.Root())
	}
}

// TestCommitBy: what the function did lasts, or, with an error, is undone.
func TestCommitBy(t *testing.T) {
	p, l := made(t, mirror, 200)
	var x api.Ptr
	undone := 0
	by := func(root []byte, err error) func() ([]byte, error) {
		return func() ([]byte, error) {
			x = put(t, p, []byte("x"))
			p.OnUndo(func() { undone++ })
			is(t, p.Commit(nil), api.ErrOrder)
			is(t, p.CommitBy(nil), api.ErrOrder)
			return root, err
		}
	}
	is(t, p.CommitBy(by([]byte("one"), api.ErrLoop)), api.ErrLoop)
	has(t, p, x, nil, 0)
	is(t, p.CommitBy(by(make([]byte, 49), nil)), api.ErrLong)
	has(t, p, x, nil, 0)
	func() {
		defer func() { recover() }()
		p.CommitBy(func() ([]byte, error) {
			by(nil, nil)()
			panic(1)
		})
	}()
	has(t, p, x, nil, 0)
	if undone != 3 || len(p.Root()) > 0 {
		t.Fatalf("undone %d times, root %q", undone, p.Root())
	}
	uses(t, p, 0, 0)
	ok(t, p.CommitBy(by([]byte("two"), nil)))
	has(t, p, x, []byte("x"), 1)
	if undone != 3 || string(p.Root()) != "two" {
		t.Fatalf("undone %d times, root %q", undone, p.Root())
	}
	is(t, p.Try(func() error { return p.CommitBy(by(nil, nil)) }), api.ErrOrder)
	crash(l)
	p = opened(t, l, mirror)
	has(t, p, x, []byte("x"), 1)
	l[0].Fail(0, 1)
	is(t, p.CommitBy(by([]byte("three"), nil)), api.ErrDevice)
	is(t, p.CommitBy(by([]byte("three"), nil)), api.ErrDown)
	if undone != 4 {
		t.Fatalf("undone %d times", undone)
	}
}

// TestPointersNeverAgain: not behind a crash, an undone Try, a Drop, a commit, or when an age has no stamps left.
func TestPointersNeverAgain(t *testing.T) {
	p, l := made(t, mirror, 200)
	seen := map[api.Ptr]int{}
	one := func() api.Ptr {
		x := put(t, p, []byte("x"))
		if seen[x] > 0 {
			t.Fatalf("%+v was answered before", x)
		}
		seen[x] = 1
		return x
	}
	for i := range 300 {
		switch i % 5 {
		case 0:
			ok(t, p.Drop(one()))
		case 1:
			is(t, p.Try(func() error { one(); return api.ErrForm }), api.ErrForm)
		case 2:
			one()
			crash(l)
			p = opened(t, l, mirror)
		case 3:
			x := one()
			ok(t, p.Commit(nil))
			ok(t, p.Drop(x))
			ok(t, p.Commit(nil))
		case 4:
			p.count = stampsOfAge - 1
			x := one()
			ok(t, p.Drop(x))
			crash(l)
			ok(t, p.Drop(one()))
		}
	}
	p.count = stampsOfAge
	l[0].Fail(0, 1)
	_, err := p.Put(nil)
	is(t, err, api.ErrDevice)
	_, err = p.Put(nil)
	is(t, err, api.ErrDown)
}

// TestRoom: while there are 1000 rows and 90 for each block, there is room, however the free rows lie.
func TestRoom(t *testing.T) {
	for _, data := range []int{1, 3} {
		const n = 300
		p, _ := made(t, api.Shape{Data: data}, api.OwnRows+1000+90*n)
		row := 104 * data
		most := (api.MaxBlock + row - 1) / row
		var keep, drop []api.Ptr
		for range n / 2 {
			keep = append(keep, put(t, p, nil))
			drop = append(drop, put(t, p, make([]byte, (most-1)*row)))
		}
		ok(t, p.Commit(nil))
		for _, x := range drop {
			ok(t, p.Drop(x))
		}
		ok(t, p.Commit(nil))
		for range n / 2 {
			put(t, p, make([]byte, api.MaxBlock))
			own(t, p, n)
		}
		ok(t, p.Commit(nil))
		own(t, p, n)
		for i, x := range keep {
			ok(t, p.Drop(x))
			if i%3 == 0 {
				ok(t, p.Commit(nil))
				own(t, p, n-i-1)
			}
		}
	}
}

func own(t *testing.T, p *Pool, blocks int) {
	t.Helper()
	if u := p.Use(); u.Own > 200+2*blocks {
		t.Fatalf("%+v with %d blocks", u, blocks)
	}
}

// TestFull: a pool that is full can be committed, and emptied.
func TestFull(t *testing.T) {
	for _, shape := range shapes {
		for _, size := range []int{0, 1, 500, 4096} {
			p, l := made(t, shape, 100+size)
			var all []api.Ptr
			for {
				x, err := p.Put(text(size, len(all)))
				if err != nil {
					is(t, err, api.ErrRoom)
					break
				}
				all = append(all, x)
			}
			for range 3 {
				ok(t, p.Commit(nil))
			}
			_, err := p.Put(text(size, 0))
			if size > 1 {
				is(t, err, api.ErrRoom)
			}
			p = opened(t, l, shape)
			for i, x := range all {
				has(t, p, x, text(size, i), 1)
			}
			for _, x := range all {
				ok(t, p.Drop(x))
			}
			ok(t, p.Commit(nil))
			if u := p.Use(); u != (api.Use{All: 32 + size, Free: 32 + size}) {
				t.Fatalf("%+v", u)
			}
		}
	}
}

// TestScattered: the notes on the blocks lie where rows are free, one here and one there.
func TestScattered(t *testing.T) {
	for _, shape := range []api.Shape{{Data: 1}, {Data: 2}, {Data: 6}} {
		p, l := made(t, shape, 900)
		blocks := map[api.Ptr][]byte{}
		fill := func(size int) {
			for i := 0; ; i++ {
				b := text(size, i)
				x, err := p.Put(b)
				if err != nil {
					is(t, err, api.ErrRoom)
					return
				}
				blocks[x] = b
			}
		}
		fill(3)
		ok(t, p.Commit(nil))
		i := 0
		for x := range p.Blocks() {
			if i++; i%2 == 0 {
				ok(t, p.Drop(x))
				delete(blocks, x)
			}
		}
		ok(t, p.Commit(nil))
		for range 5 {
			fill(104*shape.Data + 1)
			ok(t, p.Commit(nil))
			p = opened(t, l, shape)
			good(t, p, blocks)
		}
	}
}

// TestHeldRoom: the rows that the notes on many blocks had are no room for those on the few that are left, as long as they are held.
func TestHeldRoom(t *testing.T) {
	p, _ := made(t, mirror, 200)
	var all []api.Ptr
	for range 80 {
		all = append(all, put(t, p, nil))
	}
	ok(t, p.Commit(nil))
	for _, x := range all {
		ok(t, p.Drop(x))
	}
	for {
		if _, err := p.Put(nil); err != nil {
			is(t, err, api.ErrRoom)
			break
		}
	}
	ok(t, p.Commit(nil))
}

// TestNoRoom: where the pool's notes on its blocks have no room nothing is committed, and all goes on.
func TestNoRoom(t *testing.T) {
	p, l := made(t, mirror, 100)
	x := put(t, p, []byte("x"))
	ok(t, p.Commit([]byte("one")))
	y := put(t, p, []byte("y"))
	was := p.state
	p.space = p.space.Copy()
	_, err := p.space.Take(p.space.Rows().Free-1, 1<<lenBits)
	ok(t, err)
	p.blocks += 9 // one row is free, and they need more
	full := p.Use()
	is(t, p.Commit([]byte("two")), api.ErrRoom)
	is(t, p.CommitBy(func() ([]byte, error) {
		ok(t, p.Drop(x))
		return nil, nil
	}), api.ErrRoom)
	if p.Use() != full {
		t.Fatalf("%+v, and it was %+v", p.Use(), full)
	}
	p.state = was
	has(t, p, x, []byte("x"), 1)
	has(t, p, y, []byte("y"), 1)
	if string(p.Root()) != "one" {
		t.Fatalf("%q", p.Root())
	}
	q := opened(t, l, mirror)
	has(t, q, x, []byte("x"), 1)
	has(t, q, y, nil, 0)
}

func TestTry(t *testing.T) {
	p, l := made(t, mirror, 200)
	a, b := put(t, p, []byte("a")), put(t, p, []byte("b"))
	ok(t, p.Commit(nil))
	c, e := put(t, p, []byte("c")), put(t, p, nil)
	was := p.Use()
	mine := errors.New("mine")
	var d api.Ptr
	all := func() {
		d = put(t, p, []byte("d"))
		ok(t, p.Share(d))
		ok(t, p.Share(a))
		ok(t, p.Drop(b))
		ok(t, p.Drop(c))
		ok(t, p.Drop(e))
		ok(t, p.Drop(put(t, p, []byte("short"))))
		has(t, p, a, []byte("a"), 2)
		has(t, p, c, nil, 0)
		has(t, p, d, []byte("d"), 2)
	}
	same := func() {
		t.Helper()
		has(t, p, a, []byte("a"), 1)
		has(t, p, b, []byte("b"), 1)
		has(t, p, c, []byte("c"), 1)
		has(t, p, e, nil, 1)
		has(t, p, d, nil, 0)
		if p.Use() != was {
			t.Fatalf("%+v, and it was %+v", p.Use(), was)
		}
	}
	if err := p.Try(func() error { all(); return mine }); err != mine {
		t.Fatal(err)
	}
	same()
	func() {
		defer func() {
			if recover() != any("out") {
				t.Error("the panic did not go on")
			}
		}()
		p.Try(func() error { all(); panic("out") })
	}()
	same()
	done := make(chan int)
	go func() {
		defer close(done)
		p.Try(func() error { all(); runtime.Goexit(); return nil })
	}()
	<-done
	same()
	func() {
		defer func() {
			if recover() == nil {
				t.Error("a function that is none")
			}
		}()
		p.Try(nil)
	}()
	err := p.Try(func() error {
		ok(t, p.Try(func() error { all(); return nil }))
		has(t, p, d, []byte("d"), 2)
		func() {
			defer func() { recover() }()
			p.Try(func() error { ok(t, p.Drop(d)); ok(t, p.Drop(d)); ok(t, p.Drop(a)); panic(1) })
		}()
		has(t, p, d, []byte("d"), 2)
		has(t, p, a, []byte("a"), 2)
		return mine
	})
	if err != mine {
		t.Fatal(err)
	}
	same()
	is(t, p.Try(func() error {
		ok(t, p.Drop(c))
		is(t, p.Try(func() error { put(t, p, []byte("z")); return api.ErrForm }), api.ErrForm)
		return api.ErrArg
	}), api.ErrArg)
	same()
	ok(t, p.Try(func() error { all(); return nil }))
	has(t, p, d, []byte("d"), 2)
	if put(t, p, nil); len(p.steps) > 0 {
		t.Fatal("steps are kept that are never undone")
	}
	ok(t, p.Commit([]byte("r")))
	p = opened(t, l, mirror)
	has(t, p, a, []byte("a"), 2)
	has(t, p, b, nil, 0)
	has(t, p, c, nil, 0)
	has(t, p, d, []byte("d"), 2)
}

// TestOnUndo: what undoes something else is called with the Try that is undone, or with one around it, the last one first.
func TestOnUndo(t *testing.T) {
	p, _ := made(t, mirror, 200)
	var l []int
	on := func(i int) { p.OnUndo(func() { l = append(l, i) }) }
	told := func(want ...int) {
		t.Helper()
		if !slices.Equal(l, want) {
			t.Fatalf("%v, wanted %v", l, want)
		}
		l = nil
	}
	on(1)
	ok(t, p.Try(func() error { on(2); return nil }))
	is(t, p.Try(func() error { return api.ErrForm }), api.ErrForm)
	told()
	is(t, p.Try(func() error {
		on(3)
		ok(t, p.Try(func() error { on(4); put(t, p, nil); on(5); return nil }))
		is(t, p.Try(func() error { on(6); return api.ErrArg }), api.ErrArg)
		told(6)
		on(7)
		return api.ErrForm
	}), api.ErrForm)
	told(7, 5, 4, 3)
	func() {
		defer func() { recover() }()
		p.Try(func() error { on(8); panic(1) })
	}()
	told(8)
	uses(t, p, 0, 0)
}

func TestTryRefuses(t *testing.T) {
	p, l := made(t, mirror, 200)
	look := func() {
		t.Helper()
		is(t, p.Commit(make([]byte, 99)), api.ErrOrder)
		_, err := p.Scrub()
		is(t, err, api.ErrOrder)
		is(t, p.Replace(-1, nil), api.ErrOrder)
		is(t, p.Grow(), api.ErrOrder)
	}
	for _, d := range l {
		d.Grow(10)
	}
	x := put(t, p, []byte("x"))
	ok(t, p.Try(func() error {
		look()
		ok(t, p.Try(func() error { look(); return nil }))
		look()
		ok(t, p.Note([]byte("n")))
		ok(t, p.Sync())
		return nil
	}))
	if p.Use().All != 132 || len(p.Root()) > 0 {
		t.Fatal("what was refused was done")
	}
	func() {
		defer func() { recover() }()
		p.Try(func() error { panic(1) })
	}()
	is(t, p.Try(func() error { return api.ErrForm }), api.ErrForm)
	has(t, p, x, []byte("x"), 1)
	ok(t, p.Grow())
	ok(t, p.Commit(nil))
	_, err := p.Scrub()
	ok(t, err)
}

func TestGrow(t *testing.T) {
	p, l := made(t, mirror, 200)
	l[0].Grow(50)
	ok(t, p.Grow())
	if p.Use().All != 132 {
		t.Fatalf("%+v", p.Use())
	}
	l[1].Grow(40)
	if p.Use().All != 132 {
		t.Fatalf("%+v", p.Use())
	}
	ok(t, p.Grow())
	if p.Use() != (api.Use{All: 172, Free: 172}) {
		t.Fatalf("%+v", p.Use())
	}
	x := put(t, p, text(4096, 1))
	y := put(t, p, text(4096, 2))
	z := put(t, p, text(4096, 3))
	w := put(t, p, text(4096, 3))
	ok(t, p.Commit(nil))
	for _, d := range l {
		d.Grow(60)
	}
	p = opened(t, l, mirror)
	if p.Use().All != 232 {
		t.Fatalf("%+v", p.Use())
	}
	for i, x := range []api.Ptr{x, y, z} {
		has(t, p, x, text(4096, i+1), 1)
	}
	if w.At+40 <= 200 {
		t.Fatal("the rows that came were not needed")
	}
	has(t, p, w, text(4096, 3), 1)
}

// TestHuge: of so many rows nothing is promised but that nothing panics.
func TestHuge(t *testing.T) {
	p, l := made(t, api.Shape{Data: 1}, math.MaxInt)
	ok(t, p.Grow())
	x := put(t, p, []byte("x"))
	ok(t, p.Commit(nil))
	p = opened(t, l, api.Shape{Data: 1})
	has(t, p, x, []byte("x"), 1)
	ok(t, p.Grow())
}

func TestNotes(t *testing.T) {
	p, l := made(t, mirror, 200)
	is(t, p.Note(nil), api.ErrArg)
	is(t, p.Note(make([]byte, 2001)), api.ErrLong)
	for i := range 3 {
		ok(t, p.Note(text(2000, i)))
	}
	is(t, p.Note(make([]byte, 401)), api.ErrFull)
	ok(t, p.Note(text(400, 3)))
	is(t, p.Note([]byte("x")), api.ErrFull)
	ok(t, p.Sync())
	if len(p.Notes()) > 0 {
		t.Fatal("notes of a pool that was not opened")
	}
	crash(l)
	for range 2 {
		p = opened(t, l, mirror)
		n := p.Notes()
		if len(n) != 4 || !bytes.Equal(n[3], text(400, 3)) || !bytes.Equal(n[1], text(2000, 1)) {
			t.Fatalf("%d notes", len(n))
		}
		is(t, p.Note([]byte("x")), api.ErrOrder)
		is(t, p.Sync(), api.ErrOrder)
		put(t, p, []byte("x"))
	}
	ok(t, p.Commit(nil))
	if len(p.Notes()) > 0 {
		t.Fatal("notes behind a commit")
	}
	ok(t, p.Note(text(2000, 4)))
	ok(t, p.Note([]byte("last")))
	p = opened(t, l, mirror)
	if n := p.Notes(); len(n) != 2 || string(n[1]) != "last" {
		t.Fatalf("%d notes", len(n))
	}
	ok(t, p.Commit(nil))
	p = opened(t, l, mirror)
	if n := p.Notes(); len(n) > 0 {
		t.Fatalf("%d notes", len(n))
	}
}

// TestDown: behind a failure nothing is answered any more.
func TestDown(t *testing.T) {
	falls := []func(p *Pool, x api.Ptr) error{
		func(p *Pool, x api.Ptr) error { _, err := p.Get(x); return err },
		func(p *Pool, x api.Ptr) error { return p.Commit([]byte("new")) },
		func(p *Pool, x api.Ptr) error { return p.Note([]byte("n")) },
		func(p *Pool, x api.Ptr) error { return p.Sync() },
		func(p *Pool, x api.Ptr) error { _, err := p.Scrub(); return err },
		func(p *Pool, x api.Ptr) error { return p.Replace(0, api.NewDisk(200)) },
		func(p *Pool, x api.Ptr) error { return p.Try(func() error { _, err := p.Get(x); return err }) },
	}
	for i, fall := range falls {
		for _, gone := range []bool{false, true} {
			if gone && (i == 0 || i > 4) {
				continue
			}
			p, l := made(t, mirror, 200)
			x := put(t, p, []byte("x"))
			ok(t, p.Commit([]byte("root")))
			want := api.ErrDevice
			if gone {
				want = api.ErrGone
				l[0].Kill()
				l[1].Kill()
			}
			if i == 4 && gone {
				want = api.ErrSpoilt // the notes on the blocks are gone
			}
			l[1].Fail(0, 1)
			is(t, fall(p, x), want)
			if want != api.ErrSpoilt {
				down(t, p, x)
			}
			if gone {
				continue
			}
			crash(l)
			p = opened(t, l, mirror)
			has(t, p, x, []byte("x"), 1)
		}
	}
}

func down(t *testing.T, p *Pool, x api.Ptr) {
	t.Helper()
	_, err := p.Put(make([]byte, 9999))
	is(t, err, api.ErrDown)
	_, err = p.Get(x)
	is(t, err, api.ErrDown)
	_, err = p.Get(api.Ptr{})
	is(t, err, api.ErrDown)
	is(t, p.Share(x), api.ErrDown)
	is(t, p.Drop(x), api.ErrDown)
	is(t, p.Try(func() error { return nil }), api.ErrDown)
	is(t, p.Commit(make([]byte, 99)), api.ErrDown)
	is(t, p.Note(nil), api.ErrDown)
	is(t, p.Sync(), api.ErrDown)
	_, err = p.Scrub()
	is(t, err, api.ErrDown)
	is(t, p.Replace(-1, nil), api.ErrDown)
	is(t, p.Grow(), api.ErrDown)
	for range p.Blocks() {
		t.Fatal("blocks of a pool that is down")
	}
	if p.Uses(x) != 0 || p.Use() != (api.Use{}) || len(p.Notes()) > 0 {
		t.Fatalf("%d %+v %q", p.Uses(x), p.Use(), p.Notes())
	}
	if p.ID() != 42 || string(p.Root()) != "root" {
		t.Fatalf("%d %q", p.ID(), p.Root())
	}
}

func TestDownOpened(t *testing.T) {
	p, l := made(t, mirror, 200)
	x := put(t, p, []byte("x"))
	ok(t, p.Commit([]byte("root")))
	ok(t, p.Note([]byte("n")))
	p = opened(t, l, mirror)
	blocks := p.Blocks()
	l[0].Fail(0, 1)
	_, err := p.Get(x)
	is(t, err, api.ErrDevice)
	for range blocks {
		t.Fatal("blocks of a pool that is down")
	}
	down(t, p, x)
	p = opened(t, l, mirror)
	if n := p.Notes(); len(n) != 1 {
		t.Fatalf("%q", n)
	}
}

// With each commit another life begins; within a Try it is told that one goes on.
func TestLifeAndTrying(t *testing.T) {
	p, _ := made(t, shapes[0], 1000)
	life := p.Life()
	ok(t, p.Note([]byte("note")))
	if p.Life() != life || p.Trying() {
		t.Error("a note begins a life")
	}
	is(t, p.Try(func() error {
		ok(t, p.Try(func() error { return nil }))
		if !p.Trying() {
			t.Error("no Try goes on")
		}
		return api.ErrLoop
	}), api.ErrLoop)
	ok(t, p.Commit(nil))
	if p.Life() <= life || p.Trying() {
		t.Error("a commit begins no life")
	}
}
