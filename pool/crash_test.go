package pool

import (
	"bytes"
	"errors"
	"slices"
	"testing"

	"bedrock/api"
	"bedrock/vol"
)

// What becomes of the writings of a crash: all are there, none, none can be read, or some of each.
var fates = [][]byte{{1}, {0}, {2}, {1, 2, 0}, {0, 1, 2, 1}, {2, 1}}

// scene is a mirror, commits up to `zero` and `one`, notes, of which the first is safe, and a commit `two` that fails behind so many operations of each disk.
type scene struct {
	l    []*api.Disk
	a, b api.Ptr
	two  error
}

func play(t *testing.T, commits int, after ...int) scene {
	t.Helper()
	p, l := made(t, mirror, 200)
	for range commits {
		ok(t, p.Commit([]byte("zero")))
	}
	a := put(t, p, []byte("a"))
	ok(t, p.Commit([]byte("one")))
	ok(t, p.Note([]byte("safe")))
	ok(t, p.Sync())
	ok(t, p.Note([]byte("soon")))
	ok(t, p.Drop(a))
	s := scene{l: l, a: a, b: put(t, p, []byte("b"))}
	for i, k := range after {
		l[i].Fail(k, 1000)
	}
	s.two = p.Commit([]byte("two"))
	return s
}

// look looks at what was opened, and tells its root.
func (s scene) look(t *testing.T, p *Pool) string {
	t.Helper()
	n := p.Notes()
	switch string(p.Root()) {
	case "one":
		has(t, p, s.a, []byte("a"), 1)
		has(t, p, s.b, nil, 0)
		if len(n) < 1 || len(n) > 2 || string(n[0]) != "safe" || len(n) == 2 && string(n[1]) != "soon" {
			t.Fatalf("notes %q", n)
		}
		if s.two == nil {
			t.Fatal("a commit was lost")
		}
	case "two":
		has(t, p, s.a, nil, 0)
		has(t, p, s.b, []byte("b"), 1)
		if len(n) > 0 {
			t.Fatalf("notes %q", n)
		}
	default:
		t.Fatalf("root %q", p.Root())
	}
	return string(p.Root())
}

// again opens the pool once more, without the disk gone, if it is none below 0: it must be as it was.
func (s scene) again(t *testing.T, p *Pool, gone int) {
	t.Helper()
	root, notes := s.look(t, p), p.Notes()
	l := []*api.Disk{s.l[0].Copy(), s.l[1].Copy()}
	if gone >= 0 {
		l[gone].Kill()
	}
	q := opened(t, l, mirror)
	if got := s.look(t, q); got != root || !slices.EqualFunc(q.Notes(), notes, bytes.Equal) {
		t.Fatalf("%q and %q, and it was opened with %q and %q", got, q.Notes(), root, notes)
	}
}

// TestCrashes: whichever operations of a commit fail, and then of taking it up, whatever becomes of what was written, and whichever disk is gone then.
func TestCrashes(t *testing.T) {
	for k0 := range 9 {
		for k1 := range 9 {
			for f, fate := range fates {
				for j := range 30 {
					s := play(t, 1+k1%2, k0, k1)
					s.l[0].Crash(fate)
					s.l[1].Crash(fates[(f+k0+j)%len(fates)])
					s.l[0].Fail(j, 1000)
					s.l[1].Fail((j*5+f)%20, 1000)
					p, err := Open(s.l, mirror)
					crash(s.l, fates[(f+j)%len(fates)]...)
					if err == nil {
						s.again(t, p, j%3-1)
						break
					}
					is(t, err, api.ErrDevice)
					if j%3 > 0 {
						s.l[j%3-1].Kill()
					}
					s.look(t, opened(t, s.l, mirror))
				}
			}
		}
	}
}

// torn is a scene of which the disk 0 alone knows of the commit `two`.
func torn(t *testing.T, commits int) scene {
	t.Helper()
	for k := range 20 {
		s := play(t, commits, 100, k)
		s.l[0].Crash([]byte{1})
		s.l[1].Crash(nil)
		if s.two == nil {
			break
		}
		l := []*api.Disk{s.l[0].Copy(), s.l[1].Copy()}
		l[1].Kill()
		if s.look(t, opened(t, l, mirror)) == "two" {
			return s
		}
	}
	t.Fatal("no operation leaves it so")
	return scene{}
}

// TestOneKnows: what one disk alone knows is told to the others ahead of all else, so that it, or what was there before, is there whichever disk is gone then.
func TestOneKnows(t *testing.T) {
	for j := range 30 {
		for f := range 2 * len(fates) {
			for gone := range 2 {
				s, fate := torn(t, 1+f%2), fates[f/2]
				s.l[0].Fail(j, 1000)
				s.l[1].Fail(j, 1000)
				p, err := Open(s.l, mirror)
				crash(s.l, fate...)
				if err == nil {
					if s.look(t, p) != "two" {
						t.Fatal("a commit that one disk knows of is not told")
					}
					s.again(t, p, gone)
					continue
				}
				s.l[gone].Kill()
				s.look(t, opened(t, s.l, mirror))
			}
		}
	}
}

// TestOneKnowsFormat: so it is where a new pool is begun on these disks.
func TestOneKnowsFormat(t *testing.T) {
	for j := range 30 {
		for f := range 2 * len(fates) {
			for gone := range 2 {
				s, fate := torn(t, 1+f%2), fates[f/2]
				s.l[0].Fail(j, 1000)
				s.l[1].Fail(j, 1000)
				_, err := Format(s.l, mirror, 43)
				crash(s.l, fate...)
				s.l[gone].Kill()
				p := opened(t, s.l, mirror)
				if err == nil && p.ID() != 43 {
					t.Fatal("the new pool is not there")
				}
				if p.ID() == 42 {
					s.look(t, p)
				}
			}
		}
	}
}

// TestNotesOneKnows: a note that one disk alone has is told to the others, so that it is told again without that disk.
func TestNotesOneKnows(t *testing.T) {
	for gone := range 2 {
		s := play(t, 1, 0, 0)
		s.l[0].Crash([]byte{1})
		s.l[1].Crash(nil)
		p := opened(t, s.l, mirror)
		crash(s.l)
		if s.look(t, p) != "one" || len(p.Notes()) != 2 {
			t.Fatalf("%q %q", p.Root(), p.Notes())
		}
		s.again(t, p, gone)
	}
}

// TestOldDisk: a disk that missed commits, pools and all is no hindrance, whenever it was copied.
func TestOldDisk(t *testing.T) {
	p, l := made(t, mirror, 300)
	var old []*api.Disk
	for i := range 30 {
		old = append(old, l[0].Copy())
		if i%7 == 6 {
			var err error
			p, err = Format(l, mirror, 42)
			ok(t, err)
		}
		x := put(t, p, text(150, i))
		ok(t, p.Commit([]byte{byte(i)}))
		ok(t, p.Note([]byte{1, byte(i)}))
		ok(t, p.Sync())
		for _, d := range old {
			p := opened(t, []*api.Disk{d.Copy(), l[1].Copy()}, mirror)
			has(t, p, x, text(150, i), 1)
			if n := p.Notes(); !bytes.Equal(p.Root(), []byte{byte(i)}) || len(n) != 1 || n[0][1] != byte(i) {
				t.Fatalf("root %d, notes %v, wanted %d", p.Root(), n, i)
			}
			if s, err := p.Scrub(); err != nil || s.Spoilt > 0 || s.Mended == 0 {
				t.Fatalf("%+v, %v", s, err)
			}
		}
		if i%3 == 0 {
			p = opened(t, l, mirror)
			ok(t, p.Commit([]byte{byte(i)}))
		}
	}
}

// TestHalfFormat: a disk that alone knows of a pool that was never made whole does not bring it back, when it comes back itself.
func TestHalfFormat(t *testing.T) {
	half := func(k int) ([]*api.Disk, bool) {
		p, l := made(t, mirror, 200)
		ok(t, p.Commit([]byte("root")))
		l[1].Fail(k, 1000)
		_, err := Format(l, mirror, 43)
		l[0].Crash([]byte{1})
		l[1].Crash(nil)
		p = opened(t, []*api.Disk{l[0].Copy(), l[1].Copy()}, mirror)
		alone, err2 := Open([]*api.Disk{api.NewDisk(200), l[1].Copy()}, mirror)
		return l, err != nil && p.ID() == 43 && err2 == nil && alone.ID() == 42
	}
	found := 0
	for k := range 20 {
		l, yes := half(k)
		if !yes {
			continue
		}
		found++
		back := l[0].Copy()
		l[0].Kill()
		p := opened(t, l, mirror)
		if p = opened(t, []*api.Disk{back.Copy(), l[1].Copy()}, mirror); p.ID() != 42 || string(p.Root()) != "root" {
			t.Fatalf("operation %d: pool %d", k, p.ID())
		}
		_, err := Format(l, mirror, 44)
		ok(t, err)
		if p = opened(t, []*api.Disk{back, l[1]}, mirror); p.ID() != 44 {
			t.Fatalf("operation %d: pool %d", k, p.ID())
		}
	}
	if found == 0 {
		t.Fatal("no operation leaves it so")
	}
}

// TestSameOrder: what the disks are asked hangs on no map.
func TestSameOrder(t *testing.T) {
	for k := range 12 {
		var was []byte
		for try := range 5 {
			p, l := made(t, mirror, 200)
			for i := range 8 {
				put(t, p, text(10, i))
			}
			l[0].Fail(k, 1000)
			err := p.Commit(nil)
			crash(l, 1)
			b, err2 := l[0].Read(0, 200)
			ok(t, err2)
			if try > 0 && !bytes.Equal(b, was) {
				t.Fatalf("behind %d operations (%v) the disk is not always the same", k, err)
			}
			was = b
		}
	}
}

// TestRowsOfHead: a pool that got more rows is not opened with fewer.
func TestRowsOfHead(t *testing.T) {
	shape := api.Shape{Data: 1}
	for _, how := range []string{"opened", "committed"} {
		p, l := made(t, shape, 200)
		l[0].Grow(50)
		if how == "opened" {
			opened(t, l, shape)
		} else {
			ok(t, p.Grow())
			ok(t, p.Commit(nil))
		}
		for _, size := range []int{249, 250} {
			d := api.NewDisk(size)
			b, err := l[0].Read(0, size)
			ok(t, err)
			ok(t, d.Write(0, b))
			_, err = Open([]*api.Disk{d}, shape)
			if size == 250 {
				ok(t, err)
			} else {
				is(t, err, api.ErrShape)
			}
		}
	}
}

// TestManyBlocks: notes on so many blocks that they lie in many pieces.
func TestManyBlocks(t *testing.T) {
	for _, shape := range []api.Shape{mirror, {Data: 6, Level: 2}} {
		p, l := made(t, shape, 20000)
		var all []api.Ptr
		for i := range 9000 {
			all = append(all, put(t, p, []byte{byte(i), byte(i >> 8)}))
		}
		for i, x := range all {
			if i%2 == 0 {
				ok(t, p.Drop(x))
			}
		}
		ok(t, p.Commit([]byte("r")))
		own(t, p, 4500)
		l[0].Kill()
		p = opened(t, l, shape)
		for i, x := range all {
			has(t, p, x, []byte{byte(i), byte(i >> 8)}, i%2)
		}
		ok(t, p.Commit([]byte("r")))
		uses(t, p, 4500, 0)
		if !errors.Is(p.Drop(all[0]), api.ErrBlock) {
			t.Fatal("a block that is none")
		}
	}
}

// TestNoHead: Marks in the pool's own rows that are no heads tell of no pool.
func TestNoHead(t *testing.T) {
	h := head{shape: mirror, id: 1, rows: 200, age: 9, step: 1, life: 5, root: []byte("root")}.bytes()
	for _, b := range [][]byte{nil, h[:40], h[1:], h[:len(h)-1], append(h[:len(h):len(h)], 0), append([]byte("x"), h[1:]...), make([]byte, 104), bytes.Repeat([]byte{255}, 104)} {
		l := disks(2, 200)
		v, err := vol.New(l, mirror)
		ok(t, err)
		for row := range 4 {
			ok(t, v.Mark(row, uint64(1+row), b))
		}
		_, err = Open(l, mirror)
		is(t, err, api.ErrMissing)
		_, err = Format(l, mirror, 2)
		ok(t, err)
		if p := opened(t, l, mirror); p.ID() != 2 {
			t.Fatalf("pool %d", p.ID())
		}
	}
}
