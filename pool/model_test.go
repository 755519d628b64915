package pool

import (
	"bytes"
	"errors"
	"maps"
	"math/rand"
	"slices"
	"strconv"
	"testing"

	"bedrock/api"
)

// block is what a model has of a block.
type block struct {
	b    []byte
	uses int
}

// left is what a commit leaves.
type left struct {
	root   string
	blocks map[api.Ptr]block
}

// world is a pool, its disks, and what must be so.
type world struct {
	t     *testing.T
	r     *rand.Rand
	shape api.Shape
	l     []*api.Disk
	p     *Pool
	id    uint64

	now   map[api.Ptr]block
	last  left
	begun []left // commits that were begun since, and did not answer nil
	notes [][]byte
	floor int // so many of the notes are safe
	open  bool
	roots int
	seen  map[api.Ptr]int

	bad    []int // disks of which sectors may not be good
	astray int   // whether what they are given may go astray
	old    [][]*api.Disk
}

func newWorld(t *testing.T, seed int64) *world {
	r := rand.New(rand.NewSource(seed))
	w := &world{t: t, r: r, shape: shapes[r.Intn(len(shapes))], seen: map[api.Ptr]int{}}
	n := w.shape.Data + w.shape.Level
	w.l = disks(n, 300+r.Intn(100))
	w.old = make([][]*api.Disk, n)
	w.format()
	return w
}

func (w *world) format() {
	w.id++
	p, err := Format(w.l, w.shape, w.id)
	ok(w.t, err)
	w.p, w.open = p, false
	w.now, w.last, w.begun = map[api.Ptr]block{}, left{}, nil
	w.notes, w.floor = nil, 0
	w.look()
}

// look holds the pool against the model.
func (w *world) look() {
	w.t.Helper()
	if w.p.ID() != w.id || string(w.p.Root()) != w.last.root {
		w.t.Fatalf("pool %d, root %q, wanted %q", w.p.ID(), w.p.Root(), w.last.root)
	}
	n, used, held := 0, 0, 0
	for x, k := range w.p.Blocks() {
		if m, in := w.now[x]; !in || m.uses != k {
			w.t.Fatalf("%+v is in use %d times, wanted %d", x, k, m.uses)
		}
		n++
	}
	if n != len(w.now) {
		w.t.Fatalf("%d blocks, wanted %d", n, len(w.now))
	}
	for x, m := range w.now {
		has(w.t, w.p, x, m.b, m.uses)
		used += w.rows(x)
	}
	for x := range w.last.blocks {
		if w.now[x].uses == 0 {
			held += w.rows(x)
		}
	}
	uses(w.t, w.p, used, held)
	own(w.t, w.p, len(w.last.blocks))
}

func (w *world) rows(x api.Ptr) int {
	size := 104 * w.shape.Data
	return max(1, (x.Len+size-1)/size)
}

func (w *world) pick() (api.Ptr, bool) {
	if len(w.now) == 0 {
		return api.Ptr{}, false
	}
	l := slices.SortedFunc(maps.Keys(w.now), func(a, b api.Ptr) int { return a.At - b.At })
	return l[w.r.Intn(len(l))], true
}

// change does one thing with the blocks.
func (w *world) change() {
	x, there := w.pick()
	switch k := w.r.Intn(4); {
	case k == 0 && there:
		ok(w.t, w.p.Share(x))
		w.now[x] = block{w.now[x].b, w.now[x].uses + 1}
	case k == 1 && there, len(w.now) > 12:
		ok(w.t, w.p.Drop(x))
		m := w.now[x]
		if m.uses--; m.uses > 0 {
			w.now[x] = m
		} else {
			delete(w.now, x)
		}
	default:
		b := text(w.r.Intn(500)*w.r.Intn(3), w.r.Intn(1000))
		x, err := w.p.Put(b)
		ok(w.t, err)
		if w.seen[x] > 0 {
			w.t.Fatalf("%+v was answered before", x)
		}
		w.seen[x] = 1
		w.now[x] = block{b, 1}
	}
}

func (w *world) try(deep int) {
	was := maps.Clone(w.now)
	bad := w.r.Intn(2) > 0
	err := w.p.Try(func() error {
		for range w.r.Intn(5) {
			if deep < 3 && w.r.Intn(3) == 0 {
				w.try(deep + 1)
			}
			w.change()
		}
		if bad {
			return api.ErrForm
		}
		return nil
	})
	if bad {
		is(w.t, err, api.ErrForm)
		w.now = was
	} else {
		ok(w.t, err)
	}
}

// arm lets an operation fail, sometimes.
func (w *world) arm(most int) {
	for _, d := range w.l {
		if d.Fail(0, 0); w.r.Intn(2*len(w.l)) == 0 {
			d.Fail(w.r.Intn(most), 1+w.r.Intn(50))
		}
	}
}

// came looks at an error of a call during which a disk may have failed; it tells whether the pool is up still.
func (w *world) came(err error) bool {
	w.t.Helper()
	for _, d := range w.l {
		d.Fail(0, 0)
	}
	if err == nil {
		return true
	}
	is(w.t, err, api.ErrDevice)
	w.copies()
	is(w.t, w.p.Sync(), api.ErrDown)
	w.crash()
	return false
}

func (w *world) commit() {
	w.roots++
	next := left{strconv.Itoa(w.roots), maps.Clone(w.now)}
	w.arm(40)
	w.begun = append(w.begun, next)
	if w.came(w.p.Commit([]byte(next.root))) {
		w.last, w.begun, w.notes, w.floor, w.open = next, nil, nil, 0, false
	}
}

func (w *world) note() {
	b := text(1+w.r.Intn(300), w.r.Intn(100))
	w.arm(10)
	err := w.p.Note(b)
	if w.open {
		w.came(nil)
		is(w.t, err, api.ErrOrder)
		return
	}
	if errors.Is(err, api.ErrFull) {
		w.came(nil)
		return
	}
	w.notes = append(w.notes, b)
	if w.came(err) && w.r.Intn(2) == 0 {
		w.arm(4)
		if w.came(w.p.Sync()) {
			w.floor = len(w.notes)
		}
	}
}

// crash crashes the disks, and takes up the pool, which may crash again.
func (w *world) crash() {
	for {
		for _, d := range w.l {
			d.Crash(text(1+w.r.Intn(7), w.r.Intn(1000)))
		}
		w.astray = 0
		w.spoil(true)
		w.arm(60)
		p, err := Open(w.l, w.shape)
		for _, d := range w.l {
			d.Fail(0, 0)
		}
		if err == nil {
			w.p = p
			w.take()
			return
		}
		is(w.t, err, api.ErrDevice)
		w.copies()
	}
}

// take takes what was opened for what is so, if it may be.
func (w *world) take() {
	root := string(w.p.Root())
	if i := slices.IndexFunc(w.begun, func(c left) bool { return c.root == root }); i >= 0 {
		w.last, w.notes, w.floor = w.begun[i], nil, 0
	}
	w.begun = nil
	w.now = maps.Clone(w.last.blocks)
	if w.now == nil {
		w.now = map[api.Ptr]block{}
	}
	w.open = true
	got := w.p.Notes()
	if len(got) < w.floor || len(got) > len(w.notes) || !slices.EqualFunc(got, w.notes[:len(got)], bytes.Equal) {
		w.t.Fatalf("%d notes, of %d, of which %d are safe", len(got), len(w.notes), w.floor)
	}
	w.floor = len(got)
	w.look()
}

// copies keeps copies of disks, which may come back.
func (w *world) copies() {
	for i, d := range w.l {
		if w.r.Intn(4) == 0 {
			w.old[i] = append(w.old[i], d.Copy())
		}
	}
}

// spoil spoils as many disks as may be; between two pools older ones may come back.
func (w *world) spoil(between bool) {
	if len(w.bad) == 0 {
		w.bad = w.r.Perm(len(w.l))[:w.r.Intn(w.shape.Level+1)]
	}
	for _, i := range w.bad {
		switch d := w.l[i]; w.r.Intn(9) {
		case 0:
			for range w.r.Intn(200) {
				d.Lose(w.r.Intn(d.Size()))
			}
		case 1:
			for range w.r.Intn(200) {
				d.Spoil(w.r.Intn(d.Size()), w.r.Intn(1024), w.r.Uint32())
			}
		case 2:
			if w.r.Intn(3) == 0 {
				d.Kill()
			}
		case 3:
			for range w.r.Intn(5) {
				d.Mislay(w.r.Intn(10), w.r.Intn(d.Size()))
			}
			w.astray = 1
		case 4, 5, 6:
			if l := w.old[i]; between && len(l) > 0 {
				w.l[i] = l[w.r.Intn(len(l))].Copy()
			}
		case 7:
			if between {
				w.l[i] = api.NewDisk(d.Size())
			}
		}
	}
}

func (w *world) mend() {
	if len(w.bad) > 0 && w.r.Intn(2) == 0 {
		i := w.bad[0]
		d := api.NewDisk(w.l[i].Size())
		w.l[i] = d
		w.arm(1000)
		if !w.came(w.p.Replace(i, d)) {
			return
		}
	}
	w.arm(3000)
	s, err := w.p.Scrub()
	if !w.came(err) {
		return
	}
	if s.Blocks != len(w.now) || s.Spoilt != 0 {
		w.t.Fatalf("%+v, with %d blocks", s, len(w.now))
	}
	again, err := w.p.Scrub()
	if !w.came(err) {
		return
	}
	if w.astray == 0 && again.Mended > 0 {
		w.t.Fatalf("what was mended was mended again: %+v", again)
	}
	if w.astray == 0 && !slices.ContainsFunc(w.bad, func(i int) bool { _, err := w.l[i].Read(0, 0); return err != nil }) {
		w.bad = nil
	}
}

func (w *world) step() {
	switch w.r.Intn(20) {
	case 0:
		w.crash()
	case 1, 2, 3:
		w.commit()
	case 4, 5, 6:
		w.note()
	case 7:
		w.spoil(false)
	case 8:
		w.mend()
	case 9:
		w.copies()
	case 10:
		if w.r.Intn(5) == 0 {
			w.format()
		}
	case 11:
		p, err := Open(w.l, w.shape) // without a crash
		ok(w.t, err)
		if w.p = p; !w.open {
			w.floor = len(w.notes)
		}
		w.take()
	case 12, 13, 14:
		w.try(0)
	default:
		w.change()
	}
	w.look()
}

func TestModel(t *testing.T) {
	n := 400
	if testing.Short() {
		n = 40
	}
	for seed := range n {
		t.Run(strconv.Itoa(seed), func(t *testing.T) {
			w := newWorld(t, int64(seed))
			for range 60 {
				w.step()
			}
		})
	}
}
