package pool

import (
	"bytes"
	"fmt"
	"math/rand"
	"testing"
	"time"

	"bedrock/api"
	"bedrock/number"
	"bedrock/space"
	"bedrock/sum"
	"bedrock/vol"
)

// atSum is where in a sector its sum stands.
const atSum = api.SectorSize - 4

// reform gives a sector other bytes, with a sum that fits: so it is where bits are turned at several times.
func reform(t *testing.T, d *api.Disk, at int, change func(s []byte)) {
	t.Helper()
	s, err := d.Read(at, 1)
	ok(t, err)
	change(s)
	number.Put(s[atSum:], uint64(sum.Sum(s[:atSum])))
	ok(t, d.Write(at, s))
	ok(t, d.Flush())
}

// exercise calls all that there is, whatever it answers; it tells whether there was a pool.
func exercise(l []*api.Disk, shape api.Shape) bool {
	p, err := Open(l, shape)
	if err != nil {
		return false
	}
	p.ID()
	p.Root()
	p.Notes()
	var blocks []api.Ptr
	for x := range p.Blocks() {
		blocks = append(blocks, x)
		p.Get(x)
		p.Uses(x)
	}
	p.Scrub()
	p.Put(make([]byte, 300))
	for i, x := range blocks {
		if i%3 == 0 {
			_ = p.Share(x)
		}
		_ = p.Drop(x)
		p.Get(x)
	}
	_ = p.Commit([]byte("new"))
	_ = p.Note([]byte("note"))
	_ = p.Sync()
	p.Use()
	_, _ = Open(l, shape)
	_, _ = Format(l, shape, 8)
	return true
}

// ends fails if something panics, or goes on for ever.
func ends(t *testing.T, what string, do func()) {
	t.Helper()
	done := make(chan any, 1)
	go func() {
		defer func() { done <- recover() }()
		do()
	}()
	select {
	case x := <-done:
		if x != nil {
			t.Fatalf("%s: it panics: %v", what, x)
		}
	case <-time.After(time.Minute):
		t.Fatalf("%s: it does not end", what)
	}
}

// rowsIn is the rows of a disk in which something is.
func rowsIn(t *testing.T, d *api.Disk) []int {
	t.Helper()
	var rows []int
	for at := range d.Size() {
		b, err := d.Read(at, 1)
		if ok(t, err); !bytes.Equal(b, make([]byte, api.SectorSize)) {
			rows = append(rows, at)
		}
	}
	return rows
}

// TestTurned: whatever bits of one disk's sectors are turned, so that the sums fit still: no call panics, and every call ends.
func TestTurned(t *testing.T) {
	r := rand.New(rand.NewSource(1))
	for _, shape := range []api.Shape{{Data: 1}, {Data: 1, Level: 1}, {Data: 1, Level: 2}, {Data: 2, Level: 1}} {
		f := filled(t, shape, 1000)
		rows := rowsIn(t, f.l[0])
		for i := range 1500 {
			l := copied(f.l)
			at, other := rows[i%len(rows)], rows[r.Intn(len(rows))]
			switch r.Intn(4) {
			case 0:
				bit := r.Intn(8*api.SectorSize - 32)
				l[0].Spoil(at, bit, 1)
				l[0].Spoil(at, bit+1, 0x82f63b78)
			case 1:
				reform(t, l[0], at, func(s []byte) { s[r.Intn(atSum)] = byte(r.Intn(256)) })
			case 2:
				reform(t, l[0], at, func(s []byte) { s[20+r.Intn(104)] += byte(r.Intn(5) - 2) })
			case 3:
				b, err := l[0].Read(other, 1)
				ok(t, err)
				reform(t, l[0], at, func(s []byte) { copy(s[20:atSum], b[20:]) })
			}
			ends(t, fmt.Sprintf("%+v, row %d, %d", shape, at, i), func() { exercise(l, shape) })
		}
	}
}

func copied(l []*api.Disk) []*api.Disk {
	var out []*api.Disk
	for _, d := range l {
		out = append(out, d.Copy())
	}
	return out
}

// TestWrongNotes: notes on the blocks that no commit can have left are spoilt, though they are read well.
func TestWrongNotes(t *testing.T) {
	const runs = pieceHead + 4 // where the first run begins, of 18 bytes each: its place, its rows, its count, its tag
	put := func(at, size int, n uint64) func(b []byte) {
		return func(b []byte) { number.Put(b[at:at+size], n) }
	}
	add := func(at, size, by int) func(b []byte) {
		return func(b []byte) { number.Put(b[at:at+size], number.Of(b[at:at+size])+uint64(by)) }
	}
	for _, shape := range []api.Shape{{Data: 1}, {Data: 2, Level: 1}} {
		p, l := made(t, shape, 1000)
		for i := range 12 {
			_, err := p.Put(text(70*(i%5), i))
			ok(t, err)
		}
		ok(t, p.Commit([]byte("root")))
		own, stamp, last := p.head.own, p.head.ownStamp, 0
		for range p.space.Runs() {
			last++
		}
		ownRun := runs + 18*(last-1) // behind all others
		for what, wrong := range map[string]func(b []byte){
			"they lead to themselves":     func(b []byte) { put(0, 4, uint64(own.at))(b); put(4, 2, uint64(own.n))(b) },
			"they lead to a block":        func(b []byte) { put(0, 4, 0)(b); put(4, 2, 1)(b) },
			"they lead to a free row":     func(b []byte) { put(0, 4, uint64(own.at+own.n))(b); put(4, 2, 1)(b) },
			"they lead behind the end":    func(b []byte) { put(0, 4, 1<<32-1)(b); put(4, 2, 1)(b) },
			"they lead to too many rows":  put(4, 2, 1<<16-1),
			"more bytes than there are":   put(6, 2, 1<<16-1),
			"one byte more than there is": put(6, 2, uint64(own.n*p.RowBytes()-pieceHead+1)),
			"a byte less":                 add(6, 2, -1),
			"a run less":                  add(6, 2, -18),
			"no bytes":                    put(6, 2, 0),
			"more rows than there are":    add(pieceHead, 4, 1),
			"fewer rows than are in use":  put(pieceHead, 4, 5),
			"a longer block":              add(runs+18+10, 2, 104*shape.Data),
			"a longer block, by much":     add(runs+18+10, 2, 4000),
			"too long a block":            put(runs+10, 2, 1<<13-1),
			"a block without a stamp":     put(runs+10, 8, 7),
			"a block of no rows":          put(runs+4, 4, 0),
			"a block that is not in use":  put(runs+8, 2, 0),
			"a block in another's rows":   add(runs+18, 4, -1),
			"a block for their own":       put(runs+10, 8, ownTag),
			"their own for a block":       put(ownRun+10, 8, 1<<40),
			"their own, in use twice":     put(ownRun+8, 2, 2),
			"their own, at another place": add(ownRun, 4, 1),
		} {
			l := copied(l)
			was, err := p.vol.Read(api.OwnRows+own.at, own.n, stamp)
			ok(t, err)
			b := bytes.Clone(was)
			wrong(b)
			if bytes.Equal(was, b) {
				t.Fatalf("%s: nothing is wrong", what)
			}
			ok(t, opened(t, l, shape).vol.Write(api.OwnRows+own.at, stamp, b))
			ends(t, what, func() {
				if _, err := Open(l, shape); api.Tell(err) != api.ErrSpoilt {
					t.Errorf("%+v: %s: %v, wanted %v", shape, what, err, api.ErrSpoilt)
				}
			})
		}
	}
}

// TestWrongHeads: a head that no pool can have is none: that of the other rows holds.
func TestWrongHeads(t *testing.T) {
	for what, wrong := range map[string]func(h *head){
		"no age":                 func(h *head) { h.age = 0 },
		"an age that is too far": func(h *head) { h.age = 1<<32 - 1 },
		"no life":                func(h *head) { h.life = 0 },
		"a life too far":         func(h *head) { h.life = 1 << 50 },
		"no rows":                func(h *head) { h.rows = 0 },
		"too few rows":           func(h *head) { h.rows = api.MinRows - 1 },
		"too many rows":          func(h *head) { h.rows = 1<<32 - 1 },
		"notes without a stamp":  func(h *head) { h.ownStamp = 0 },
		"too long a root":        func(h *head) { h.root = make([]byte, api.MaxRoot+1) },
		"another stamp":          nil,
	} {
		p, l := made(t, mirror, 1000)
		x := put(t, p, []byte("block"))
		ok(t, p.Commit([]byte("root")))
		h := p.head
		h.step++
		h.root = []byte("other")
		stamp := h.stamp() + 7
		if wrong != nil {
			wrong(&h)
			stamp = max(h.stamp(), 1)
		}
		for i := range 2 {
			ok(t, p.vol.Mark(2*(1-p.pair)+i, stamp, h.bytes()))
		}
		ends(t, what, func() {
			p, err := Open(l, mirror)
			if err != nil {
				t.Errorf("%s: %v", what, err)
				return
			}
			b, err := p.Get(x)
			if err != nil || string(b) != "block" || string(p.Root()) != "root" {
				t.Errorf("%s: another pool, %v", what, err)
			}
		})
	}
}

// TestTooSmall: where there cannot be a pool none is found, whatever the rows have.
func TestTooSmall(t *testing.T) {
	p, _ := made(t, mirror, 1000)
	for _, rows := range []int{4, 50, 99} {
		l := disks(2, rows)
		v, err := vol.New(l, mirror)
		ok(t, err)
		h := p.head
		h.rows = rows
		ok(t, v.Mark(0, h.stamp(), h.bytes()))
		_, err = Open(l, mirror)
		is(t, err, api.ErrMissing)
	}
}

// TestTooLong: a block that is longer than one can be is none that a commit left, though it fits in its rows.
func TestTooLong(t *testing.T) {
	p, l := made(t, api.Shape{Data: 1}, 1000)
	for i := range 3 {
		put(t, p, text(api.MaxBlock, i))
	}
	ok(t, p.Commit(nil))
	own, stamp := p.head.own, p.head.ownStamp
	for size, want := range map[int]api.Errno{api.MaxBlock: 0, api.MaxBlock + 1: api.ErrSpoilt, 1<<lenBits - 1: api.ErrSpoilt} {
		s, err := space.New(p.rows() - api.OwnRows)
		ok(t, err)
		_, err = s.Take(p.rowsOf(size), 1<<40|uint64(size))
		ok(t, err)
		at, err := s.Take(own.at-p.rowsOf(size), 1)
		ok(t, err)
		_, err = s.Take(own.n, ownTag)
		ok(t, err)
		ok(t, s.Drop(at))
		b := append(make([]byte, pieceHead), s.Bytes()...)
		number.Put(b[6:8], uint64(len(s.Bytes())))
		l := copied(l)
		v, err := vol.New(l, api.Shape{Data: 1})
		ok(t, err)
		ok(t, v.Write(api.OwnRows+own.at, stamp, append(b, make([]byte, own.n*p.RowBytes()-len(b))...)))
		if _, err := Open(l, api.Shape{Data: 1}); api.Tell(err) != want {
			t.Errorf("%d bytes: %v, wanted %v", size, err, want)
		}
	}
}
