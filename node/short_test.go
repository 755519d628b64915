package node

import (
	"bytes"
	"testing"

	"bedrock/api"
	"bedrock/pool"
)

// within fails if f takes more rows than that.
func within(t *testing.T, p *pool.Pool, most int, f func()) {
	t.Helper()
	before := p.Use().Used
	f()
	if more := p.Use().Used - before; more > most {
		t.Fatalf("%d rows more are in use, at most %d were allowed", more, most)
	}
}

// crowd makes so many nodes, each with some bytes and a further attribute.
func crowd(t *testing.T, x *Table, count int) {
	t.Helper()
	for i := range count {
		n := newFile(t, x)
		write(t, x, n, 0, noise(int64(i), 50))
		ok(t, x.SetExtra(n, "of the crowd", []byte("value")))
	}
}

// TestRowsOfWrites: pages of one byte behind the end of a node take few rows, however they come.
func TestRowsOfWrites(t *testing.T) {
	// each writes one more piece of pages, which begins at that byte
	ways := map[string]struct {
		step  int
		bytes func(at int) byte
	}{
		"all at once":           {api.MaxIO, func(int) byte { return 7 }},
		"page by page":          {page, func(int) byte { return 7 }},
		"each its own byte":     {page, func(at int) byte { return byte(at / page) }},
		"in halves":             {page / 2, func(int) byte { return 9 }},
		"in odd pieces":         {page + 100, func(at int) byte { return 0 }},
		"a group and a bit":     {17 * page, func(at int) byte { return byte(at / page * 7) }},
		"each once, then zeros": {page, func(at int) byte { return byte(at) }},
	}
	for name, way := range ways {
		for _, ahead := range []int{0, 15 * page, 21*page + 5} {
			for _, others := range []int{0, 60} {
				p, x := begun(t)
				crowd(t, x, others)
				n := newFile(t, x)
				write(t, x, n, 0, noise(1, ahead))
				if others > 0 {
					snapped(t, x)
				}
				for _, k := range []int{1, 20, 256} {
					a, err := x.Attr(n)
					ok(t, err)
					before := p.Use().Used
					for at, end := a.Size, a.Size+k*page; at < end; {
						b := bytes.Repeat([]byte{way.bytes(at)}, min(way.step, end-at))
						write(t, x, n, at, b)
						at += len(b)
					}
					if more := p.Use().Used - before; more > 30+k/4 {
						t.Errorf("%s: %d bytes, %d others: %d pages take %d rows", name, ahead, others, k, more)
					}
				}
			}
		}
	}
}

// TestRowsOfOneByteEach: pages in which one byte alone was written are short, too.
func TestRowsOfOneByteEach(t *testing.T) {
	p, x := begun(t)
	n := newFile(t, x)
	within(t, p, 30+64, func() {
		for i := range 256 {
			write(t, x, n, i*page, []byte{byte(i)})
		}
	})
	sized(t, x, n, 255*page+1, 256)
}

// TestKeptShort: bytes that come again and again take fewer rows than others; what cannot be made shorter takes no more than it must.
func TestKeptShort(t *testing.T) {
	p, x := begun(t)
	n := newFile(t, x)
	within(t, p, 10*2+8, func() {
		write(t, x, n, 0, bytes.Repeat([]byte("a piece of bytes that comes again "), 10*16*page/34+1)[:10*16*page])
	})
	n = newFile(t, x)
	within(t, p, 10*40+8, func() { write(t, x, n, 0, noise(2, 10*16*page)) })
}

// TestRowsOfClones: a clone shares the blocks, whatever the pages have and however they came to be.
func TestRowsOfClones(t *testing.T) {
	fills := map[string]func(x *Table, n uint64){
		"in one":     func(x *Table, n uint64) { write(t, x, n, 0, noise(1, 200*page)) },
		"with a gap": func(x *Table, n uint64) { write(t, x, n, 20*page, noise(1, 100*page)) },
		"each second": func(x *Table, n uint64) {
			for i := range 100 {
				write(t, x, n, i*2*page, noise(int64(i), page))
			}
		},
		"one by one, with others that keep them apart": func(x *Table, n uint64) {
			for i := range 100 {
				write(t, x, n, i*page, noise(int64(i), page))
				s := newFile(t, x)
				ok(t, x.Clone(n, i, s, 0, 1))
			}
		},
	}
	for name, fill := range fills {
		for _, k := range []int{1, 16, 33, 64} {
			for i, place := range []struct{ page, where int }{{0, 0}, {0, 3}, {5, 2}, {16, 16}, {30, 1000}, {7, 1 << 20}} {
				p, x := begun(t)
				crowd(t, x, i*8)
				a, b := newFile(t, x), newFile(t, x)
				fill(x, a)
				write(t, x, b, 0, noise(77, 30*page))
				for _, to := range []uint64{b, a} {
					before := p.Use().Used
					ok(t, x.Clone(a, place.page, to, place.where, k))
					if more := p.Use().Used - before; more > 30+k {
						t.Errorf("%s: %d pages, %+v, take %d rows", name, k, place, more)
					}
				}
			}
		}
	}
}

// TestClone: what comes to be, byte by byte.
func TestClone(t *testing.T) {
	p, x := begun(t)
	a, b := newFile(t, x), newFile(t, x)
	in := noise(1, 30*page+50)
	write(t, x, a, 0, in)
	ok(t, x.Punch(a, 10*page, 5*page))
	clear(in[10*page : 15*page])
	is(t, x.Clone(a, 0, b, 0, api.MaxClone+1), api.ErrLong)
	is(t, x.Clone(a, 1<<32, b, 0, 1), api.ErrLong)
	is(t, x.Clone(a, 0, b, 1<<32-3, 4), api.ErrLong)
	is(t, x.Clone(a, -1, b, 0, 99), api.ErrArg)
	is(t, x.Clone(a, 0, b, -1, 99), api.ErrArg)
	is(t, x.Clone(a, 1<<33, b, 0, -1), api.ErrArg)
	ok(t, x.Clone(a, 1<<32, b, 1<<32, 0))
	ok(t, x.Clone(a, 0, b, 100, 0))
	sized(t, x, b, 0, 0)
	ok(t, x.Clone(a, 31, b, 5, 10)) // nothing comes
	sized(t, x, b, 0, 0)
	ok(t, x.Clone(a, 12, b, 5, 2)) // holes, though bytes
	sized(t, x, b, 7*page, 0)
	ok(t, x.Clone(a, 30, b, 0, 64))
	sized(t, x, b, 7*page, 1)
	reads(t, x, b, 0, append(in[30*page:30*page+50:30*page+50], make([]byte, 6*page)...))
	ok(t, x.Clone(a, 30, b, 9, 64))
	sized(t, x, b, 9*page+50, 2)
	ok(t, x.Clone(a, 8, b, 7, 4))
	sized(t, x, b, 11*page, 3) // what was at page 9 is a hole
	reads(t, x, b, 7*page, in[8*page:12*page])
	write(t, x, b, 7*page+1, []byte("mine"))
	reads(t, x, a, 0, in)
	write(t, x, a, 9*page+1, []byte("other"))
	reads(t, x, b, 8*page, in[9*page:10*page])
	copy(in[9*page+1:], "other")
	ok(t, x.Clone(a, 0, a, 1, 31)) // over itself, forwards
	in = append(slicesOf(in, 0, page), in...)
	sized(t, x, a, 31*page+50, 27)
	reads(t, x, a, 0, in)
	ok(t, x.Clone(a, 3, a, 0, 29)) // and backwards
	copy(in, in[3*page:])
	clear(in[28*page+50 : 29*page])
	reads(t, x, a, 0, in)
	ok(t, x.Clone(a, 4, a, 4, 12)) // and where it is
	reads(t, x, a, 0, in)
	ok(t, x.Free(b))
	reads(t, x, a, 0, in)
	ok(t, x.Free(a))
	ok(t, x.Map.Free())
	if p.Use().Used != 0 {
		t.Fatalf("%+v", p.Use())
	}
}

// TestCloneOfOneByte: also one byte is an end of what came.
func TestCloneOfOneByte(t *testing.T) {
	_, x := begun(t)
	a, b := newFile(t, x), newFile(t, x)
	write(t, x, a, 0, []byte{7})
	ok(t, x.Clone(a, 0, b, 2, 5))
	sized(t, x, b, 2*page+1, 1)
	ok(t, x.Cut(a, page+1))
	ok(t, x.Clone(a, 1, b, 4, 5))
	sized(t, x, b, 4*page+1, 1)
}

func slicesOf(b []byte, from, to int) []byte { return append([]byte(nil), b[from:to]...) }

// TestGathered: what was written bit by bit, or beside what others had, lies in one block a group, when nobody else uses it.
func TestGathered(t *testing.T) {
	p, x := begun(t)
	n := newFile(t, x)
	write(t, x, n, 0, noise(1, 16*page))
	s := snapped(t, x)
	for i := range 16 {
		write(t, x, n, i*page, noise(int64(i), page))
	}
	ok(t, s.Map.Free())
	if left := p.Use().Used; left > 40+3 {
		t.Fatalf("%d rows for sixteen pages", left)
	}
	write(t, x, n, 3*page, noise(1, 1))
	g, err := x.group(n, 0)
	if ok(t, err); len(g.parts) != 1 || g.parts[0].total != groupPages {
		t.Fatalf("%+v", g)
	}
}

// TestSharedStays: a page that is written does not make others anew that a snapshot has.
func TestSharedStays(t *testing.T) {
	p, x := begun(t)
	n := newFile(t, x)
	write(t, x, n, 0, noise(1, 16*page))
	s := snapped(t, x)
	within(t, p, 3+3, func() { write(t, x, n, 5*page, noise(2, page)) })
	within(t, p, 3+1, func() { write(t, x, n, 6*page, noise(3, page)) })
	within(t, p, 0, func() { ok(t, x.Punch(n, 7*page, 3*page)) })
	reads(t, s, n, 0, noise(1, 16*page))
	want := noise(1, 16*page)
	copy(want[5*page:], noise(2, page))
	copy(want[6*page:], noise(3, page))
	clear(want[7*page : 10*page])
	reads(t, x, n, 0, want)
}
