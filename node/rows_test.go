package node

import (
	"bytes"
	"fmt"
	"math/rand"
	"strings"
	"testing"

	"bedrock/api"
	"bedrock/tree"
)

// wide is tables of many nodes, each made in its own way; what else is in their maps, too.
var wide = []struct {
	name         string
	nodes, calls int
	call         func(t *testing.T, x *Table, n uint64, r *rand.Rand)
}{
	{"nodes alone", 4000, 0, nil},
	{"pages and attributes in no order", 700, 4200, func(t *testing.T, x *Table, n uint64, r *rand.Rand) {
		write(t, x, n, r.Intn(100)*page, []byte{byte(n)})
		ok(t, x.SetExtra(n, fmt.Sprint(r.Intn(api.MaxAttrs)), make([]byte, r.Intn(api.MaxAttrVal+1))))
	}},
	{"a node of many pages", 1, 8000, func(t *testing.T, x *Table, n uint64, r *rand.Rand) {
		write(t, x, n, r.Intn(1<<20)*page, []byte{1})
	}},
	{"names that begin alike", 300, 4000, func(t *testing.T, x *Table, n uint64, r *rand.Rand) {
		name := strings.Repeat("\x00", api.MaxPart-1) + string(rune('a'+r.Intn(api.MaxAttrs)))
		ok(t, x.SetExtra(n, name, make([]byte, r.Intn(api.MaxAttrVal+1))))
	}},
	{"others' keys that begin alike", 300, 8000, func(t *testing.T, x *Table, n uint64, r *rand.Rand) {
		ok(t, x.Put(append(key(num(10)), fmt.Sprintf("%0150d", r.Intn(1<<30))...), make([]byte, r.Intn(api.MaxVal+1))))
	}},
	{"others' keys that begin alike in threes", 300, 1500, func(t *testing.T, x *Table, n uint64, r *rand.Rand) {
		b := append(key(num(10)), noise(r.Int63(), 150)...)
		for i := range 3 {
			ok(t, x.Put(append(b, byte(i)), make([]byte, api.MaxVal)))
		}
	}},
}

// grown is a table that is made in such a way, and its nodes.
func grown(t *testing.T, way int) (*Table, []uint64) {
	t.Helper()
	p, _ := made(t, single, 1<<21+100)
	x := On(tree.New(p))
	var l []uint64
	for range wide[way].nodes {
		l = append(l, newFile(t, x))
	}
	r := rand.New(rand.NewSource(int64(way)))
	for range wide[way].calls {
		wide[way].call(t, x, l[r.Intn(len(l))], r)
	}
	return x, l
}

// behindSnap: with a table whose map has all blocks in common with another one something is done: it takes at most so many rows more.
func behindSnap(t *testing.T, x *Table, what string, most int, do func() error) {
	t.Helper()
	s := snapped(t, x)
	before := x.Pool().Use().Used
	ok(t, do())
	if more := x.Pool().Use().Used - before; more > most {
		t.Errorf("%s: %d rows more are in use, at most %d were allowed", what, more, most)
	}
	ok(t, s.Map.Free())
}

// TestRowsOfWide: in a table of many nodes, of which there is a snapshot, Write and Clone take as few rows as in a small one.
func TestRowsOfWide(t *testing.T) {
	for way, w := range wide {
		x, l := grown(t, way)
		r := rand.New(rand.NewSource(1))
		for i := range 120 {
			for _, k := range []int{1, 2, 3, 4, 16, 33, 256} {
				if k > 4 && i%8 > 0 {
					continue
				}
				n := l[r.Intn(len(l))]
				a, err := x.Attr(n)
				ok(t, err)
				end := pageEnd(a.Size) * page
				behindSnap(t, x, fmt.Sprintf("%s: Write of %d", w.name, k), 30+k/4, func() error {
					return x.Write(n, end, bytes.Repeat([]byte{7}, k*page))
				})
			}
			for _, k := range []int{1, 2, 3, 16, 64} {
				from, to := l[r.Intn(len(l))], l[r.Intn(len(l))]
				a, err := x.Attr(from)
				ok(t, err)
				b, err := x.Attr(to)
				ok(t, err)
				page, where := r.Intn(pageEnd(a.Size)+1), r.Intn(pageEnd(b.Size)+2)
				behindSnap(t, x, fmt.Sprintf("%s: Clone of %d", w.name, k), 30+k, func() error {
					return x.Clone(from, page, to, where, k)
				})
			}
		}
	}
}

// TestRowsOfFreed: so it is when most of the nodes were freed again.
func TestRowsOfFreed(t *testing.T) {
	x, l := grown(t, 1)
	r := rand.New(rand.NewSource(1))
	r.Shuffle(len(l), func(i, j int) { l[i], l[j] = l[j], l[i] })
	for _, n := range l[50:] {
		ok(t, x.Free(n))
	}
	for _, n := range l[:50] {
		a, err := x.Attr(n)
		ok(t, err)
		behindSnap(t, x, "Write of 3", 30, func() error { return x.Write(n, pageEnd(a.Size)*page, bytes.Repeat([]byte{7}, 3*page)) })
		behindSnap(t, x, "Clone of 1", 31, func() error { return x.Clone(l[49], 0, n, 3, 1) })
		ok(t, x.Free(n))
	}
	ok(t, x.Map.Del(lastKey()))
	if n := x.Pool().Use().Used; n > 0 {
		t.Errorf("%d rows are in use", n)
	}
}
