package node

import (
	"bytes"
	"cmp"
	"fmt"
	"maps"
	"math/rand"
	"slices"
	"testing"

	"bedrock/api"
	"bedrock/pool"
	"bedrock/tree"
)

// model is what a node should be.
type model struct {
	attr   api.Attr
	pages  map[int]string
	extras map[string]string
}

// twin is a table and its model.
type twin struct {
	x    *Table
	last uint64
	want map[uint64]*model
}

// world is a pool with several tables.
type world struct {
	t     *testing.T
	r     *rand.Rand
	shape api.Shape
	l     []*api.Disk
	p     *pool.Pool
	twins []*twin
	far   []int // places from which bytes are written
}

func newWorld(t *testing.T, seed int64) *world {
	r := rand.New(rand.NewSource(seed))
	w := &world{t: t, r: r, shape: shapes[r.Intn(len(shapes))]}
	w.p, w.l = made(t, w.shape, 60000)
	w.twins = []*twin{{x: On(tree.New(w.p)), want: map[uint64]*model{}}}
	w.far = [][]int{{0}, {0, 14 * page}, {0, 1000 * page, api.MaxFile - 100*page}}[r.Intn(3)]
	return w
}

func (m *model) copied() *model {
	return &model{m.attr, maps.Clone(m.pages), maps.Clone(m.extras)}
}

func (a *twin) copied(x *Table) *twin {
	b := &twin{x, a.last, map[uint64]*model{}}
	for n, m := range a.want {
		b.want[n] = m.copied()
	}
	return b
}

// write is 9.4's Write.
func (m *model) write(at int, b []byte) {
	m.attr.Size = max(m.attr.Size, at+len(b))
	for len(b) > 0 {
		c := make([]byte, page)
		copy(c, m.pages[at/page])
		n := copy(c[at%page:], b)
		m.pages[at/page] = string(c)
		at, b = at+n, b[n:]
	}
}

// cut is 9.4's Cut.
func (m *model) cut(size int) {
	for k, old := range m.pages {
		switch {
		case k*page >= size:
			delete(m.pages, k)
		case (k+1)*page > size:
			m.pages[k] = old[:size-k*page] + string(make([]byte, (k+1)*page-size))
		}
	}
	m.attr.Size = size
}

// punch is 9.4's Punch.
func (m *model) punch(at, size int) {
	end := min(at+size, m.attr.Size)
	for k, old := range m.pages {
		from, to := max(at, k*page), min(end, (k+1)*page)
		switch {
		case from >= to:
		case from == k*page && to == min((k+1)*page, m.attr.Size):
			delete(m.pages, k)
		default:
			c := []byte(old)
			clear(c[from-k*page : to-k*page])
			m.pages[k] = string(c)
		}
	}
}

// clone is 9.5's Clone.
func (m *model) clone(of *model, from, where, pages int) {
	was := maps.Clone(of.pages)
	for i := range pages {
		if b, there := was[from+i]; there {
			m.pages[where+i] = b
		} else {
			delete(m.pages, where+i)
		}
	}
	if end := min(pages*page, of.attr.Size-from*page); end > 0 {
		m.attr.Size = max(m.attr.Size, where*page+end)
	}
}

// bytes is those from at on.
func (m *model) bytes(at, size int) []byte {
	var out []byte
	for i := at; i < min(at+size, m.attr.Size); i++ {
		if b, there := m.pages[i/page]; there {
			out = append(out, b[i%page])
		} else {
			out = append(out, 0)
		}
	}
	return out
}

// next is 9.4's Next, but for errors.
func (m *model) next(at int, data bool) (int, error) {
	if at >= m.attr.Size {
		return 0, api.ErrMissing
	}
	if _, there := m.pages[at/page]; there == data {
		return at, nil
	}
	at -= at % page
	keys := slices.Sorted(maps.Keys(m.pages))
	if data {
		i, _ := slices.BinarySearch(keys, at/page)
		if i == len(keys) {
			return 0, api.ErrMissing
		}
		return keys[i] * page, nil
	}
	for m.pages[at/page] != "" {
		at += page
	}
	return min(at, m.attr.Size), nil
}

func (w *world) ok(err error) {
	w.t.Helper()
	ok(w.t, err)
}

func (w *world) place() int { return w.far[w.r.Intn(len(w.far))] + w.r.Intn(50*page) }

func (w *world) attr() api.Attr {
	return api.Attr{Kind: api.NodeKind(1 + w.r.Intn(3)), Mode: w.r.Intn(1 << 12), Uid: w.r.Int() & (1<<31 - 1), Gid: w.r.Intn(9), Project: w.r.Intn(9), Links: w.r.Intn(1 << 16), Fold: w.r.Intn(2) == 0, Parent: w.r.Uint64() >> 2, Turn: w.r.Uint64() >> 2}
}

// some is bytes, of those that can be made short and of others.
func (w *world) some() []byte {
	size := 1 + w.r.Intn([]int{10, 2 * page, 20 * page}[w.r.Intn(3)])
	b := make([]byte, size)
	switch w.r.Intn(3) {
	case 0:
		w.r.Read(b)
	case 1:
		for i := range b {
			b[i] = byte(i / 40)
		}
	}
	return b
}

// one is one of a table's nodes.
func (w *world) one(a *twin) (uint64, *model) {
	l := slices.Sorted(maps.Keys(a.want))
	if len(l) == 0 {
		return 0, nil
	}
	n := l[w.r.Intn(len(l))]
	return n, a.want[n]
}

// change does something with a table and its model.
func (w *world) change(a *twin) {
	n, m := w.one(a)
	if m == nil || w.r.Intn(20) == 0 {
		b := w.attr()
		got, err := a.x.Make(b)
		a.last++
		if w.ok(err); got != a.last {
			w.t.Fatalf("node %d, wanted %d", got, a.last)
		}
		a.want[got] = &model{b, map[int]string{}, map[string]string{}}
		return
	}
	defer func() { m.attr.Pages = len(m.pages) }()
	switch w.r.Intn(12) {
	case 0, 1, 2, 3:
		at, b := w.place(), w.some()
		w.ok(a.x.Write(n, at, b))
		m.write(at, b)
	case 4:
		size := w.place()
		if w.r.Intn(2) == 0 {
			size -= size % page
		}
		w.ok(a.x.Cut(n, size))
		m.cut(size)
	case 5, 6:
		at, size := w.place(), w.r.Intn(20*page)
		if w.r.Intn(2) == 0 {
			at -= at % page
			size -= size % page
		}
		w.ok(a.x.Punch(n, at, size))
		m.punch(at, size)
	case 7, 8:
		o, of := w.one(a)
		from, where, pages := w.place()/page, w.place()/page, w.r.Intn(40)
		before := w.p.Use().Used
		w.ok(a.x.Clone(o, from, n, where, pages))
		if more := w.p.Use().Used - before; more > 30+pages {
			w.t.Fatalf("a clone of %d pages takes %d rows", pages, more)
		}
		m.clone(of, from, where, pages)
	case 9:
		w.lay(a, n, m)
	case 10:
		w.extra(a, n, m)
	case 11:
		if w.r.Intn(3) > 0 {
			b := w.attr()
			w.ok(a.x.SetAttr(n, b))
			b.Size = m.attr.Size
			m.attr = b
			return
		}
		w.ok(a.x.Free(n))
		delete(a.want, n)
	}
}

// lay lays pages over others, so that nothing of what Attr tells is wrong then.
func (w *world) lay(a *twin, n uint64, m *model) {
	for k := range w.r.Intn(50) {
		k += w.far[w.r.Intn(len(w.far))] / page
		var b []byte
		for len(b) < 16*page && len(m.pages[k+len(b)/page]) > 0 && (k+len(b)/page+1)*page <= m.attr.Size {
			b = append(b, noise(w.r.Int63(), page)...)
		}
		if len(b) == 0 {
			continue
		}
		w.ok(a.x.Lay(n, k, b))
		for i := 0; i < len(b); i += page {
			m.pages[k+i/page] = string(b[i : i+page])
		}
		return
	}
}

func (w *world) extra(a *twin, n uint64, m *model) {
	name := fmt.Sprint("name", w.r.Intn(20))
	_, there := m.extras[name]
	val := fmt.Sprint(w.r.Int())
	switch {
	case w.r.Intn(3) == 0 && !there:
		is(w.t, a.x.DelExtra(n, name), api.ErrMissing)
	case w.r.Intn(3) == 0:
		w.ok(cmp.Or(a.x.SetExtra(n, name, nil), a.x.DelExtra(n, name)))
		delete(m.extras, name)
	case !there && len(m.extras) == api.MaxAttrs:
		is(w.t, a.x.SetExtra(n, name, nil), api.ErrMany)
	default:
		w.ok(a.x.SetExtra(n, name, []byte(val)))
		m.extras[name] = val
	}
}

// looks fails if a node is not what it should be.
func (w *world) looks(a *twin, n uint64, m *model) {
	w.t.Helper()
	got, err := a.x.Attr(n)
	if w.ok(err); got != m.attr {
		w.t.Fatalf("node %d is %+v, wanted %+v", n, got, m.attr)
	}
	for range 3 {
		at, size := w.place(), w.r.Intn(50*page)
		b, err := a.x.Read(n, at, size)
		if w.ok(err); !bytes.Equal(b, m.bytes(at, size)) {
			w.t.Fatalf("node %d: other bytes from %d on", n, at)
		}
		for _, data := range []bool{true, false} {
			next, err := a.x.Next(n, at, data)
			want, wantErr := m.next(at, data)
			if next != want || err != wantErr {
				w.t.Fatalf("Next(%d, %d, %v) is %d, %v, wanted %d, %v", n, at, data, next, err, want, wantErr)
			}
		}
	}
	names, err := a.x.Extras(n)
	if w.ok(err); !slices.Equal(names, slices.Sorted(maps.Keys(m.extras))) {
		w.t.Fatalf("node %d has the names %q", n, names)
	}
	for _, name := range names {
		if v, err := a.x.Extra(n, name); err != nil || string(v) != m.extras[name] {
			w.t.Fatalf("node %d: %q is %q, %v", n, name, v, err)
		}
	}
}

func (w *world) looksAll() {
	w.t.Helper()
	for _, a := range w.twins {
		l, err := nodes(a.x)
		if w.ok(err); !slices.Equal(l, slices.Sorted(maps.Keys(a.want))) {
			w.t.Fatalf("the nodes are %v", l)
		}
		for _, n := range l {
			w.looks(a, n, a.want[n])
		}
	}
}

// differ fails if Pages does not tell what is not the same in two tables.
func (w *world) differ(a, b *twin) {
	w.t.Helper()
	var want []api.Page
	all := map[api.Page]int{}
	for n, m := range a.want {
		for k := range m.pages {
			all[api.Page{Node: n, Page: k}]++
		}
	}
	for n, m := range b.want {
		for k := range m.pages {
			all[api.Page{Node: n, Page: k}]++
		}
	}
	for p, count := range all {
		if count == 1 || a.want[p.Node].pages[p.Page] != b.want[p.Node].pages[p.Page] {
			want = append(want, p)
		}
	}
	slices.SortFunc(want, func(x, y api.Page) int { return cmp.Or(cmp.Compare(x.Node, y.Node), x.Page-y.Page) })
	tells(w.t, a.x, b.x, want...)
}

// reopen commits, and takes all up again.
func (w *world) reopen() {
	w.ok(w.p.Commit(nil))
	var roots []api.Ptr
	for _, a := range w.twins {
		roots = append(roots, a.x.Root())
	}
	if w.shape.Level > 0 {
		w.l[w.r.Intn(len(w.l))].Spoil(100+w.r.Intn(2000), 99, 1)
	}
	p, err := pool.Open(w.l, w.shape)
	w.ok(err)
	w.p = p
	for i, a := range w.twins {
		a.x = On(tree.Load(p, roots[i]))
	}
	_, err = p.Scrub()
	w.ok(err)
}

func (w *world) step() {
	i := w.r.Intn(len(w.twins))
	a := w.twins[i]
	switch k := w.r.Intn(100); {
	case k == 0 && len(w.twins) < 4:
		w.twins = append(w.twins, a.copied(snapped(w.t, a.x)))
	case k == 1 && len(w.twins) > 1:
		w.ok(a.x.Map.Free())
		w.twins = slices.Delete(w.twins, i, i+1)
	case k == 2:
		w.differ(a, w.twins[w.r.Intn(len(w.twins))])
	case k == 3 && w.r.Intn(4) == 0:
		w.reopen()
	case k < 8: // all of it is undone
		c := a.copied(a.x)
		is(w.t, a.x.Try(func() error {
			for range 1 + w.r.Intn(5) {
				w.change(c)
			}
			return errUndo
		}), errUndo)
	default:
		w.change(a)
		if n, m := w.one(a); m != nil && w.r.Intn(3) == 0 {
			w.looks(a, n, m)
		}
	}
}

// TestModel: tables are what they should be, and when all nodes are freed, and then the maps, no row is in use.
func TestModel(t *testing.T) {
	for seed := range int64(30) {
		w := newWorld(t, seed)
		for range 400 {
			w.step()
		}
		w.looksAll()
		for _, a := range w.twins {
			for _, n := range slices.Collect(maps.Keys(a.want)) {
				w.ok(a.x.Free(n))
				delete(a.want, n)
			}
			if l, err := nodes(a.x); err != nil || len(l) > 0 {
				t.Fatalf("%v, %v", l, err)
			}
		}
		if left := w.p.Use().Used; left > len(w.twins) {
			t.Fatalf("%d rows are in use by tables without nodes", left)
		}
		for _, a := range w.twins {
			w.ok(a.x.Map.Free())
		}
		if left := w.p.Use().Used; left != 0 {
			t.Fatalf("%d rows are in use by nothing", left)
		}
	}
}
