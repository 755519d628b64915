package fs

import (
	"bytes"
	"errors"
	"fmt"
	"math"
	"math/rand"
	"slices"
	"strings"
	"testing"

	"bedrock/api"
	"bedrock/pool"
	"bedrock/tree"
)

var errUndo = errors.New("undo")

var shapes = []api.Shape{{Data: 1}, {Data: 2, Level: 1}, {Data: 3, Level: 2}}

// twin is a tree, and what it should be.
type twin struct {
	f *FS
	m *model
}

// world is a pool with several trees; the first one changes.
type world struct {
	t     *testing.T
	r     *rand.Rand
	shape api.Shape
	l     []*api.Disk
	p     *pool.Pool
	twin
	old  []twin // snapshots
	rows int    // in use when the tree was made
	errs map[api.Errno]int
	good int
}

func newWorld(t *testing.T, seed int64) *world {
	r := rand.New(rand.NewSource(seed))
	w := &world{t: t, r: r, shape: shapes[r.Intn(len(shapes))], errs: map[api.Errno]int{}}
	w.p, w.l = made(t, w.shape, 60000)
	fold := r.Intn(2) == 0
	f, err := Make(tree.New(w.p), fold)
	ok(t, err)
	w.twin, w.rows = twin{f, newModel(fold)}, w.p.Use().Used
	return w
}

// pick is one of a list.
func pick[A any](r *rand.Rand, l ...A) A { return l[r.Intn(len(l))] }

func (w *world) cred() api.Cred {
	return pick(w.r, api.Cred{}, api.Cred{}, api.Cred{}, api.Cred{Gids: []int{3}}, api.Cred{Uid: 1, Gids: []int{1, 2}}, api.Cred{Uid: 2, Gids: []int{2}}, api.Cred{Uid: 3})
}

// node is the number of a node, most often of one that is there.
func (w *world) node() uint64 {
	if w.r.Intn(25) == 0 {
		return pick(w.r, 0, w.m.last+1, w.r.Uint64())
	}
	return 1 + uint64(w.r.Intn(int(w.m.last)))
}

// of is a node of that kind, most often.
func (w *world) of(kind api.NodeKind) uint64 {
	for range 30 {
		n := w.node()
		if k := w.m.nodes[n]; k != nil && k.Kind == kind {
			return n
		}
	}
	return w.node()
}

func (w *world) name() string {
	return pick(w.r, "a", "A", "b", "B", "c", "d", "e", "f", "ä", "Ä", pick(w.r, "", ".", "..", "a/b", strings.Repeat("n", 41), strings.Repeat("N", 40)))
}

// there is a directory and a name in it, which it has most often.
func (w *world) there() (uint64, string) {
	d := w.of(api.Dir)
	for range 5 {
		if k := w.m.nodes[d]; k != nil && len(k.names) > 0 {
			break
		}
		d = w.of(api.Dir)
	}
	k := w.m.nodes[d]
	if k == nil || len(k.names) == 0 || w.r.Intn(5) == 0 {
		return d, w.name()
	}
	l, _ := w.m.list(api.Cred{}, d, "", math.MaxInt)
	if len(l) == 0 {
		return d, w.name()
	}
	s := pick(w.r, l...).Name
	if w.r.Intn(3) == 0 {
		s = pick(w.r, strings.ToUpper(s), strings.ToLower(s))
	}
	return d, s
}

func (w *world) path() string {
	var l []string
	for range w.r.Intn(5) {
		_, s := w.there()
		l = append(l, pick(w.r, s, s, s, s, s, "..", "..", ".", ""))
	}
	s := strings.Join(l, "/")
	switch w.r.Intn(20) {
	case 0:
		return strings.Repeat(s+"/", 200)
	case 1, 2:
		return s + "/"
	case 3, 4, 5:
		return "/" + s
	}
	return s
}

func (w *world) mode() int {
	return pick(w.r, 0, 0o777, 0o777, 0o1777, 0o2777, 0o6777, 0o750, 0o7777, w.r.Intn(0o10000), w.r.Intn(0o10000), pick(w.r, -1, 0o10000))
}

func (w *world) place() int {
	return pick(w.r, w.r.Intn(10), w.r.Intn(2000), w.r.Intn(6000), 256*w.r.Intn(9), pick(w.r, -1, math.MinInt, math.MaxInt, 1<<40, 1<<40-1, 1<<41))
}

func (w *world) size() int {
	return pick(w.r, w.r.Intn(3), w.r.Intn(300), w.r.Intn(3000), 256*w.r.Intn(6), pick(w.r, -1, math.MaxInt, 65536, 65537))
}

func (w *world) bytes() []byte {
	b := bytes.Repeat([]byte{byte(w.r.Intn(256))}, pick(w.r, 0, 1, 1, w.r.Intn(300), w.r.Intn(3000)))
	if w.r.Intn(3) == 0 {
		w.r.Read(b)
	}
	if w.r.Intn(60) == 0 {
		b = make([]byte, 65537)
	}
	return b
}

func (w *world) extra() string {
	return pick(w.r, "x", "y", fmt.Sprint("z", w.r.Intn(20)), strings.Repeat("e", 60), pick(w.r, "", strings.Repeat("e", 61)))
}

// says fails, if both do not tell the same.
func (w *world) says(call string, got any, err error, want any, werr error) {
	w.t.Helper()
	if e := api.Tell(err); e == -1 || e != api.Tell(werr) || fmt.Sprint(got) != fmt.Sprint(want) {
		w.t.Fatalf("%s is %v, %v, wanted %v, %v", call, got, err, want, werr)
	}
	if werr == nil {
		w.good++
	}
	w.errs[api.Tell(werr)]++
	if w.f.Turn() != w.m.turn || w.f.Held() != len(w.m.held) {
		w.t.Fatalf("behind %s: turn %d, %d held, wanted %d, %d", call, w.f.Turn(), w.f.Held(), w.m.turn, len(w.m.held))
	}
}

// tells is says, of a call that tells nothing else.
func (w *world) tells(call string, err, want error) {
	w.t.Helper()
	w.says(call, nil, err, nil, want)
}

// names is a call that changes names.
func (w *world) names() {
	c := w.cred()
	switch w.r.Intn(8) {
	case 0, 1, 2:
		d, name := w.of(api.Dir), w.name()
		if w.r.Intn(9) == 0 {
			d = w.node()
		}
		what := api.New{Kind: pick(w.r, api.Dir, api.Dir, api.File, api.Link), Mode: w.mode()}
		if what.Kind == api.Link {
			what.Target = w.path()
		}
		if w.r.Intn(20) == 0 {
			what = api.New{Kind: api.NodeKind(w.r.Intn(6) - 1), Mode: 1, Target: pick(w.r, "", "t", strings.Repeat("t", 400), strings.Repeat("t", 401))}
		}
		n, err := w.f.Create(c, d, name, what)
		want, werr := w.m.create(c, d, name, what)
		w.says(fmt.Sprintf("Create(%v, %d, %q, %v)", c, d, name, what), n, err, want, werr)
	case 3:
		n, d, name := w.of(api.File), w.of(api.Dir), w.name()
		if w.r.Intn(4) == 0 {
			n, d = w.node(), w.node()
		}
		w.tells(fmt.Sprintf("Link(%v, %d, %d, %q)", c, n, d, name), w.f.Link(c, n, d, name), w.m.link(c, n, d, name))
	case 4:
		d, name := w.there()
		w.tells(fmt.Sprintf("Remove(%v, %d, %q)", c, d, name), w.f.Remove(c, d, name), w.m.remove(c, d, name))
	default:
		d, name := w.there()
		to, as := w.there()
		switch w.r.Intn(6) {
		case 0:
			to, as = w.of(api.Dir), w.name()
		case 1:
			to = d
		case 2:
			to, as = d, pick(w.r, name, strings.ToUpper(name))
		}
		how := pick(w.r, 0, 0, 1, 2, 2, w.r.Intn(6)-1)
		w.tells(fmt.Sprintf("Rename(%v, %d, %q, %d, %q, %d)", c, d, name, to, as, how), w.f.Rename(c, d, name, to, as, how), w.m.rename(c, d, name, to, as, how))
	}
}

// contents is a call that changes bytes, or what else a node has.
func (w *world) contents() {
	c, n := w.cred(), w.of(api.File)
	if w.r.Intn(8) == 0 {
		n = w.node()
	}
	switch w.r.Intn(9) {
	case 0, 1:
		at, b := w.place(), w.bytes()
		w.tells(fmt.Sprintf("Write(%v, %d, %d, %d bytes)", c, n, at, len(b)), w.f.Write(c, n, at, b), w.m.write(c, n, at, b))
	case 2:
		size := pick(w.r, w.place(), w.size())
		w.tells(fmt.Sprintf("Cut(%v, %d, %d)", c, n, size), w.f.Cut(c, n, size), w.m.cut(c, n, size))
	case 3:
		at, size := w.place(), w.size()
		w.tells(fmt.Sprintf("Punch(%v, %d, %d, %d)", c, n, at, size), w.f.Punch(c, n, at, size), w.m.punch(c, n, at, size))
	case 4:
		to := pick(w.r, n, w.of(api.File), w.of(api.File), w.node())
		first, where, pages := w.r.Intn(12), w.r.Intn(20), w.r.Intn(12)
		if w.r.Intn(20) == 0 {
			first, where, pages = w.place(), w.place(), pick(w.r, -1, 64, 65)
		}
		w.tells(fmt.Sprintf("Clone(%v, %d, %d, %d, %d, %d)", c, n, first, to, where, pages), w.f.Clone(c, n, first, to, where, pages), w.m.cloned(c, n, first, to, where, pages))
	case 5, 6:
		how := api.Set{What: w.r.Intn(16), Mode: w.mode(), Uid: w.r.Intn(4), Gid: w.r.Intn(4), Project: w.r.Intn(4)}
		if w.r.Intn(9) == 0 {
			how = api.Set{What: w.r.Intn(20) - 2, Mode: w.mode(), Uid: pick(w.r, 1, -1, 1<<31), Gid: pick(w.r, 1, -1, 1<<31), Project: pick(w.r, 1, -1, 1<<31)}
		}
		n := pick(w.r, n, w.node())
		w.tells(fmt.Sprintf("Change(%v, %d, %v)", c, n, how), w.f.Change(c, n, how), w.m.change(c, n, how))
	case 7:
		n, name, val := w.node(), w.extra(), w.bytes()
		w.tells(fmt.Sprintf("SetExtra(%v, %d, %q, %d bytes)", c, n, name, len(val)), w.f.SetExtra(c, n, name, val), w.m.setExtra(c, n, name, val))
	case 8:
		n, name := w.node(), w.extra()
		w.tells(fmt.Sprintf("DelExtra(%v, %d, %q)", c, n, name), w.f.DelExtra(c, n, name), w.m.delExtra(c, n, name))
	}
}

// keeps is a call that is no turn.
func (w *world) keeps() {
	n := w.node()
	switch w.r.Intn(5) {
	case 0, 1:
		w.tells(fmt.Sprintf("Hold(%d)", n), w.f.Hold(n), w.m.hold(n))
	case 2:
		for k := range w.m.held {
			n = pick(w.r, max(n, k), min(n, k))
		}
		w.tells(fmt.Sprintf("Release(%d)", n), w.f.Release(n), w.m.release(n))
	case 3:
		w.m.reap()
		w.tells("Reap", w.f.Reap(), nil)
	case 4:
		kind, id, q := w.r.Intn(4), w.r.Intn(6)-1, api.Quota{Nodes: w.r.Intn(12) - 1, Pages: w.r.Intn(40) - 1}
		if w.r.Intn(2) == 0 {
			q = api.Quota{}
		}
		w.tells(fmt.Sprintf("SetLimit(%d, %d, %v)", kind, id, q), w.f.SetLimit(kind, id, q), w.m.setLimit(kind, id, q))
	}
}

func (w *world) change() {
	switch w.r.Intn(10) {
	case 0, 1, 2, 3, 4:
		w.names()
	case 5, 6, 7, 8:
		w.contents()
	default:
		w.keeps()
	}
}

// asks is a call of a tree that changes nothing.
func (w *world) asks(a twin) {
	c, n := w.cred(), w.node()
	switch w.r.Intn(5) {
	case 0, 1:
		from, path, follow := pick(w.r, w.of(api.Dir), n), w.path(), w.r.Intn(2) == 0
		got, err := a.f.Walk(c, from, path, follow)
		want, werr := a.m.walk(c, from, path, follow)
		w.says(fmt.Sprintf("Walk(%v, %d, %q, %v)", c, from, path, follow), got, err, want, werr)
	case 2:
		want := w.r.Intn(12) - 2
		w.tells(fmt.Sprintf("May(%v, %d, %d)", c, n, want), a.f.May(c, n, want), a.m.may(c, n, want))
	case 3:
		d, after, most := w.of(api.Dir), pick(w.r, "", w.name()), w.r.Intn(9)-1
		got, err := a.f.List(c, d, after, most)
		want, werr := a.m.list(c, d, after, most)
		w.says(fmt.Sprintf("List(%v, %d, %q, %d)", c, d, after, most), got, err, want, werr)
	case 4:
		n := pick(w.r, n, w.of(api.File))
		at, size := w.place(), w.size()
		got, err := a.f.Read(c, n, at, size)
		want, werr := a.m.read(c, n, at, size)
		w.says(fmt.Sprintf("Read(%v, %d, %d, %d)", c, n, at, size), got, err, want, werr)
	}
}

// sees fails, if a tree is not what it should be.
func (w *world) sees(a twin) {
	w.t.Helper()
	if a.f.Turn() != a.m.turn {
		w.t.Fatalf("turn %d, wanted %d", a.f.Turn(), a.m.turn)
	}
	for n := range a.m.last + 2 {
		w.seesNode(a, n)
	}
	usage := a.m.usage()
	for kind := range 4 {
		for id := -1; id < 6; id++ {
			var werr error
			if !goodOwner(kind, id) {
				werr = api.ErrArg
			}
			got, err := a.f.Usage(kind, id)
			want := usage[owner{kind, id}]
			limit, err2 := a.f.Limit(kind, id)
			if !errors.Is(err, werr) || !errors.Is(err2, werr) || got != want || limit != a.m.limits[owner{kind, id}] {
				w.t.Fatalf("%d %d: usage %v, %v, limit %v, %v; wanted %v, %v", kind, id, got, err, limit, err2, want, a.m.limits[owner{kind, id}])
			}
		}
	}
}

func (w *world) seesNode(a twin, n uint64) {
	w.t.Helper()
	got, err := a.f.Stat(n)
	k := a.m.nodes[n]
	if k == nil {
		if _, err2 := a.f.Target(n); !errors.Is(err, api.ErrNode) || !errors.Is(err2, api.ErrNode) || got != (api.Attr{}) {
			w.t.Fatalf("%d is %v, %v", n, got, err)
		}
		return
	}
	if ok(w.t, err); got != k.attr() {
		w.t.Fatalf("%d is %+v, wanted %+v", n, got, k.attr())
	}
	w.twin, a = a, w.twin // so that says looks at the right one
	defer func() { w.twin = a }()
	target, err := w.f.Target(n)
	if werr := map[bool]error{true: nil, false: api.ErrKind}[k.Kind == api.Link]; !errors.Is(err, werr) || target != k.target {
		w.t.Fatalf("target of %d: %q, %v, wanted %q", n, target, err, k.target)
	}
	l, err := w.f.List(api.Cred{}, n, "", math.MaxInt)
	wl, werr := w.m.list(api.Cred{}, n, "", math.MaxInt)
	w.says(fmt.Sprint("List of ", n), l, err, wl, werr)
	b, err := w.f.Read(api.Cred{}, n, 0, 20000)
	wb, werr := w.m.read(api.Cred{}, n, 0, 20000)
	w.says(fmt.Sprint("Read of ", n), b, err, wb, werr)
	s, err := w.f.Extras(api.Cred{}, n)
	ws, werr := w.m.extras(api.Cred{}, n)
	w.says(fmt.Sprint("Extras of ", n), s, err, ws, werr)
	for _, name := range ws {
		v, err := w.f.Extra(api.Cred{}, n, name)
		wv, werr := w.m.extra(api.Cred{}, n, name)
		w.says(fmt.Sprint("Extra of ", n, name), v, err, wv, werr)
	}
}

// reopen commits, and takes all up again.
func (w *world) reopen() {
	ok(w.t, w.p.Commit(nil))
	p, err := pool.Open(w.l, w.shape)
	ok(w.t, err)
	w.p = p
	w.f = On(tree.Load(p, w.f.Map().Root()))
	clear(w.m.held)
	for i := range w.old {
		w.old[i].f = Fixed(tree.Load(p, w.old[i].f.Map().Root()))
		clear(w.old[i].m.held)
	}
}

// spoil turns bits, and loses sectors, on as many disks as may be lost: always on the same ones.
func (w *world) spoil() {
	for _, d := range w.l[:w.shape.Level] {
		for range 200 {
			at := w.r.Intn(2000)
			if w.r.Intn(2) == 0 {
				d.Lose(at)
			} else {
				d.Spoil(at, w.r.Intn(1024), w.r.Uint32())
			}
		}
	}
}

func (w *world) step() {
	switch k := w.r.Intn(200); {
	case k == 0 && len(w.old) < 3:
		s, err := w.f.Map().Snap()
		ok(w.t, err)
		m := w.m.clone()
		clear(m.held)
		w.old = append(w.old, twin{Fixed(s), m})
	case k == 1 && len(w.old) > 0:
		i := w.r.Intn(len(w.old))
		w.sees(w.old[i])
		ok(w.t, w.old[i].f.Map().Free())
		w.old = slices.Delete(w.old, i, i+1)
	case k == 2 && w.r.Intn(4) == 0:
		w.reopen()
	case k == 3:
		w.sees(w.twin)
	case k == 4:
		w.spoil()
	case k < 12: // all of it is undone
		was := w.m.clone()
		is(w.t, w.f.Map().Try(func() error {
			for range 1 + w.r.Intn(5) {
				w.change()
			}
			return errUndo
		}), errUndo)
		w.m = was
	case k < 60:
		w.asks(w.twin)
	default:
		w.change()
	}
}

// TestModel: a tree tells what it should, whatever is spoilt on so many disks as may be lost, and so do its snapshots; and when all is removed next to nothing is in use.
func TestModel(t *testing.T) {
	errs, good := map[api.Errno]int{}, 0
	for seed := range int64(24) {
		w := newWorld(t, seed)
		for range 1500 {
			w.step()
		}
		w.sees(w.twin)
		for _, a := range w.old {
			w.sees(a)
			ok(t, a.f.Map().Free())
		}
		w.clear()
		for e, n := range w.errs {
			errs[e] += n
		}
		good += w.good
	}
	t.Log(good, errs)
}

// clear removes all, and looks at what is left.
func (w *world) clear() {
	w.t.Helper()
	for who := range w.m.limits {
		ok(w.t, w.f.SetLimit(who.kind, who.id, api.Quota{}))
	}
	for n, k := range w.m.held {
		for range k {
			ok(w.t, w.f.Release(n))
		}
	}
	w.strip(1)
	ok(w.t, w.f.Reap())
	l, err := w.f.Extras(api.Cred{}, 1)
	ok(w.t, err)
	for _, name := range l {
		ok(w.t, w.f.DelExtra(api.Cred{}, 1, name))
	}
	ok(w.t, w.f.Change(api.Cred{}, 1, api.Set{What: 10}))
	for n, err := range w.f.table.Nodes() {
		if ok(w.t, err); n != 1 {
			w.t.Fatalf("%d is left", n)
		}
	}
	if now := w.p.Use().Used; now > w.rows+4 {
		w.t.Fatalf("%d rows are in use, were %d", now, w.rows)
	}
	ok(w.t, w.f.Map().Free())
	if now := w.p.Use().Used; now != 0 {
		w.t.Fatalf("%d rows are in use by nothing", now)
	}
}

// strip removes all that is in a directory.
func (w *world) strip(d uint64) {
	w.t.Helper()
	l, err := w.f.List(api.Cred{}, d, "", math.MaxInt)
	ok(w.t, err)
	for _, e := range l {
		if e.Kind == api.Dir {
			w.strip(e.Node)
		}
		ok(w.t, w.f.Remove(api.Cred{}, d, e.Name))
	}
}
