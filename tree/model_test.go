package tree

import (
	"fmt"
	"maps"
	"math/rand"
	"reflect"
	"slices"
	"strings"
	"testing"

	"bedrock/api"
	"bedrock/pool"
)

// held is what a model has under a key.
type held struct {
	val string
	x   api.Ptr
}

// twin is a Map and its model.
type twin struct {
	m    *Map
	want map[string]held
}

// world is a pool with several maps.
type world struct {
	t     *testing.T
	r     *rand.Rand
	shape api.Shape
	l     []*api.Disk
	p     *pool.Pool
	twins []*twin
	mine  map[api.Ptr]int // the caller's uses of blocks
	keys  int             // so many keys there are
	long  int             // and values that are so long
}

func newWorld(t *testing.T, seed int64) *world {
	r := rand.New(rand.NewSource(seed))
	w := &world{t: t, r: r, shape: shapes[r.Intn(len(shapes))], mine: map[api.Ptr]int{}}
	w.p, w.l = made(t, w.shape, 60000)
	w.keys = []int{10, 100, 1000}[r.Intn(3)]
	w.long = []int{1, 30, api.MaxVal + 1}[r.Intn(3)]
	w.twins = []*twin{{New(w.p), map[string]held{}}}
	return w
}

func (w *world) key() string {
	k := fmt.Sprint(w.r.Intn(w.keys))
	if w.keys == 1000 {
		k = strings.Repeat(k[:1], 10*len(k)) + k
	}
	return k
}

func (w *world) val() string { return strings.Repeat("v", w.r.Intn(w.long)) + fmt.Sprint(w.r.Intn(3)) }

func (w *world) pick() *twin { return w.twins[w.r.Intn(len(w.twins))] }

// change does one thing with one of the maps.
func (w *world) change() {
	a := w.pick()
	key := w.key()
	switch k := w.r.Intn(10); {
	case k < 4:
		v := w.val()
		if len(v) > api.MaxVal {
			is(w.t, a.m.Put([]byte(key), []byte(v)), api.ErrLong)
			return
		}
		put(w.t, a.m, key, v)
		a.want[key] = held{val: v}
	case k < 5:
		w.tie(a, key)
	default:
		err := a.m.Del([]byte(key))
		if _, in := a.want[key]; !in {
			is(w.t, err, api.ErrMissing)
			return
		}
		ok(w.t, err)
		delete(a.want, key)
	}
}

// tie ties a new block, or one that is tied somewhere, or one of the caller's.
func (w *world) tie(a *twin, key string) {
	x, _ := w.pick().some(w.r)
	if w.p.Uses(x) == 0 || w.r.Intn(2) == 0 {
		x = block(w.t, w.p, key)
	} else {
		ok(w.t, w.p.Share(x))
	}
	if w.r.Intn(4) == 0 {
		ok(w.t, w.p.Share(x))
		w.mine[x]++
	}
	ok(w.t, a.m.Tie([]byte(key), nil, x))
	a.want[key] = held{x: x}
}

// some is one of the blocks that are tied in a map.
func (a *twin) some(r *rand.Rand) (api.Ptr, bool) {
	l := slices.Sorted(maps.Keys(a.want))
	for range 3 {
		if len(l) == 0 {
			break
		}
		if h := a.want[l[r.Intn(len(l))]]; h.x != (api.Ptr{}) {
			return h.x, true
		}
	}
	return api.Ptr{}, false
}

// grow puts many, shrink deletes many, so that nodes are cut and joined.
func (w *world) grow() {
	a := w.pick()
	for range w.r.Intn(200) {
		key := w.key()
		v := w.val()[:1]
		put(w.t, a.m, key, v)
		a.want[key] = held{val: v}
	}
}

func (w *world) shrink() {
	a := w.pick()
	l := slices.Sorted(maps.Keys(a.want))
	if w.r.Intn(2) == 0 {
		w.r.Shuffle(len(l), func(i, j int) { l[i], l[j] = l[j], l[i] })
	}
	for _, key := range l[:w.r.Intn(len(l)+1)] {
		ok(w.t, a.m.Del([]byte(key)))
		delete(a.want, key)
	}
}

func (w *world) try(deep int) {
	was := append([]*twin(nil), w.twins...)
	wants := make([]map[string]held, len(was))
	for i, a := range was {
		wants[i] = maps.Clone(a.want)
	}
	mine := maps.Clone(w.mine)
	bad := w.r.Intn(2) > 0
	f := func() error {
		for range w.r.Intn(10) {
			w.step(deep + 1)
		}
		if bad {
			return api.ErrForm
		}
		return nil
	}
	var err error
	if w.r.Intn(4) == 0 {
		err = w.p.Try(f)
	} else {
		err = w.pick().m.Try(f)
	}
	if !bad {
		ok(w.t, err)
		return
	}
	is(w.t, err, api.ErrForm)
	for i, a := range was {
		a.want = wants[i]
	}
	w.twins, w.mine = was, mine
}

func (w *world) snap() {
	a := w.pick()
	w.twins = append(w.twins, &twin{snapped(w.t, a.m), maps.Clone(a.want)})
}

func (w *world) free() {
	i := w.r.Intn(len(w.twins))
	a := w.twins[i]
	ok(w.t, a.m.Free())
	a.want = map[string]held{}
	if len(w.twins) > 1 {
		w.twins = slices.Concat(w.twins[:i], w.twins[i+1:])
	}
}

// become gives a map another one's pairs.
func (w *world) become() {
	a, b := w.pick(), w.pick()
	ok(w.t, a.m.Become(b.m))
	a.want = maps.Clone(b.want)
}

// last makes all last, and takes it up again.
func (w *world) last() {
	ok(w.t, w.p.Commit(nil))
	if w.r.Intn(2) == 0 {
		return
	}
	for _, d := range w.l {
		d.Crash([]byte{byte(w.r.Intn(256))})
	}
	p, err := pool.Open(w.l, w.shape)
	ok(w.t, err)
	w.p = p
	for _, a := range w.twins {
		a.m = Load(p, a.m.Root())
	}
}

func (w *world) step(deep int) {
	switch k := w.r.Intn(20); {
	case k == 0 && len(w.twins) < 6:
		w.snap()
	case k == 1:
		w.free()
	case k == 2 && deep < 3:
		w.try(deep)
	case k == 3:
		w.grow()
	case k == 4:
		w.shrink()
	case k == 5 && deep == 0:
		w.last()
	case k == 6:
		w.become()
	default:
		w.change()
	}
}

// look holds all against the model.
func (w *world) look() {
	w.t.Helper()
	var l []*Map
	for _, a := range w.twins {
		l = append(l, a.m)
		var want []string
		for _, key := range slices.Sorted(maps.Keys(a.want)) {
			want = append(want, told([]byte(key), []byte(a.want[key].val), a.want[key].x))
		}
		tells(w.t, a.m, want...)
		if (a.m.Root() == api.Ptr{}) != (len(want) == 0) {
			w.t.Fatalf("%d pairs, and a root %+v", len(want), a.m.Root())
		}
		w.lookKey(a, w.key())
		w.lookRange(a, want)
	}
	audit(w.t, w.p, w.mine, l...)
	w.lookDiff(w.pick(), w.pick())
}

func (w *world) lookKey(a *twin, key string) {
	w.t.Helper()
	h, in := a.want[key]
	v, err := a.m.Get([]byte(key))
	x, other := a.m.Tied([]byte(key))
	if !in {
		is(w.t, err, api.ErrMissing)
		is(w.t, other, api.ErrMissing)
		return
	}
	ok(w.t, err)
	ok(w.t, other)
	if string(v) != h.val || x != h.x {
		w.t.Fatalf("%q: %q %+v, wanted %q %+v", key, v, x, h.val, h.x)
	}
}

func (w *world) lookRange(a *twin, all []string) {
	w.t.Helper()
	from, to := w.key(), w.key()
	var want []string
	for _, s := range all {
		if key, _, _ := strings.Cut(s, "="); key >= from && key < to {
			want = append(want, s)
		}
	}
	ranges(w.t, a.m, from, to, want...)
}

func (w *world) lookDiff(a, b *twin) {
	w.t.Helper()
	keys := map[string]int{}
	for k := range a.want {
		keys[k]++
	}
	for k := range b.want {
		keys[k]++
	}
	var want []string
	for _, k := range slices.Sorted(maps.Keys(keys)) {
		old, had := a.want[k]
		now, has := b.want[k]
		if had != has || old != now {
			want = append(want, fmt.Sprintf("%s:%s>%s %v %v", k, old.val, now.val, had, has))
		}
	}
	differs(w.t, a.m, b.m, want...)
}

// TestModel: maps are asked many things, and held against a plain model.
func TestModel(t *testing.T) {
	for seed := range 60 {
		w := newWorld(t, int64(seed))
		for i := range 150 {
			w.step(0)
			if i%3 == 0 {
				w.look()
			}
		}
		w.look()
		for len(w.twins) > 1 || len(w.twins[0].want) > 0 {
			w.free()
		}
		for x, n := range w.mine {
			for range n {
				ok(t, w.p.Drop(x))
			}
		}
		used(t, w.p, 0)
	}
}

// FuzzNode: whatever the bytes are: they are no node, or one that its own bytes tell just so.
func FuzzNode(f *testing.F) {
	f.Add([]byte(nil))
	f.Add([]byte{0})
	f.Add([]byte{0, 1, 1, 128, 'k', 'v', 68, 0, 0, 0})
	f.Add([]byte{1, 69, 0, 0, 0})
	f.Add([]byte{1, 69, 0, 0, 0, 0, 2, 'l', 'o', 68, 0, 0, 0, 2, 1, 'w', 69, 0, 0, 0})
	f.Fuzz(func(t *testing.T, b []byte) {
		p, m := begun(t)
		block(t, p, "68")
		block(t, p, "69")
		n, err := m.nodeOf(b)
		if err != nil {
			is(t, err, api.ErrSpoilt)
			return
		}
		again, err := m.nodeOf(n.bytes())
		if ok(t, err); !reflect.DeepEqual(again, n) || n.size() > len(b)+2 {
			t.Errorf("%x: %x", b, n.bytes())
		}
	})
}
