package dir

import (
	"maps"
	"math"
	"math/rand"
	"slices"
	"testing"

	"bedrock/api"
	"bedrock/pool"
	"bedrock/tree"
)

// place is a one name in a directory.
type place struct {
	d    uint64
	name string
}

// twin is a map with directories, and what they should be.
type twin struct {
	m    *tree.Map
	want map[place]api.Entry
}

// world is a pool with several such maps.
type world struct {
	t     *testing.T
	r     *rand.Rand
	shape api.Shape
	l     []*api.Disk
	p     *pool.Pool
	twins []*twin
}

// The directories, of which those with an odd number have fold.
var numbers = []uint64{0, 1, 2, 3, 255, 256, 1 << 40, 1<<62 - 1, math.MaxUint64 - 1, math.MaxUint64}

func newWorld(t *testing.T, seed int64) *world {
	r := rand.New(rand.NewSource(seed))
	w := &world{t: t, r: r, shape: shapes[r.Intn(len(shapes))]}
	w.p, w.l = made(t, w.shape, 20000)
	w.twins = []*twin{{tree.New(w.p), map[place]api.Entry{}}}
	return w
}

// name is a Good name, out of not too many.
func (w *world) name() string {
	pieces := []string{"a", "A", "b", "Z", "ä", "Ä", "ς", "Σ", "σ", "Я", "я", "Ѐ", "×", "\xff", "\x01", ".", "€", " long name "}
	for {
		s := ""
		for range 1 + w.r.Intn(4) {
			s += pieces[w.r.Intn(len(pieces))]
		}
		if s != "." && s != ".." && len(s) <= 40 {
			return s
		}
	}
}

// at is where a name is, by 10.3.
func at(d uint64, name string) place {
	if d%2 == 1 {
		name = Fold(name)
	}
	return place{d, name}
}

func (w *world) change(a *twin) {
	d, name := numbers[w.r.Intn(len(numbers))], w.name()
	k := at(d, name)
	_, there := a.want[k]
	if w.r.Intn(3) == 0 {
		err := Leave(a.m, d, d%2 == 1, name)
		if !there {
			is(w.t, err, api.ErrMissing)
			return
		}
		ok(w.t, err)
		delete(a.want, k)
		return
	}
	e := api.Entry{Name: name, Node: 1 + w.r.Uint64()>>(2+w.r.Intn(60))%(1<<62-1), Kind: api.File + api.NodeKind(w.r.Intn(3))}
	err := Enter(a.m, d, d%2 == 1, e)
	if there {
		is(w.t, err, api.ErrExists)
		return
	}
	ok(w.t, err)
	a.want[k] = e
}

// looks fails if a name in a directory, or what is behind it, is not what it should be.
func (w *world) looks(a *twin, d uint64, after string, most int) {
	w.t.Helper()
	k := at(d, after)
	if after != "" {
		e, err := Look(a.m, d, d%2 == 1, after)
		if want, there := a.want[k]; e != want || there != (err == nil) {
			w.t.Fatalf("Look(%d, %q) is %v, %v, wanted %v", d, after, e, err, want)
		} else if !there {
			is(w.t, err, api.ErrMissing)
		}
	}
	var names []string
	for p := range a.want {
		if p.d == d && p.name > k.name {
			names = append(names, p.name)
		}
	}
	slices.Sort(names)
	var want []api.Entry
	for _, name := range names[:min(most, len(names))] {
		want = append(want, a.want[place{d, name}])
	}
	got, err := List(a.m, d, d%2 == 1, after, most)
	if ok(w.t, err); !slices.Equal(got, want) {
		w.t.Fatalf("List(%d, %q, %d) is %v, wanted %v", d, after, most, got, want)
	}
}

func (w *world) looksAll() {
	w.t.Helper()
	for _, a := range w.twins {
		for _, d := range numbers {
			w.looks(a, d, "", math.MaxInt)
		}
	}
}

// reopen commits, and takes all up again.
func (w *world) reopen() {
	ok(w.t, w.p.Commit(nil))
	p, err := pool.Open(w.l, w.shape)
	ok(w.t, err)
	for _, a := range w.twins {
		a.m = tree.Load(p, a.m.Root())
	}
	w.p = p
}

func (w *world) step() {
	i := w.r.Intn(len(w.twins))
	a := w.twins[i]
	switch k := w.r.Intn(100); {
	case k == 0 && len(w.twins) < 4:
		s, err := a.m.Snap()
		ok(w.t, err)
		w.twins = append(w.twins, &twin{s, maps.Clone(a.want)})
	case k == 1 && len(w.twins) > 1:
		ok(w.t, a.m.Free())
		w.twins = slices.Delete(w.twins, i, i+1)
		return
	case k == 2 && w.r.Intn(4) == 0:
		w.reopen()
	case k < 8: // all of it is undone
		c := &twin{a.m, maps.Clone(a.want)}
		is(w.t, a.m.Try(func() error {
			for range 1 + w.r.Intn(5) {
				w.change(c)
			}
			return errUndo
		}), errUndo)
	default:
		w.change(a)
	}
	w.looks(a, numbers[w.r.Intn(len(numbers))], w.name(), w.r.Intn(5))
}

// TestModel: directories tell what they should, in all maps, and when all entries were left no row is in use.
func TestModel(t *testing.T) {
	for seed := range int64(25) {
		w := newWorld(t, seed)
		for range 500 {
			w.step()
		}
		w.looksAll()
		for _, a := range w.twins {
			for k := range a.want {
				ok(t, Leave(a.m, k.d, k.d%2 == 1, k.name))
			}
			if a.m.Root() != (api.Ptr{}) {
				t.Fatal("something is left in a map")
			}
		}
		if left := w.p.Use().Used; left != 0 {
			t.Fatalf("%d rows are in use by nothing", left)
		}
	}
}
