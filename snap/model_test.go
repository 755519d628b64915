package snap

import (
	"fmt"
	"maps"
	"math/rand"
	"slices"
	"testing"

	"bedrock/api"
	"bedrock/fs"
	"bedrock/node"
	"bedrock/tree"
)

// step is something done to a tree; the answer is the tree to go on with.
type step func(f *fs.FS) *fs.FS

// shade is a tree of a pool of its own, to which all is done that is done to a set's: so nothing is shared there.
type shade struct {
	*fs.FS
	fold  bool
	steps []step
}

func newShade(t *testing.T, fold bool, steps []step) *shade {
	t.Helper()
	p, _ := made(t, single, 1<<21)
	f, err := fs.Make(tree.New(p), fold)
	ok(t, err)
	x := &shade{FS: f, fold: fold}
	for _, s := range steps {
		x.do(s)
	}
	return x
}

func (x *shade) do(s step) {
	x.FS = s(x.FS)
	x.steps = append(x.steps, s)
}

// taken: nothing is held any more.
func taken(f *fs.FS) *fs.FS { return fs.On(f.Map()) }

// reaped: nothing is held any more, and what has no names is gone.
func reaped(f *fs.FS) *fs.FS {
	g := taken(f)
	if err := g.Reap(); err != nil {
		panic(err)
	}
	return g
}

// plan is what a set should be.
type plan struct {
	tree  *shade
	fs    *fs.FS // what Tree answered
	snaps []still
}

// still is what a snapshot should be.
type still struct {
	id    int
	name  string
	fold  bool
	steps []step
	told  string
}

// world is sets, and what they should be, now and behind the last commit.
type world struct {
	*testing.T
	r         *rand.Rand
	s         *Sets
	disks     []*api.Disk
	shape     api.Shape
	now, last map[string]*plan
	made      int
	kept      []kept
	wild      bool // many nodes are without names, and many clones are made
}

// kept is what At answered, of the snapshot of that number, and what it should tell as long as that is there.
type kept struct {
	*fs.FS
	id   int
	told string
}

// copied is what is so, without the trees, which can be made again from their steps.
func copied(l map[string]*plan) map[string]*plan {
	out := map[string]*plan{}
	for name, x := range l {
		tree := &shade{fold: x.tree.fold, steps: slices.Clone(x.tree.steps)}
		out[name] = &plan{tree, x.fs, slices.Clone(x.snaps)}
	}
	return out
}

// goBack lets all be as it was copied.
func (w *world) goBack(to map[string]*plan) {
	w.now = copied(to)
	for _, x := range w.now {
		x.tree = newShade(w.T, x.tree.fold, x.tree.steps)
	}
}

func (w *world) name() string {
	return []string{"a", "A", "b", "ä", "longer name", "no/name", ""}[min(w.r.Intn(12), 11)%7]
}

func (w *world) snap() string { return []string{"one", "two", "Two", "three", "..", "f"}[w.r.Intn(6)] }

// fails tells whether an error is the one that there should be.
func (w *world) fails(what string, err error, wrongs ...api.Errno) bool {
	w.Helper()
	want := api.OK
	for _, e := range wrongs {
		if want == api.OK {
			want = e
		}
	}
	if api.Tell(err) != want {
		w.Fatalf("%s: %v, wanted %v", what, err, want)
	}
	return want != api.OK
}

// wrong is an error, if something is so.
func wrong(is bool, e api.Errno) api.Errno {
	if is {
		return e
	}
	return api.OK
}

func badName(s string) bool { return s == "" || s == "no/name" || s == ".." }

// find is where a set has a snapshot (below 0: nowhere, or there is no set).
func (w *world) find(name, snap string) int {
	x := w.now[name]
	if x == nil {
		return -1
	}
	return slices.IndexFunc(x.snaps, func(y still) bool { return y.name == snap })
}

// act does something with the sets.
func (w *world) act() {
	name, snap, as, s := w.name(), w.snap(), w.name(), w.s
	if l := slices.Sorted(maps.Keys(w.now)); w.wild && len(l) > 0 && w.r.Intn(4) > 0 {
		name = l[w.r.Intn(len(l))]
		if l := w.now[name].snaps; len(l) > 0 && w.r.Intn(2) > 0 {
			snap = l[w.r.Intn(len(l))].name
		}
	}
	x, i := w.now[name], w.find(name, snap)
	w.made++
	none := wrong(badName(name), api.ErrName)
	noneBoth := wrong(badName(name) || badName(snap), api.ErrName)
	missing, lacking := wrong(x == nil, api.ErrMissing), wrong(i < 0, api.ErrMissing)
	used := wrong(w.now[as] != nil, api.ErrExists)
	held := wrong(x != nil && x.tree.Held() > 0, api.ErrBusy)
	k := w.r.Intn(9)
	if w.wild && w.r.Intn(2) > 0 {
		k = 2 + 2*w.r.Intn(2)
	}
	switch k {
	case 0, 1:
		fold := w.r.Intn(2) > 0
		if !w.fails("New", s.New(name, fold), none, wrong(x != nil, api.ErrExists)) {
			w.now[name] = &plan{tree: newShade(w.T, fold, nil)}
		}
	case 2, 3:
		if !w.fails("Snap", s.Snap(name, snap), noneBoth, missing, wrong(i >= 0, api.ErrExists)) {
			x.snaps = append(x.snaps, still{w.made, snap, x.tree.fold, slices.Clone(x.tree.steps), picture(x.tree.FS)})
		}
	case 4:
		bad := wrong(badName(name) || badName(snap) || badName(as), api.ErrName)
		if !w.fails("Clone", s.Clone(name, snap, as), bad, missing, lacking, used) {
			y := x.snaps[i]
			w.now[as] = &plan{tree: newShade(w.T, y.fold, y.steps)}
			w.now[as].tree.do(reaped)
		}
	case 5:
		if !w.fails("Rollback", s.Rollback(name, snap), noneBoth, missing, lacking, held) {
			x.tree = newShade(w.T, x.snaps[i].fold, x.snaps[i].steps)
			x.tree.do(reaped)
		}
	case 6:
		bad := wrong(badName(name) || badName(as), api.ErrName)
		if !w.fails("Rename", s.Rename(name, as), bad, missing, used) {
			w.now[as] = x
			delete(w.now, name)
		}
	case 7:
		if !w.fails("DropSnap", s.DropSnap(name, snap), noneBoth, missing, lacking) {
			x.snaps = slices.Delete(x.snaps, i, i+1)
		}
	case 8:
		if !w.fails("Drop", s.Drop(name), none, missing, wrong(x != nil && len(x.snaps) > 0, api.ErrNotEmpty), held) {
			delete(w.now, name)
		}
	}
}

// change does something with the tree of a set.
func (w *world) change() {
	l := slices.Sorted(maps.Keys(w.now))
	if len(l) == 0 {
		return
	}
	name := l[w.r.Intn(len(l))]
	x := w.now[name]
	f := x.fs
	if f == nil || w.r.Intn(2) > 0 {
		f = treeOf(w.T, w.s, name)
	}
	if x.fs == nil {
		x.fs = f
	}
	if f != x.fs {
		w.Fatalf("the tree of %s is another one", name)
	}
	for range 1 + w.r.Intn(6) {
		var told, want api.Errno
		s := w.step(x.tree)
		s.do(f, &told)
		x.tree.do(func(g *fs.FS) *fs.FS {
			s.do(g, &want)
			return g
		})
		if told != want || f.Held() != x.tree.Held() || f.Turn() != x.tree.Turn() {
			w.Fatalf("%s in %s: %v, wanted %v", s.name, name, told, want)
		}
	}
}

// deed is a call of a tree.
type deed struct {
	name string
	call func(f *fs.FS) error
}

func (d deed) do(f *fs.FS, told *api.Errno) { *told = api.Tell(d.call(f)) }

// some is one of a tree's nodes, or, now and then, another one.
func (w *world) some(x *shade) uint64 {
	l := []uint64{1, 77}
	for n := range node.On(x.Map()).Nodes() {
		l = append(l, n)
	}
	return l[w.r.Intn(len(l))]
}

func (w *world) step(x *shade) deed {
	w.made++
	k := w.made
	in, n := []uint64{1, 1, 1, w.some(x)}[w.r.Intn(4)], w.some(x)
	name, as := fmt.Sprint("n", w.r.Intn(9)), fmt.Sprint("N", w.r.Intn(9))
	at, how := w.r.Intn(6000), w.r.Intn(3)
	user := api.Cred{Uid: w.r.Intn(2), Gids: []int{w.r.Intn(2)}}
	if w.wild && w.r.Intn(3) > 0 {
		return deed{"Hold and Remove", func(f *fs.FS) error {
			f.Create(boss, 1, name, api.New{Kind: api.File, Mode: 0o777})
			n, err := f.Walk(boss, 1, name, false)
			if err != nil {
				return err
			}
			f.Hold(n)
			return f.Remove(boss, 1, name)
		}}
	}
	switch w.r.Intn(13) {
	case 0, 1, 2:
		kind := []api.NodeKind{api.File, api.File, api.Dir}[w.r.Intn(3)]
		return deed{"Create", func(f *fs.FS) error {
			_, err := f.Create(user, in, name, api.New{Kind: kind, Mode: 0o777})
			return err
		}}
	case 3, 4, 5:
		return deed{"Write", func(f *fs.FS) error { return f.Write(boss, n, at, []byte(fmt.Sprint("text ", k))) }}
	case 6, 7:
		return deed{"Remove", func(f *fs.FS) error { return f.Remove(boss, in, name) }}
	case 8:
		return deed{"Rename", func(f *fs.FS) error { return f.Rename(boss, in, name, 1, as, how) }}
	case 9:
		return deed{"Hold", func(f *fs.FS) error { return f.Hold(n) }}
	case 10:
		return deed{"Release", func(f *fs.FS) error {
			for n := range uint64(20) {
				f.Release(n)
			}
			return nil
		}}
	case 11:
		return deed{"SetLimit", func(f *fs.FS) error { return f.SetLimit(1, 1, api.Quota{Nodes: 2 + how}) }}
	}
	return deed{"SetExtra", func(f *fs.FS) error { return f.SetExtra(boss, n, name, []byte(as)) }}
}

// look holds sets against what they should be: all of it, or some.
func (w *world) look(all bool) {
	want := slices.Sorted(maps.Keys(w.now))
	names(w.T, w.s, want...)
	for _, name := range want {
		if !all && w.r.Intn(3) > 0 {
			continue
		}
		x := w.now[name]
		f := treeOf(w.T, w.s, name)
		if x.fs != nil && f != x.fs {
			w.Fatalf("the tree of %s is another one", name)
		}
		x.fs = f
		same(w.T, name, picture(f), picture(x.tree.FS))
		var l []string
		for _, y := range x.snaps {
			l = append(l, y.name)
			if all || w.r.Intn(2) > 0 {
				f := at(w.T, w.s, name, y.name)
				same(w.T, name+", "+y.name, picture(f), y.told)
				w.kept = append(w.kept, kept{f, y.id, y.told})
			}
		}
		snaps(w.T, w.s, name, l...)
	}
}

// keepOn holds what was answered against what it should tell still, and forgets what is of snapshots that are no more.
func (w *world) keepOn() {
	there := map[int]bool{}
	for name, x := range w.now {
		for _, y := range x.snaps {
			there[y.id] = true
		}
		if x.fs != nil {
			same(w.T, name+" that was kept", picture(x.fs), picture(x.tree.FS))
		}
	}
	w.kept = slices.DeleteFunc(w.kept, func(k kept) bool { return !there[k.id] })
	for _, k := range w.kept {
		same(w.T, "a snapshot that was kept", picture(k.FS), k.told)
	}
	for len(w.kept) > 20 {
		w.kept = slices.Delete(w.kept, 0, 1+w.r.Intn(3))
	}
}

// undone does much, and undoes it. What was answered meanwhile, of what was there ahead of it, goes on telling what is so.
func (w *world) undone() {
	was := copied(w.now)
	names := map[*plan]string{}
	for name, x := range w.now {
		names[x] = name
	}
	before := state(w.s)
	is(w.T, w.s.Pool().Try(func() error {
		for range 1 + w.r.Intn(8) {
			switch w.r.Intn(3) {
			case 0:
				w.look(false)
			case 1:
				w.act()
			default:
				w.change()
			}
		}
		return api.ErrLoop
	}), api.ErrLoop)
	for _, x := range w.now {
		if name, there := names[x]; there {
			was[name].fs = x.fs
		}
	}
	w.goBack(was)
	if now := state(w.s); now != before {
		w.Fatalf("undone: %s, was %s", now, before)
	}
	w.keepOn()
}

func (w *world) commit() {
	ok(w.T, w.s.Commit())
	w.last = copied(w.now)
}

// crash leaves what the last commit left.
func (w *world) crash() {
	for _, d := range w.disks {
		d.Crash([]byte{byte(w.r.Intn(3)), byte(w.r.Intn(3)), 1})
	}
	w.s = reopen(w.T, w.disks, w.shape)
	w.kept = nil
	w.goBack(w.last)
	for _, x := range w.now {
		x.fs = nil
		x.tree.do(taken)
	}
}

// spoil spoils something on as many disks as may be, when all was mended.
func (w *world) spoil() {
	if _, err := w.s.Pool().Scrub(); err != nil {
		w.Fatal(err)
	}
	for _, i := range w.r.Perm(len(w.disks))[:w.shape.Level] {
		d := w.disks[i]
		for range 1 + w.r.Intn(300) {
			at := w.r.Intn(min(d.Size(), 1500))
			if w.r.Intn(2) > 0 {
				d.Lose(at)
			} else {
				d.Spoil(at, w.r.Intn(900), 1+uint32(w.r.Intn(99)))
			}
		}
	}
}

// Sets are what a model of them is, in which nothing is shared.
func TestModel(t *testing.T) {
	t.Parallel()
	shapes := []api.Shape{single, mirror, {Data: 2, Level: 1}, {Data: 1, Level: 2}, {Data: 3, Level: 2}}
	for seed := range int64(16) {
		r := rand.New(rand.NewSource(seed))
		shape := shapes[seed%int64(len(shapes))]
		p, l := made(t, shape, 1<<20)
		s, err := Make(p)
		ok(t, err)
		w := &world{T: t, r: r, s: s, disks: l, shape: shape, now: map[string]*plan{}}
		w.commit()
		w.wild = seed%2 > 0
		for range 250 {
			switch k := r.Intn(40); {
			case k < 12:
				w.act()
			case k < 32:
				w.change()
			case k < 35:
				w.undone()
			case k < 36:
				w.commit()
			case k < 37:
				w.crash()
			case k < 38:
				w.spoil()
			case k < 39:
				w.keepOn()
			default:
				w.look(false)
			}
		}
		w.look(true)
		w.commit()
		w.crash()
		w.look(true)
		dropAll(t, w.s, r)
		for range w.s.Pool().Blocks() {
			t.Fatal("a block is lost")
		}
	}
}
