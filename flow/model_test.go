package flow

import (
	"fmt"
	"maps"
	"math/rand"
	"slices"
	"testing"

	"bedrock/api"
	"bedrock/fs"
	"bedrock/node"
	"bedrock/snap"
)

// shot is what a snapshot should be: its origin, as a text that no other one has, and whether its set's tree is still what it is.
type shot struct {
	name, origin string
	still        bool
	told         string
}

// plan is what a set should be.
type plan struct {
	tree  string
	shots []shot
}

// land is a pool, and what its sets should be, now and behind the last commit.
type land struct {
	*snap.Sets
	id        uint64
	shape     api.Shape
	disks     []*api.Disk
	now, last map[string]*plan
}

func copied(l map[string]*plan) map[string]*plan {
	out := map[string]*plan{}
	for name, x := range l {
		out[name] = &plan{x.tree, slices.Clone(x.shots)}
	}
	return out
}

// world is several pools.
type world struct {
	*testing.T
	r     *rand.Rand
	lands []*land
	made  int
	met   map[string]int
}

func (w *world) land() *land { return w.lands[w.r.Intn(len(w.lands))] }

// some is one of the sets of a land, and its name; nil, if there is none.
func (w *world) some(l *land) (string, *plan) {
	names := slices.Sorted(maps.Keys(l.now))
	if len(names) == 0 {
		return "", nil
	}
	name := names[w.r.Intn(len(names))]
	return name, l.now[name]
}

func (w *world) name() string { return []string{"a", "b", "c", "d"}[w.r.Intn(4)] }

// reaped is what a tree is without the nodes that have no names; nothing is changed by asking.
func (w *world) reaped(s *snap.Sets, name, shot string) string {
	w.Helper()
	var out string
	is(w.T, s.Pool().Try(func() error {
		m, err := at(w.T, s, name, shot).Map().Snap()
		ok(w.T, err)
		f := fs.On(m)
		ok(w.T, f.Reap())
		out = picture(w.T, f)
		return api.ErrLoop
	}), api.ErrLoop)
	return out
}

// leave: the tree is no more what its snapshots are, but for the one numbered but.
func (x *plan) leave(but int) {
	for i := range x.shots {
		x.shots[i].still = i == but
	}
}

// change does something with a tree; where anything becomes other by it, it is no more what its snapshots are.
func (w *world) change(l *land) {
	name, x := w.some(l)
	if x == nil {
		return
	}
	f := treeOf(w.T, l.Sets, name)
	for range 1 + w.r.Intn(8) {
		was := picture(w.T, f)
		w.deed(f)
		if picture(w.T, f) != was {
			x.leave(-1)
		}
	}
	x.tree = picture(w.T, f)
}

// node is one of a tree's nodes, or, now and then, another one.
func (w *world) node(f *fs.FS) uint64 {
	l := []uint64{1, 99}
	for n := range node.On(f.Map()).Nodes() {
		l = append(l, n)
	}
	return l[w.r.Intn(len(l))]
}

// deed is a call of a tree, whatever comes of it.
func (w *world) deed(f *fs.FS) {
	w.made++
	in, n, m := []uint64{1, 1, w.node(f)}[w.r.Intn(3)], w.node(f), w.node(f)
	name, as := fmt.Sprint("n", w.r.Intn(6)), fmt.Sprint("N", w.r.Intn(6))
	page, how := w.r.Intn(40), w.r.Intn(3)
	user := api.Cred{Uid: w.r.Intn(3), Gids: []int{w.r.Intn(2)}}
	switch w.r.Intn(16) {
	case 0, 1, 2:
		kind := []api.NodeKind{api.File, api.File, api.Dir, api.Link}[w.r.Intn(4)]
		what := api.New{Kind: kind, Mode: 0o777}
		if kind == api.Link {
			what.Target = name
		}
		f.Create(user, in, name, what)
	case 3, 4, 5:
		f.Write(boss, n, page*api.PageSize/3, noise(w.made, 1+w.r.Intn(3000)))
	case 6:
		f.Cut(boss, n, page*100)
	case 7:
		f.Punch(boss, n, page*api.PageSize, how*300)
	case 8:
		f.Clone(boss, n, page/2, m, page, how*9)
	case 9:
		f.Remove(boss, in, name)
	case 10:
		f.Rename(boss, in, name, 1, as, how)
	case 11:
		f.Hold(n)
		f.Remove(boss, in, name)
	case 12:
		for n := range uint64(40) {
			f.Release(n)
		}
	case 13:
		f.SetLimit(1+w.r.Intn(2), 1+how, api.Quota{Nodes: 30 + how})
	case 14:
		f.SetExtra(boss, n, name, []byte(as))
		f.DelExtra(boss, m, name)
	case 15:
		f.Change(boss, n, api.Set{What: 1 + 2*w.r.Intn(8), Mode: 0o640, Uid: how, Project: how})
	}
}

// act does something with the sets of a land.
func (w *world) act(l *land) {
	name, x := w.some(l)
	if x == nil || w.r.Intn(9) == 0 {
		name = w.name()
		if l.now[name] == nil {
			ok(w.T, l.New(name, w.r.Intn(2) > 0))
			l.now[name] = &plan{tree: picture(w.T, treeOf(w.T, l.Sets, name))}
		}
		return
	}
	i := w.r.Intn(len(x.shots) + 1)
	switch k := w.r.Intn(12); {
	case k < 5 || i == len(x.shots):
		if len(x.shots) > 8 {
			return
		}
		w.made++
		as := fmt.Sprint("shot", w.made)
		ok(w.T, l.Snap(name, as))
		x.shots = append(x.shots, shot{as, fmt.Sprint(l.id, " ", w.made), true, x.tree})
	case k < 9:
		if k < 8 { // most often to the last one
			i = len(x.shots) - 1
		}
		w.rollback(l, name, i)
	case k < 10:
		ok(w.T, l.DropSnap(name, x.shots[i].name))
		x.shots = slices.Delete(x.shots, i, i+1)
	case k < 11:
		if as := w.name(); l.now[as] == nil {
			ok(w.T, l.Clone(name, x.shots[i].name, as))
			l.now[as] = &plan{tree: w.reaped(l.Sets, name, x.shots[i].name)}
		}
	default:
		if as := w.name(); l.now[as] == nil {
			ok(w.T, l.Rename(name, as))
			l.now[as] = x
			delete(l.now, name)
		}
	}
}

func (w *world) rollback(l *land, name string, i int) {
	x := l.now[name]
	err := l.Rollback(name, x.shots[i].name)
	if treeOf(w.T, l.Sets, name).Held() > 0 {
		is(w.T, err, api.ErrBusy)
		return
	}
	ok(w.T, err)
	x.leave(i)
	x.tree = w.reaped(l.Sets, name, x.shots[i].name)
}

// stream sends something, and lets another pool, or the same one, receive it.
func (w *world) stream() {
	from := w.land()
	name, x := w.some(from)
	if x == nil || len(x.shots) == 0 {
		return
	}
	i, j := w.r.Intn(len(x.shots)+1)-1, w.r.Intn(len(x.shots))
	base := shot{}
	if i >= 0 {
		base = x.shots[i]
	}
	before := from.Pool().Use()
	b, err := Send(from.Sets, name, base.name, x.shots[j].name)
	if from.Pool().Use() != before {
		w.Fatal("Send changes something")
	}
	if i >= j {
		is(w.T, err, api.ErrOrder)
		return
	}
	ok(w.T, err)
	to := w.land()
	w.arrive(to, b, w.name(), base, x.shots[j])
}

// goOn sends what the last snapshot of a set stands on to it, if there is more of that somewhere.
func (w *world) goOn() {
	to := w.land()
	as, x := w.some(to)
	if x == nil || len(x.shots) == 0 {
		return
	}
	last := x.shots[len(x.shots)-1]
	if w.r.Intn(2) > 0 {
		w.rollback(to, as, len(x.shots)-1)
	}
	for _, from := range w.lands {
		for _, name := range slices.Sorted(maps.Keys(from.now)) {
			l := from.now[name].shots
			i := slices.IndexFunc(l, func(y shot) bool { return y.origin == last.origin })
			if i < 0 || i == len(l)-1 {
				continue
			}
			y := l[i+1+w.r.Intn(len(l)-i-1)]
			w.arrive(to, sent(w.T, from.Sets, name, l[i].name, y.name), as, l[i], y)
			return
		}
	}
}

// arrive receives a stream of y, which stands on base.
func (w *world) arrive(to *land, b []byte, name string, base, y shot) {
	w.made++
	as := fmt.Sprint("shot", w.made-w.r.Intn(2)*w.r.Intn(20))
	x := to.now[name]
	held := x != nil && treeOf(w.T, to.Sets, name).Held() > 0
	was := state(to.Sets)
	err := Receive(to.Sets, b, name, as)
	want := w.verdict(x, as, base, held)
	w.met[fmt.Sprint(base.name == "", want)]++
	if api.Tell(err) != want {
		w.Fatalf("Receive(%q, %q) of %v from %v: %v, wanted %v", name, as, y.name, base.name, err, want)
	}
	if err != nil {
		if state(to.Sets) != was {
			w.Fatal("it is refused, and something is other")
		}
		return
	}
	if x == nil {
		x = &plan{}
		to.now[name] = x
	}
	x.shots = append(x.shots, shot{as, y.origin, true, y.told})
	x.leave(len(x.shots) - 1)
	same(w.T, "what was sent", picture(w.T, at(w.T, to.Sets, name, as)), y.told)
	x.tree = w.reaped(to.Sets, name, as)
	same(w.T, "the tree", picture(w.T, treeOf(w.T, to.Sets, name)), x.tree)
}

// verdict is what Receive should answer.
func (w *world) verdict(x *plan, as string, base shot, held bool) api.Errno {
	if base.name == "" {
		if x != nil {
			return api.ErrExists
		}
		return api.OK
	}
	if x == nil {
		return api.ErrMissing
	}
	last := len(x.shots) - 1
	switch {
	case slices.ContainsFunc(x.shots, func(y shot) bool { return y.name == as }):
		return api.ErrExists
	case last < 0 || x.shots[last].origin != base.origin || !x.shots[last].still:
		return api.ErrBase
	case held:
		return api.ErrBusy
	}
	return api.OK
}

// commit commits all pools, so that none has a snapshot of another one that a crash takes away.
func (w *world) commit() {
	for _, l := range w.lands {
		ok(w.T, l.Commit())
		l.last = copied(l.now)
	}
}

// crash leaves what the last commit left, in all pools.
func (w *world) crash() {
	for _, l := range w.lands {
		for _, d := range l.disks {
			d.Crash([]byte{byte(w.r.Intn(3)), byte(w.r.Intn(3)), 1})
		}
		l.Sets = reopen(w.T, l.disks, l.shape)
		l.now = copied(l.last)
	}
}

// spoil spoils something on as many disks as may be.
func (w *world) spoil(l *land) {
	_, err := l.Pool().Scrub()
	ok(w.T, err)
	for _, i := range w.r.Perm(len(l.disks))[:l.shape.Level] {
		for range 1 + w.r.Intn(300) {
			l.disks[i].Lose(w.r.Intn(1500))
		}
	}
}

// look holds a land against what it should be.
func (w *world) look(l *land) {
	names, err := l.Names()
	ok(w.T, err)
	if !slices.Equal(names, slices.Sorted(maps.Keys(l.now))) {
		w.Fatalf("the sets are %q", names)
	}
	for name, x := range l.now {
		same(w.T, name, picture(w.T, treeOf(w.T, l.Sets, name)), x.tree)
		var want []string
		for _, y := range x.shots {
			want = append(want, y.name)
			same(w.T, name+", "+y.name, picture(w.T, at(w.T, l.Sets, name, y.name)), y.told)
		}
		got, err := l.Snaps(name)
		if ok(w.T, err); !slices.Equal(got, want) {
			w.Fatalf("%s has %q, wanted %q", name, got, want)
		}
	}
}

// Streams between several pools do what a model of them does.
func TestModel(t *testing.T) {
	t.Parallel()
	shapes := []api.Shape{single, {Data: 2, Level: 1}, {Data: 1, Level: 2}, {Data: 3, Level: 2}}
	met := map[string]int{}
	for seed := range int64(30) {
		w := &world{T: t, r: rand.New(rand.NewSource(seed)), met: met}
		for i := range 3 {
			l := &land{id: uint64(i), shape: shapes[(int(seed)+i)%len(shapes)], now: map[string]*plan{}}
			l.Sets, l.disks = made(t, l.shape, 30000, l.id)
			w.lands = append(w.lands, l)
		}
		w.commit()
		for range 500 {
			switch k := w.r.Intn(30); {
			case k < 8:
				w.act(w.land())
			case k < 14:
				w.change(w.land())
			case k < 18:
				w.stream()
			case k < 26:
				w.goOn()
			case k < 27:
				w.commit()
			case k < 28 && seed%3 == 0:
				w.crash()
			case k < 29:
				w.spoil(w.land())
			default:
				w.look(w.land())
			}
		}
		w.commit()
		w.crash()
		for _, l := range w.lands {
			w.look(l)
			dropAll(t, l.Sets)
		}
	}
	for _, x := range []string{"true bedrock: error 0", "true bedrock: error 21", "false bedrock: error 0", "false bedrock: error 15", "false bedrock: error 21", "false bedrock: error 50", "false bedrock: error 32"} {
		if met[x] == 0 {
			t.Errorf("%q never came: %v", x, met)
		}
	}
}
