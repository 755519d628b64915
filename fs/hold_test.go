package fs

import (
	"fmt"
	"testing"

	"bedrock/api"
	"bedrock/pool"
	"bedrock/tree"
)

// there tells whether a node is there.
func there(t *testing.T, f *FS, n uint64) bool {
	t.Helper()
	_, err := f.Stat(n)
	if err != nil {
		is(t, err, api.ErrNode)
	}
	return err == nil
}

func TestHold(t *testing.T) {
	f := begin(t, false)
	x, d := creates(t, f, boss, 1, "x", api.File, 0), creates(t, f, boss, 1, "d", api.Dir, 0o755)
	refused(t, f, api.ErrOrder, func() error { return f.Release(x) })
	ok(t, f.Hold(x))
	ok(t, f.Hold(x))
	ok(t, f.Hold(d))
	ok(t, f.Hold(1))
	if f.Held() != 3 {
		t.Errorf("%d are held", f.Held())
	}
	ok(t, f.Write(boss, x, 0, []byte("held")))
	ok(t, f.Link(boss, x, d, "x"))
	ok(t, f.Remove(boss, 1, "x"))
	ok(t, f.Remove(boss, d, "x"))
	ok(t, f.Remove(boss, 1, "d"))
	has(t, f, 1)
	reads(t, f, x, "held")
	if a, b := stat(t, f, x), stat(t, f, d); a.Links != 0 || b.Links != 0 || b.Parent != 1 {
		t.Errorf("%+v, %+v", a, b)
	}
	ok(t, f.Write(boss, x, 4, []byte(" still"))) // what has no names can be changed, but for its names
	ok(t, f.SetExtra(boss, d, "k", nil))
	ok(t, f.Change(boss, x, api.Set{What: 2, Uid: 4}))
	reads(t, f, x, "held still")
	refused(t, f, api.ErrMissing, func() error { return f.Link(boss, x, 1, "again") })
	refused(t, f, api.ErrMissing, func() error { _, err := f.Create(boss, d, "new", api.New{Kind: api.File}); return err })
	refused(t, f, api.ErrMissing, func() error { return f.Remove(boss, d, "none") })
	has(t, f, d)
	ok(t, f.Release(x))
	if !there(t, f, x) || f.Held() != 3 {
		t.Error("held once, it is no more")
	}
	ok(t, f.Release(x))
	ok(t, f.Release(d))
	ok(t, f.Release(1))
	if there(t, f, x) || there(t, f, d) || !there(t, f, 1) || f.Held() != 0 {
		t.Error("something is still held")
	}
	uses(t, f, 1, 0, 1, 0)
	uses(t, f, 1, 4, 0, 0)
	refused(t, f, api.ErrNode, func() error { return f.Release(x) })
	refused(t, f, api.ErrOrder, func() error { return f.Release(1) })
	y := creates(t, f, boss, 1, "y", api.File, 0)
	ok(t, f.Hold(y))
	ok(t, f.Release(y)) // it has a name
	if !there(t, f, y) {
		t.Error("it is no more")
	}
	ok(t, f.Remove(boss, 1, "y"))
	if there(t, f, y) {
		t.Error("it is there still")
	}
}

// TestReap: behind a crash nothing is held, and what has no names goes.
func TestReap(t *testing.T) {
	p, l := made(t, api.Shape{Data: 1}, 40000)
	f, err := Make(tree.New(p), false)
	ok(t, err)
	rows := p.Use().Used
	ok(t, f.Change(boss, 1, api.Set{What: 1, Mode: 0o777}))
	var nodes []uint64
	for i := range 300 {
		kind := []api.NodeKind{api.File, api.Dir, api.Link}[i%3]
		n := creates(t, f, []api.Cred{boss, ann}[i%2], 1, fmt.Sprint(i), kind, 0o777)
		ok(t, f.SetExtra(boss, n, "k", nil))
		ok(t, f.Hold(n))
		nodes = append(nodes, n)
	}
	for i := range 300 {
		if i%10 != 0 {
			ok(t, f.Remove(boss, 1, fmt.Sprint(i)))
		}
	}
	want := picture(t, f)
	ok(t, f.Reap()) // all are held
	if picture(t, f) != want {
		t.Error("what is held was reaped")
	}
	ok(t, p.Commit(nil))
	p, err = pool.Open(l, api.Shape{Data: 1})
	ok(t, err)
	f = On(tree.Load(p, f.Map().Root()))
	for i, n := range nodes {
		if i%50 < 2 { // of them the first one has a name
			ok(t, f.Hold(n))
		}
	}
	turn := f.Turn()
	ok(t, f.Reap())
	for i, n := range nodes {
		if there(t, f, n) != (i%10 == 0 || i%50 == 1) {
			t.Errorf("%d: %v", i, there(t, f, n))
		}
	}
	before := f.Map().Root()
	ok(t, f.Reap())
	if f.Turn() != turn || f.Map().Root() != before {
		t.Error("once more something became other")
	}
	for i, n := range nodes {
		if i%10 == 0 {
			ok(t, f.Remove(boss, 1, fmt.Sprint(i)))
		}
		if i%50 < 2 {
			ok(t, f.Release(n))
		}
	}
	for _, n := range nodes {
		if there(t, f, n) {
			t.Errorf("%d is there still", n)
		}
	}
	uses(t, f, 1, 0, 1, 0)
	if now := p.Use().Used; now > rows+4 {
		t.Errorf("%d rows are in use, were %d", now, rows)
	}
}

// TestHoldUndone: a Try that is undone leaves also what is held as it was.
func TestHoldUndone(t *testing.T) {
	f := begin(t, false)
	x, y := creates(t, f, boss, 1, "x", api.File, 0), creates(t, f, boss, 1, "y", api.File, 0)
	ok(t, f.Hold(y))
	ok(t, f.Remove(boss, 1, "y"))
	want := picture(t, f)
	var n uint64
	is(t, f.Map().Try(func() error {
		n = creates(t, f, boss, 1, "z", api.File, 0)
		ok(t, f.Hold(n))
		ok(t, f.Hold(x))
		ok(t, f.Remove(boss, 1, "x"))
		ok(t, f.Release(y))
		ok(t, f.Release(x))
		if there(t, f, x) || there(t, f, y) {
			t.Error("they are there still")
		}
		return errUndo
	}), errUndo)
	if got := picture(t, f); got != want {
		t.Errorf("it is\n%s\nwas\n%s", got, want)
	}
	is(t, f.Release(x), api.ErrOrder)
	if m := creates(t, f, boss, 1, "z", api.File, 0); m != n {
		t.Errorf("%d, was %d", m, n)
	}
	is(t, f.Release(n), api.ErrOrder)
	ok(t, f.Remove(boss, 1, "z"))
	if there(t, f, n) {
		t.Error("it is held")
	}
	ok(t, f.Release(y))
	if there(t, f, y) || f.Held() != 0 {
		t.Error("it is there still")
	}
}

// TestTwoOfOneMap: what one tree of a map does another one of it sees; what it holds not.
func TestTwoOfOneMap(t *testing.T) {
	f := begin(t, false)
	g, fixed := On(f.Map()), Fixed(f.Map())
	x := creates(t, f, boss, 1, "x", api.File, 0)
	y := creates(t, g, boss, 1, "y", api.File, 0)
	if f.Turn() != 2 || g.Turn() != 2 || fixed.Turn() != 2 || stat(t, f, y).Turn != 2 {
		t.Errorf("turns %d, %d, %d", f.Turn(), g.Turn(), fixed.Turn())
	}
	has(t, fixed, 1, "x", x, "y", y)
	ok(t, f.Hold(x))
	if g.Held() != 0 || fixed.Held() != 0 {
		t.Error("it is held in another one")
	}
	ok(t, g.Remove(boss, 1, "x"))
	is(t, f.Release(x), api.ErrNode)
}

// TestRipe: whether a Reap has something to do.
func TestRipe(t *testing.T) {
	f := begin(t, false)
	ripe := func(f *FS, want bool) {
		t.Helper()
		got, err := f.Ripe()
		if ok(t, err); got != want {
			t.Fatalf("%v, wanted %v", got, want)
		}
	}
	ripe(f, false)
	n := creates(t, f, boss, 1, "x", api.File, 0o666)
	ok(t, f.Hold(n))
	ok(t, f.Remove(boss, 1, "x"))
	ripe(f, false)
	ripe(On(f.Map()), true)
	ripe(Fixed(f.Map()), true)
	g := On(f.Map())
	ok(t, g.Reap())
	ripe(g, false)
}
