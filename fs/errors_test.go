package fs

import (
	"bytes"
	"fmt"
	"slices"
	"strings"
	"testing"

	"bedrock/api"
	"bedrock/node"
	"bedrock/number"
	"bedrock/pool"
	"bedrock/tree"
)

// call is a call on the tree that forest made.
type call struct {
	name string
	f    func(f *FS) (any, error)
}

func plainly(err error) (any, error) { return nil, err }

// Nodes that forest makes.
const (
	woods  = 2 // a directory of many entries
	lair   = 3 // one in it
	long   = 4 // a file of many bytes
	short  = 5
	trail  = 6 // a link to the lair
	lost   = 7 // without names, held
	stray  = 8 // without names, not held
	others = 9 // all further nodes are files in the woods
)

// forest makes a tree that has many blocks.
func forest(t *testing.T, f *FS) {
	t.Helper()
	creates(t, f, boss, 1, "woods", api.Dir, 0o777)
	creates(t, f, boss, woods, "lair", api.Dir, 0o777)
	creates(t, f, ann, lair, "long", api.File, 0o666)
	creates(t, f, ann, lair, "short", api.File, 0o666)
	links(t, f, 1, "way", "woods/lair")
	creates(t, f, bob, woods, "lost", api.File, 0o666)
	creates(t, f, bob, woods, "stray", api.File, 0o666)
	for i := range 12 {
		ok(t, f.Write(boss, long, 4096*i, bytes.Repeat([]byte{byte(i)}, 900+i)))
		ok(t, f.SetExtra(boss, long, fmt.Sprint("extra", i), make([]byte, 150)))
	}
	ok(t, f.Write(boss, lost, 0, []byte("lost")))
	ok(t, f.Hold(lost))
	ok(t, f.Remove(boss, woods, "lost"))
	ok(t, f.Hold(short))
	g := On(f.Map()) // what it holds f does not
	ok(t, g.Hold(stray))
	ok(t, g.Remove(boss, woods, "stray"))
	for i := range 60 {
		n := creates(t, f, api.Cred{Uid: i}, woods, fmt.Sprint("tree ", i), api.File, 0o666)
		ok(t, f.Change(boss, n, api.Set{What: 8, Project: i}))
		ok(t, f.SetLimit(1, i, api.Quota{Nodes: 90, Pages: 90}))
	}
}

func calls() []call {
	return []call{
		{"Stat", func(f *FS) (any, error) { return f.Stat(long) }},
		{"Walk", func(f *FS) (any, error) { return f.Walk(ann, 1, "/way/../tree 33", true) }},
		{"Walk up", func(f *FS) (any, error) { return f.Walk(ann, lair, "..", true) }},
		{"May", func(f *FS) (any, error) { return plainly(f.May(bob, lair, 7)) }},
		{"List", func(f *FS) (any, error) { return f.List(ann, woods, "", 1000) }},
		{"Target", func(f *FS) (any, error) { return f.Target(trail) }},
		{"Read", func(f *FS) (any, error) { return f.Read(bob, long, 0, 50000) }},
		{"Extra", func(f *FS) (any, error) { return f.Extra(bob, long, "extra3") }},
		{"Extras", func(f *FS) (any, error) { return f.Extras(bob, long) }},
		{"Usage", func(f *FS) (any, error) { return f.Usage(1, 1) }},
		{"Limit", func(f *FS) (any, error) { return f.Limit(1, 44) }},
		{"Create", func(f *FS) (any, error) { return f.Create(ann, lair, "new", api.New{Kind: api.Link, Target: "t"}) }},
		{"Link", func(f *FS) (any, error) { return plainly(f.Link(ann, long, woods, "name")) }},
		{"Remove", func(f *FS) (any, error) { return plainly(f.Remove(ann, lair, "long")) }},
		{"Remove held", func(f *FS) (any, error) { return plainly(f.Remove(ann, lair, "short")) }},
		{"Rename", func(f *FS) (any, error) { return plainly(f.Rename(ann, woods, "tree 7", lair, "name", 1)) }},
		{"Rename up", func(f *FS) (any, error) { return plainly(f.Rename(boss, woods, "lair", 1, "lair", 0)) }},
		{"Rename onto", func(f *FS) (any, error) { return plainly(f.Rename(ann, woods, "tree 7", lair, "long", 0)) }},
		{"Rename with", func(f *FS) (any, error) { return plainly(f.Rename(ann, woods, "tree 7", lair, "short", 2)) }},
		{"Rename as", func(f *FS) (any, error) { return plainly(f.Rename(ann, woods, "tree 7", woods, "TREE 7", 0)) }},
		{"Write", func(f *FS) (any, error) { return plainly(f.Write(bob, long, 4000, make([]byte, 5000))) }},
		{"Write none", func(f *FS) (any, error) { return plainly(f.Write(bob, long, 4000, nil)) }},
		{"Cut", func(f *FS) (any, error) { return plainly(f.Cut(bob, long, 10000)) }},
		{"Punch", func(f *FS) (any, error) { return plainly(f.Punch(bob, long, 4000, 9000)) }},
		{"Clone", func(f *FS) (any, error) { return plainly(f.Clone(bob, long, 14, short, 3, 20)) }},
		{"Change", func(f *FS) (any, error) {
			return plainly(f.Change(boss, long, api.Set{What: 15, Mode: 1, Uid: 2, Gid: 3, Project: 4}))
		}},
		{"SetExtra", func(f *FS) (any, error) { return plainly(f.SetExtra(bob, long, "extra4", []byte("new"))) }},
		{"DelExtra", func(f *FS) (any, error) { return plainly(f.DelExtra(bob, long, "extra5")) }},
		{"Hold", func(f *FS) (any, error) { return plainly(f.Hold(short)) }},
		{"Release", func(f *FS) (any, error) { return plainly(f.Release(lost)) }},
		{"Reap", func(f *FS) (any, error) { return plainly(f.Reap()) }},
		{"Ripe", func(f *FS) (any, error) { return f.Ripe() }},
		{"SetLimit", func(f *FS) (any, error) { return plainly(f.SetLimit(2, 9, api.Quota{Nodes: 3})) }},
	}
}

// told is picture, but for what cannot be read.
func told(f *FS) string {
	var s strings.Builder
	fmt.Fprintln(&s, f.Turn(), f.Held())
	for n := range uint64(others + 62) {
		a, err := f.Stat(n)
		target, err1 := f.Target(n)
		l, err2 := f.List(boss, n, "", 1000)
		b, err3 := f.Read(boss, n, 0, 65536)
		e, err4 := f.Extras(boss, n)
		fmt.Fprintln(&s, n, a, err, target, err1, l, err2, b, err3, e, err4)
	}
	for i := range 60 {
		for kind := range 3 {
			u, err := f.Usage(kind, i)
			q, err1 := f.Limit(kind, i)
			fmt.Fprintln(&s, kind, i, u, err, q, err1)
		}
	}
	return s.String()
}

// nothing tells whether an answer is what may come with an error.
func nothing(got any) bool {
	switch v := got.(type) {
	case []byte:
		return v == nil
	case []string:
		return v == nil
	case []api.Entry:
		return v == nil
	case nil:
		return true
	}
	return slices.Contains([]any{uint64(0), "", false, api.Attr{}, api.Quota{}}, got)
}

// state is the map's root, what is in use, and what is held.
func state(f *FS) string {
	return fmt.Sprint(f.Map().Root(), f.Map().Pool().Use(), f.Turn(), f.held)
}

// outcome is what a call tells, and (if it is asked for) what it leaves; it is undone then.
func outcome(t *testing.T, f *FS, c call, look bool) (any, string, error) {
	t.Helper()
	var got any
	var after string
	var err error
	before := state(f)
	is(t, f.Map().Try(func() error {
		got, err = c.f(f)
		switch {
		case err == nil && look:
			after = told(f)
		case err != nil && state(f) != before:
			t.Fatalf("%s: with an error something was changed", c.name)
		case err != nil && !nothing(got):
			t.Fatalf("%s: with an error %v", c.name, got)
		}
		return errUndo
	}), errUndo)
	if state(f) != before {
		t.Fatalf("%s was not undone", c.name)
	}
	return got, after, err
}

// TestSpoilt: each block is spoilt in turn: each call answers what it should, or that something is spoilt, and then nothing is changed.
func TestSpoilt(t *testing.T) {
	p, l := made(t, shapes[0], 20000)
	f, err := Make(tree.New(p), true)
	ok(t, err)
	forest(t, f)
	ok(t, p.Commit(nil))
	want, after := map[string]string{}, map[string]string{}
	for _, c := range calls() {
		got, s, err := outcome(t, f, c, true)
		ok(t, err)
		want[c.name], after[c.name] = fmt.Sprint(got), s
	}
	turn, whole := f.Turn(), told(f)
	good, bad := map[string]int{}, map[string]int{}
	for b := range p.Blocks() {
		l[0].Spoil(b.At, 333, 1)
		for _, c := range calls() {
			got, _, err := outcome(t, f, c, false)
			if err != nil {
				is(t, err, api.ErrSpoilt)
				bad[c.name]++
				continue
			}
			if good[c.name]++; fmt.Sprint(got) != want[c.name] {
				t.Fatalf("%s is %v, wanted %v", c.name, got, want[c.name])
			}
		}
		if f.Turn() != turn {
			t.Fatalf("turn %d", f.Turn())
		}
		l[0].Spoil(b.At, 333, 1)
	}
	for _, c := range calls() {
		if good[c.name] == 0 || bad[c.name] == 0 {
			t.Errorf("%s: %d good, %d bad", c.name, good[c.name], bad[c.name])
		}
		if got, s, err := outcome(t, f, c, true); err != nil || fmt.Sprint(got) != want[c.name] || s != after[c.name] {
			t.Errorf("%s is %v, %v behind it all", c.name, got, err)
		}
	}
	if told(f) != whole {
		t.Error("it is not what it was")
	}
}

// TestDown: a disk fails at each of its operations in turn: the call answers its error, and then the pool is down; what is kept is still known.
func TestDown(t *testing.T) {
	p, l := made(t, shapes[0], 20000)
	f, err := Make(tree.New(p), true)
	ok(t, err)
	forest(t, f)
	ok(t, p.Commit(nil))
	turn, root := f.Turn(), f.Map().Root()
	for _, c := range calls() {
		for after := 0; ; after++ {
			d := l[0].Copy()
			p, err := pool.Open([]*api.Disk{d}, shapes[0])
			ok(t, err)
			f := On(tree.Load(p, root))
			ok(t, f.Hold(lost))
			ok(t, f.Hold(short))
			d.Fail(after, 1)
			got, err := c.f(f)
			if err == nil {
				break
			}
			is(t, err, api.ErrDevice)
			if !nothing(got) || f.Turn() != turn || f.Held() != 2 {
				t.Fatalf("%s: with an error %v, turn %d, %d held", c.name, got, f.Turn(), f.Held())
			}
			for _, c := range calls() {
				if got, err := c.f(f); api.Tell(err) != api.ErrDown || !nothing(got) {
					t.Fatalf("%s of what is down: %v, %v", c.name, got, err)
				}
			}
			if f.Turn() != turn || f.Held() != 2 {
				t.Fatalf("turn %d, %d held", f.Turn(), f.Held())
			}
		}
	}
}

// TestDownUnknown: likewise, where how many turns there were is to be read.
func TestDownUnknown(t *testing.T) {
	p, l := made(t, shapes[0], 20000)
	f, err := Make(tree.New(p), true)
	ok(t, err)
	forest(t, f)
	ok(t, p.Commit(nil))
	p, err = pool.Open(l, shapes[0])
	ok(t, err)
	f = On(tree.Load(p, f.Map().Root()))
	g := On(f.Map())
	ok(t, f.Write(boss, short, 0, []byte("a"))) // of which g does not know
	ok(t, p.Commit(nil))
	l[0].Fail(0, 1)
	_, err = g.turns()
	is(t, err, api.ErrDevice)
	if g.Turn() != 0 || f.Turn() == 0 {
		t.Errorf("turn %d, %d", g.Turn(), f.Turn())
	}
	is(t, g.SetLimit(1, 1, api.Quota{}), api.ErrDown)
}

// TestTurnKnown: how many turns there were is known, however much is spoilt.
func TestTurnKnown(t *testing.T) {
	p, l := made(t, shapes[0], 20000)
	f, err := Make(tree.New(p), true)
	ok(t, err)
	forest(t, f)
	ok(t, p.Commit(nil))
	p, err = pool.Open(l, shapes[0])
	ok(t, err)
	g := On(tree.Load(p, f.Map().Root()))
	for b := range p.Blocks() {
		l[0].Spoil(b.At, 333, 1)
	}
	_, err = g.Stat(1)
	is(t, err, api.ErrSpoilt)
	is(t, g.Write(boss, short, 0, []byte("a")), api.ErrSpoilt)
	if g.Turn() != f.Turn() || g.Turn() == 0 {
		t.Errorf("turn %d, wanted %d", g.Turn(), f.Turn())
	}
	if n := On(f.Map()).Turn(); n != 0 { // of one that was never read nothing is known
		t.Errorf("turn %d", n)
	}
}

// TestTurnKnownUndone: so it is when the map had another root meanwhile.
func TestTurnKnownUndone(t *testing.T) {
	p, l := made(t, shapes[0], 20000)
	f, err := Make(tree.New(p), true)
	ok(t, err)
	old, err := f.Map().Snap()
	ok(t, err)
	forest(t, f)
	ok(t, p.Commit(nil))
	turn := f.Turn()
	for _, g := range []*FS{f, On(tree.Load(p, f.Map().Root()))} {
		is(t, p.Try(func() error {
			ok(t, g.Map().Become(old))
			if g.Turn() != 0 {
				t.Errorf("turn %d", g.Turn())
			}
			return api.ErrLoop
		}), api.ErrLoop)
		for b := range p.Blocks() {
			l[0].Spoil(b.At, 333, 1)
		}
		if g.Turn() != turn {
			t.Errorf("turn %d, wanted %d", g.Turn(), turn)
		}
		for b := range p.Blocks() {
			l[0].Spoil(b.At, 333, 1)
		}
	}
	var g *FS
	is(t, p.Try(func() error { // a tree that was taken up within
		g = On(tree.Load(p, f.Map().Root()))
		return api.ErrLoop
	}), api.ErrLoop)
	for b := range p.Blocks() {
		l[0].Spoil(b.At, 333, 1)
	}
	if g.Turn() != turn {
		t.Errorf("turn %d, wanted %d", g.Turn(), turn)
	}
}

// TestLoad: as On and Fixed, but what cannot be read is told.
func TestLoad(t *testing.T) {
	p, l := made(t, shapes[0], 20000)
	f, err := Make(tree.New(p), true)
	ok(t, err)
	forest(t, f)
	ok(t, p.Commit(nil))
	for _, fixed := range []bool{false, true} {
		g, err := Load(tree.Load(p, f.Map().Root()), fixed)
		ok(t, err)
		if g.Turn() != f.Turn() || g.Held() != 0 || api.Tell(g.SetLimit(1, 44, api.Quota{Nodes: 90, Pages: 90})) == api.ErrReadOnly != fixed {
			t.Errorf("another tree")
		}
		for b := range p.Blocks() {
			l[0].Spoil(b.At, 333, 1)
		}
		g, err = Load(f.Map(), fixed)
		if is(t, err, api.ErrSpoilt); g != nil {
			t.Error("a tree with an error")
		}
		for b := range p.Blocks() {
			l[0].Spoil(b.At, 333, 1)
		}
	}
	l[0].Fail(0, 1)
	_, err = Load(f.Map(), true)
	is(t, err, api.ErrDevice)
}

// TestRoom: where there is no room nothing is changed; and when there is some again all goes on.
func TestRoom(t *testing.T) {
	for _, shape := range shapes {
		p, _ := made(t, shape, 400)
		f, err := Make(tree.New(p), true)
		ok(t, err)
		c := api.Cred{Uid: 1, Gids: []int{1}}
		ok(t, f.Change(boss, 1, api.Set{What: 1, Mode: 0o777}))
		var full [4]bool
		last := uint64(1)
		for i := 0; full != [4]bool{true, true, true, true}; i++ {
			before := state(f)
			var err error
			switch k := i % 4; k {
			case 0:
				var n uint64
				if n, err = f.Create(c, 1, fmt.Sprint(i), api.New{Kind: api.File, Mode: 0o666}); err == nil {
					last = n
				}
			case 1:
				b := make([]byte, 3000)
				for j := range b {
					b[j] = byte(i * j * j >> 3)
				}
				err = f.Write(c, last, 3000*i, b)
			case 2:
				err = f.SetExtra(c, last, fmt.Sprint(i%16), make([]byte, 200))
			case 3:
				err = f.SetLimit(1, i, api.Quota{Nodes: i})
			}
			if err != nil {
				is(t, err, api.ErrRoom)
				if full[i%4] = true; state(f) != before {
					t.Fatal("something was changed")
				}
			}
		}
		refused(t, f, api.ErrRoom, func() error { _, err := f.Create(c, 1, "new", api.New{Kind: api.File}); return err })
		refused(t, f, api.ErrExists, func() error { _, err := f.Create(c, 1, "0", api.New{Kind: api.File}); return err })
		whole := told(f)
		if ok(t, p.Commit(nil)); told(f) != whole {
			t.Fatal("a commit changed something")
		}
	}
}

// TestFewRows: with ever more rows that are free each call answers that there is no room, and changes nothing, until there is enough: then it does all that it should.
func TestFewRows(t *testing.T) {
	p, _ := made(t, shapes[0], 3000)
	f, err := Make(tree.New(p), true)
	ok(t, err)
	forest(t, f)
	left := append(calls(), call{"Make", func(f *FS) (any, error) {
		g, err := Make(tree.New(p), true)
		if (g == nil) != (err != nil) {
			t.Errorf("Make is %v, %v", g, err)
		}
		return nil, err
	}})
	want, refusals := map[string]string{}, map[string]int{}
	for _, c := range left {
		_, want[c.name], err = outcome(t, f, c, true)
		ok(t, err)
	}
	var fillers []api.Ptr
	for err == nil {
		var x api.Ptr
		if x, err = p.Put(nil); err == nil {
			fillers = append(fillers, x)
		}
	}
	is(t, err, api.ErrRoom)
	for len(left) > 0 {
		ok(t, p.Commit(nil))
		left = slices.DeleteFunc(left, func(c call) bool {
			if _, _, err := outcome(t, f, c, false); err != nil {
				is(t, err, api.ErrRoom)
				refusals[c.name]++
				return false
			}
			if _, after, _ := outcome(t, f, c, true); after != want[c.name] {
				t.Fatalf("%s left what it should not", c.name)
			}
			return true
		})
		ok(t, p.Drop(fillers[0]))
		fillers = fillers[1:]
	}
	for _, name := range []string{"Make", "Create", "Link", "Remove", "Remove held", "Rename", "Rename up", "Rename onto", "Rename with", "Rename as", "Write", "Cut", "Punch", "Clone", "Change", "SetExtra", "DelExtra", "Release", "Reap", "SetLimit"} {
		if refusals[name] == 0 {
			t.Errorf("%s was never refused", name)
		}
	}
}

// TestJunk: bytes under a tree's keys that are none of a tree's are told as spoilt.
func TestJunk(t *testing.T) {
	spoilt := func(key, val []byte, call func(f *FS) error) {
		t.Helper()
		f := begin(t, false)
		creates(t, f, boss, 1, "d", api.Dir, 0)
		ok(t, f.Map().Put(key, val))
		refused(t, f, api.ErrSpoilt, func() error { return call(f) })
	}
	create := func(f *FS) error { _, err := f.Create(boss, 1, "x", api.New{Kind: api.File}); return err }
	usage := func(f *FS) error { _, err := f.Usage(1, 0); return err }
	for _, n := range []int{0, 7, 9, 300} {
		spoilt(turnKey(), make([]byte, n), create)
	}
	for _, n := range []int{0, 31, 33, 300} {
		spoilt(accountKey(owner{1, 0}), make([]byte, n), create)
		spoilt(accountKey(owner{1, 0}), make([]byte, n), usage)
	}
	spoilt(key(namelessPart, 1, 2), nil, (*FS).Reap)
	spoilt(append(namelessKey(1), 77), nil, (*FS).Reap)
	f := begin(t, false)
	ok(t, f.Map().Put(namelessKey(99), nil))
	is(t, f.Reap(), api.ErrNode)
}

// TestRound: directories that lie in one another are no tree, but a call on them ends.
func TestRound(t *testing.T) {
	for size := range 9 {
		f := begin(t, false)
		creates(t, f, boss, 1, "d", api.Dir, 0o755)
		var l []uint64
		for range size + 1 {
			n, err := f.table.Make(api.Attr{Kind: api.Dir, Links: 1})
			ok(t, err)
			l = append(l, n)
		}
		for back := range l { // the last one leads back to that one
			for i, n := range l {
				ok(t, f.table.SetAttr(n, api.Attr{Kind: api.Dir, Links: 1, Parent: slices.Concat(l[1:], l[back:])[i]}))
			}
			refused(t, f, api.ErrSpoilt, func() error { return f.Rename(boss, 1, "d", l[0], "d", 0) })
		}
	}
}

// TestEmptyTarget: a link without a target, which no Create makes, leads nowhere else.
func TestEmptyTarget(t *testing.T) {
	f := begin(t, false)
	l := links(t, f, 1, "l", "x")
	ok(t, node.On(f.Map()).Cut(l, 0))
	if n, err := f.Walk(boss, 1, "l", true); err != nil || n != 1 {
		t.Errorf("%d, %v", n, err)
	}
}

// TestPanics: what is handed to a turn may panic, and all is undone.
func TestPanics(t *testing.T) {
	f := begin(t, false)
	before := state(f)
	func() {
		defer func() {
			if recover() == nil {
				t.Error("no panic")
			}
		}()
		f.turn(func(t *turn) error {
			t.count(api.Attr{Uid: 1}, 1)
			t.table.Put(turnKey(), number.Append(nil, 7, 8))
			panic("here")
		})
	}()
	if state(f) != before {
		t.Error("something was changed")
	}
	creates(t, f, boss, 1, "x", api.File, 0)
}

// TestRows: when all is removed at most 4 rows more are in use than when the tree was made.
func TestRows(t *testing.T) {
	for _, fold := range []bool{false, true} {
		f := begin(t, fold)
		p := f.Map().Pool()
		rows := p.Use().Used
		forest(t, f)
		if p.Use().Used < 100 {
			t.Fatal("there are few blocks")
		}
		for i := range 60 {
			ok(t, f.Remove(boss, woods, fmt.Sprint("tree ", i)))
			ok(t, f.SetLimit(1, i, api.Quota{}))
		}
		ok(t, f.Remove(boss, lair, "long"))
		ok(t, f.Remove(boss, lair, "short"))
		ok(t, f.Remove(boss, woods, "lair"))
		ok(t, f.Remove(boss, 1, "woods"))
		ok(t, f.Remove(boss, 1, "way"))
		ok(t, f.Release(lost))
		ok(t, f.Release(short))
		ok(t, f.Reap())
		if now := p.Use().Used; now > rows+4 {
			t.Errorf("%d rows are in use, were %d", now, rows)
		}
		ok(t, f.Map().Free())
		if now := p.Use().Used; now != 0 {
			t.Errorf("%d rows are in use by nothing", now)
		}
	}
}
