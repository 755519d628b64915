package tree

import (
	"bytes"
	"errors"
	"maps"
	"slices"
	"testing"

	"bedrock/api"
	"bedrock/pool"
)

// lows is each block of a map, and what none of its keys is ahead of.
func lows(t *testing.T, m *Map) map[api.Ptr][]byte {
	t.Helper()
	out := map[api.Ptr][]byte{}
	for w := m.walk(nil); !w.over(); {
		s := w.front()
		if s.height == onPair {
			w.pass()
			continue
		}
		out[s.to] = s.low
		ok(t, w.open())
	}
	return out
}

// state is which blocks are in use.
func state(p *pool.Pool) map[api.Ptr]int {
	out := map[api.Ptr]int{}
	for x, n := range p.Blocks() {
		out[x] = n
	}
	return out
}

func TestSpoilt(t *testing.T) {
	p, l := made(t, single, 40000)
	m := many(t, p, 400, 20)
	for i := 0; i < 400; i += 50 {
		ok(t, m.Tie([]byte(name(i)), []byte("tied"), block(t, p, "x")))
	}
	ok(t, p.Commit(nil))
	all, err := list(m, "", "")
	ok(t, err)
	e := New(p)
	changes, err := differ(e, m)
	ok(t, err)
	before, root := state(p), m.Root()
	same := func() {
		t.Helper()
		if !maps.Equal(before, state(p)) || m.Root() != root {
			t.Fatal("with an error something was changed")
		}
	}
	for x, low := range lows(t, m) {
		l[0].Spoil(x.At, 300, 1)
		ahead := 0
		for ahead < len(all) && all[ahead] < string(low) {
			ahead++
		}
		got, err := list(m, "", "")
		if is(t, err, api.ErrSpoilt); !slices.Equal(got, all[:ahead]) {
			t.Fatalf("%d pairs are told, wanted %d", len(got), ahead)
		}
		got, err = differ(e, m)
		if is(t, err, api.ErrSpoilt); !slices.Equal(got, changes[:ahead]) {
			t.Fatalf("%d changes are told, wanted %d", len(got), ahead)
		}
		if ahead > 0 {
			ranges(t, m, "", string(low), all[:ahead]...)
		}
		ranges(t, m, "z", "a")
		is(t, m.Free(), api.ErrSpoilt)
		same()
		for i := range 400 {
			spoiltKey(t, p, m, i)
		}
		same()
		l[0].Spoil(x.At, 300, 1)
	}
	tells(t, m, all...)
	audit(t, p, nil, m)
}

// spoiltKey asks for a key, and changes it: what is answered is right, or ErrSpoilt.
func spoiltKey(t *testing.T, p *pool.Pool, m *Map, i int) {
	t.Helper()
	key, val := []byte(name(i)), bytes.Repeat([]byte("v"), 20)
	if i%50 == 0 {
		val = []byte("tied")
	}
	got, err := m.Get(key)
	if err != nil {
		is(t, err, api.ErrSpoilt)
	} else if !bytes.Equal(got, val) {
		t.Fatalf("%q, wanted %q", got, val)
	}
	if _, err := m.Tied(key); err != nil {
		is(t, err, api.ErrSpoilt)
	}
	for _, f := range []func() error{
		func() error { return m.Put(key, []byte("other")) },
		func() error { return m.Del(key) },
	} {
		undone := errors.New("undone")
		err := p.Try(func() error {
			root := m.Root()
			err := f()
			if err == nil {
				return undone
			}
			if m.Root() != root {
				t.Fatal("with an error something was changed")
			}
			return err
		})
		if err != undone {
			is(t, err, api.ErrSpoilt)
		}
	}
}

// TestJoinSpoilt: a node that is spoilt does not stand in the way of changes beside it: it is not joined, and when it is mended all is there.
func TestJoinSpoilt(t *testing.T) {
	for _, height := range []int{0, 1} {
		p, l := made(t, single, 40000)
		m := many(t, p, 600, 20)
		ok(t, p.Commit(nil))
		all, err := list(m, "", "")
		ok(t, err)
		for w := m.walk(nil); !w.over(); {
			s := w.front()
			if s.height == onPair {
				w.pass()
				continue
			}
			ok(t, w.open())
			if s.height != height {
				continue
			}
			low, high := string(s.low), "z"
			if !w.over() {
				high = after(w, s.height)
			}
			l[0].Spoil(s.to.At, 300, 1)
			undone := errors.New("undone")
			is(t, p.Try(func() error {
				var left []string
				for i, line := range all {
					key := line[:len(name(0))]
					if key >= low && key < high {
						left = append(left, line)
					} else if i%9 > 0 {
						ok(t, m.Del([]byte(key)))
					} else {
						left = append(left, line)
						put(t, m, key+" more", "v")
						left = append(left, key+" more=v")
					}
				}
				_, err := list(m, "", "")
				is(t, err, api.ErrSpoilt)
				l[0].Spoil(s.to.At, 300, 1)
				tells(t, m, left...)
				audit(t, p, nil, m)
				return undone
			}), undone)
		}
		tells(t, m, all...)
	}
}

// after is the low of the next node of that height, or above it, to which a walk comes; all that is left of the last one is ahead of it.
func after(w *walk, height int) string {
	for i := len(w.next) - 1; i >= 0; i-- {
		if s := w.next[i]; s.height != onPair && s.height >= height {
			return string(s.low)
		}
	}
	return "z"
}

// TestDiffSpoilt: of two maps that have nothing in common: all that is ahead of what cannot be read is told.
func TestDiffSpoilt(t *testing.T) {
	p, l := made(t, single, 40000)
	a, b := New(p), New(p)
	for i := range 300 {
		put(t, a, name(2*i), "a")
		put(t, b, name(2*i+1), "b")
		put(t, b, name(2*i+1)+" more", "b")
	}
	ok(t, p.Commit(nil))
	changes, err := differ(a, b)
	if ok(t, err); len(changes) != 900 {
		t.Fatal(len(changes))
	}
	for _, m := range []*Map{a, b} {
		for x, low := range lows(t, m) {
			l[0].Spoil(x.At, 200, 1)
			got, err := differ(a, b)
			is(t, err, api.ErrSpoilt)
			ahead := 0
			for ahead < len(changes) && changes[ahead] < string(low) {
				ahead++
			}
			if !slices.Equal(got, changes[:ahead]) {
				t.Fatalf("%d are told, wanted %d", len(got), ahead)
			}
			l[0].Spoil(x.At, 200, 1)
		}
	}
	differs(t, a, b, changes...)
}

// TestLost: as many disks as may be are lost, and nothing is to be seen of it.
func TestLost(t *testing.T) {
	shape := api.Shape{Data: 2, Level: 2}
	p, l := made(t, shape, 10000)
	m := many(t, p, 300, 20)
	ok(t, p.Commit(nil))
	want, err := list(m, "", "")
	ok(t, err)
	l[0].Kill()
	for x := range state(p) {
		l[3].Spoil(x.At, 77, 5)
	}
	tells(t, m, want...)
	s := snapped(t, m)
	put(t, s, "z", "new")
	differs(t, m, s, "z:>new false true")
	ok(t, s.Free())
	audit(t, p, nil, m)
}

// TestDown: an operation of a disk fails: the call tells it, all others that the pool is down; what lasts is as the commit left it.
func TestDown(t *testing.T) {
	falls := []func(m, s *Map) error{
		func(m, s *Map) error { _, err := m.Get([]byte(name(7))); return err },
		func(m, s *Map) error { _, err := m.Tied([]byte(name(7))); return err },
		func(m, s *Map) error { return m.Put([]byte(name(7)), nil) },
		func(m, s *Map) error { return m.Del([]byte(name(7))) },
		func(m, s *Map) error { return m.Free() },
		func(m, s *Map) error { _, err := list(m, "", ""); return err },
		func(m, s *Map) error { _, err := differ(m, s); return err },
		func(m, s *Map) error { return m.Try(func() error { return m.Put([]byte(name(8)), nil) }) },
	}
	for _, fall := range falls {
		for after := range 3 {
			p, l := made(t, single, 20000)
			m := many(t, p, 1200, 20)
			s := snapped(t, m)
			put(t, s, name(7), "other")
			want, err := list(m, "", "")
			ok(t, err)
			ok(t, p.Commit(nil))
			root := m.Root()
			l[0].Fail(after, 1)
			is(t, fall(m, s), api.ErrDevice)
			if m.Root() != root {
				t.Fatal("with an error something was changed")
			}
			allDown(t, m, s)
			l[0].Crash(nil)
			p, err = pool.Open(l, single)
			ok(t, err)
			m, s = Load(p, root), Load(p, s.Root())
			tells(t, m, want...)
			audit(t, p, nil, m, s)
		}
	}
}

func allDown(t *testing.T, m, s *Map) {
	t.Helper()
	key := []byte(name(3))
	_, err := m.Get(key)
	is(t, err, api.ErrDown)
	_, err = m.Tied(key)
	is(t, err, api.ErrDown)
	is(t, m.Put(key, nil), api.ErrDown)
	is(t, m.Del(key), api.ErrDown)
	is(t, m.Tie(key, nil, m.Root()), api.ErrDown)
	is(t, m.Try(func() error { return nil }), api.ErrDown)
	is(t, m.Free(), api.ErrDown)
	none, err := m.Snap()
	if is(t, err, api.ErrDown); none != nil {
		t.Error("a map with an error")
	}
	_, err = list(m, "", "")
	is(t, err, api.ErrDown)
	_, err = differ(m, s)
	is(t, err, api.ErrDown)
	is(t, m.Put(nil, nil), api.ErrArg)
	_, err = m.Get(make([]byte, 200))
	is(t, err, api.ErrLong)
}

// TestRound: nodes that lead to one another again and again, or have keys where they should have none: no call goes on for ever, nor tells keys in another order than theirs.
func TestRound(t *testing.T) {
	p, _ := made(t, single, 40000)
	x, err := p.Put(leaf{{Key: []byte("m"), Val: []byte("val")}}.bytes())
	ok(t, err)
	for h := 1; h < 200; h++ {
		b := branch{h, []kid{{to: x}, {[]byte("a"), x}, {[]byte("c"), x}, {[]byte("x"), x}}}
		x, err = p.Put(b.bytes())
		ok(t, err)
	}
	before := state(p)
	m := Load(p, x)
	_, err = list(m, "", "")
	is(t, err, api.ErrSpoilt)
	for _, l := range [][2]*Map{{m, New(p)}, {New(p), m}} {
		_, err = differ(l[0], l[1])
		is(t, err, api.ErrSpoilt)
	}
	if s, err := m.Shade(); err == nil && len(s.nodes) > 200 {
		t.Errorf("%d nodes", len(s.nodes))
	}
	is(t, m.Free(), api.ErrBlock)
	if m.Root() != x || !maps.Equal(before, state(p)) {
		t.Error("with an error something was changed")
	}
	for _, f := range []func() error{
		func() error { return m.Put([]byte("m"), nil) },
		func() error { return m.Put([]byte("b"), nil) },
		func() error { return m.Del([]byte("m")) },
		func() error { _, err := m.Get([]byte("q")); return err },
	} {
		undone := errors.New("undone")
		_ = m.Try(func() error { _ = f(); return undone })
	}
}

// TestUnsorted: a node whose keys don't rise, or are not where it is, is spoilt; what is ahead of it is told.
func TestUnsorted(t *testing.T) {
	pairs := func(keys string) leaf {
		var l leaf
		for _, k := range keys {
			l = append(l, pair{Key: []byte(string(k))})
		}
		return l
	}
	for _, c := range []struct {
		first, second, low string
		want               string
	}{
		{"ab", "cd", "c", "abcd"},
		{"ab", "dc", "c", "ab!"},
		{"ab", "cc", "c", "ab!"},
		{"ab", "bd", "c", "ab!"},
		{"ac", "cd", "c", "!"},
		{"ad", "e", "c", "!"},
		{"ba", "cd", "c", "!"},
	} {
		p, m := begun(t)
		var kids []kid
		for i, l := range []leaf{pairs(c.first), pairs(c.second)} {
			x, err := p.Put(l.bytes())
			ok(t, err)
			kids = append(kids, kid{[]byte(c.low[:i]), x})
		}
		x, err := p.Put(branch{1, kids}.bytes())
		ok(t, err)
		m = Load(p, x)
		got := ""
		for q, err := range m.Scan(nil, nil) {
			if got += string(q.Key); err != nil {
				is(t, err, api.ErrSpoilt)
				got += "!"
			}
		}
		if got != c.want {
			t.Errorf("%q, %q: %q, wanted %q", c.first, c.second, got, c.want)
		}
	}
}

// TestNoNode: bytes that no map has put are no node.
func TestNoNode(t *testing.T) {
	p, m := begun(t)
	x := block(t, p, "x")
	place := appendPlace(nil, x)
	long, wide := bytes.Repeat([]byte("k"), api.MaxKey+1), make([]byte, api.MaxVal+1)
	for what, b := range map[string][]byte{
		"nothing":               nil,
		"a leaf without pairs":  {0},
		"a pair without a key":  leaf{{Val: []byte("val")}}.bytes(),
		"too long a key":        leaf{{Key: long}}.bytes(),
		"too long a value":      leaf{{Key: []byte("k"), Val: wide}}.bytes(),
		"no block":              leaf{{Key: []byte("k"), Block: api.Ptr{At: x.At + 1}}}.bytes(),
		"a branch without kids": {1},
		"a kid that is none":    branch{1, []kid{{to: api.Ptr{At: 1}}}}.bytes(),
		"a kid without a low":   slices.Concat([]byte{1}, place, []byte{0, 0}, place),
		"too long a low":        branch{1, []kid{{to: x}, {long, x}}}.bytes(),
		"more alike than there": slices.Concat([]byte{1}, place, []byte{1, 1, 'k'}, place),
		"half a place":          slices.Concat([]byte{1}, place, []byte{0, 1, 'k'}, place[:2]),
	} {
		if n, err := m.nodeOf(b); n != nil || !errors.Is(err, api.ErrSpoilt) {
			t.Errorf("%s: %v, %v", what, n, err)
		}
	}
	good := branch{1, []kid{{to: x}, {long[1:], x}}}.bytes()
	_, err := m.nodeOf(good)
	ok(t, err)
}
