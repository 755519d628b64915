package tree

import (
	"fmt"
	"testing"

	"bedrock/api"
	"bedrock/pool"
)

// gone makes a map with many pairs, and, in a Try that is undone, one that has some less and one more; it is seen as that then. How often it was asked to be so is counted.
func gone(t *testing.T) (p *pool.Pool, m *Map, want []string, asked *int) {
	t.Helper()
	p, _ = made(t, single, 40000)
	m, asked = many(t, p, 600, 20), new(int)
	alter := func(m *Map) {
		for i := range 200 {
			ok(t, m.Del([]byte(name(3*i))))
		}
		put(t, m, "new", "new")
	}
	is(t, p.Try(func() error {
		s := snapped(t, m)
		alter(s)
		shade, err := s.Shade()
		ok(t, err)
		p.OnUndo(func() {
			m.Wear(shade, func() error {
				*asked++
				s := snapped(t, Load(p, m.Root()))
				alter(s)
				ok(t, m.Become(s))
				return s.Free()
			})
		})
		ok(t, m.Become(s))
		want, err = list(m, "", "")
		ok(t, err)
		return api.ErrLoop
	}), api.ErrLoop)
	return p, m, want, asked
}

// A map that wears a shade tells what it was; nothing is changed by that.
func TestShade(t *testing.T) {
	p, m, want, asked := gone(t)
	before := p.Use()
	tells(t, m, want...)
	ranges(t, m, name(1), name(4), want[0], want[1])
	_, err := m.Get([]byte(name(0)))
	is(t, err, api.ErrMissing)
	b, err := m.Get([]byte("new"))
	if ok(t, err); string(b) != "new" {
		t.Errorf("%q", b)
	}
	raw := Load(p, m.Root())
	l, err := differ(raw, m)
	if ok(t, err); len(l) != 201 {
		t.Errorf("%d keys differ", len(l))
	}
	differs(t, m, m)
	if *asked > 0 || p.Use() != before {
		t.Error("something was changed")
	}
	_, err = raw.Get([]byte(name(0)))
	ok(t, err)
}

// Ahead of a change, or of a Snap, it becomes what it is seen as; if that is undone it is seen as that still.
func TestShadeChanged(t *testing.T) {
	for what, call := range map[string]func(m *Map) error{
		"Put":  func(m *Map) error { return m.Put([]byte("more"), nil) },
		"Del":  func(m *Map) error { return m.Del([]byte("new")) },
		"Tie":  func(m *Map) error { return m.Tie([]byte("more"), nil, block(t, m.Pool(), "tied")) },
		"Snap": func(m *Map) error { _, err := m.Snap(); return err },
	} {
		p, m, want, asked := gone(t)
		before, root := p.Use(), m.Root()
		is(t, p.Try(func() error {
			ok(t, call(m))
			return api.ErrLoop
		}), api.ErrLoop)
		tells(t, m, want...)
		if *asked != 1 || p.Use() != before || m.Root() != root {
			t.Errorf("%s undone: something is other", what)
		}
		if call(m); *asked != 2 {
			t.Errorf("%s: it was asked %d times", what, *asked)
		}
		raw, err := list(Load(p, m.Root()), "", "")
		ok(t, err)
		tells(t, m, raw...)
		if call(m); *asked != 2 {
			t.Errorf("%s: it was asked again", what)
		}
	}
}

// Free and Become let it go.
func TestShadeLeft(t *testing.T) {
	p, m, want, asked := gone(t)
	o := New(p)
	put(t, o, "a", "b")
	is(t, p.Try(func() error {
		ok(t, m.Become(o))
		tells(t, m, "a=b")
		return api.ErrLoop
	}), api.ErrLoop)
	tells(t, m, want...)
	is(t, p.Try(func() error {
		ok(t, m.Free())
		tells(t, m)
		return api.ErrLoop
	}), api.ErrLoop)
	tells(t, m, want...)
	ok(t, o.Free())
	ok(t, m.Free())
	used(t, p, 0)
	if *asked > 0 {
		t.Error("it was asked")
	}
}

// A change that cannot be what it is seen as changes nothing.
func TestShadeFails(t *testing.T) {
	p, m, want, _ := gone(t)
	m.Wear(m.worn.Shade, func() error { return api.ErrRoom })
	before := p.Use()
	is(t, m.Put([]byte("more"), nil), api.ErrRoom)
	is(t, m.Del([]byte("new")), api.ErrRoom)
	_, err := m.Snap()
	is(t, err, api.ErrRoom)
	tells(t, m, want...)
	if p.Use() != before {
		t.Error("something was changed")
	}
	is(t, m.Put(nil, nil), api.ErrArg)
}

// A shade has those blocks alone that the map has for itself; of a map without pairs it has none.
func TestShadeSize(t *testing.T) {
	p, _ := made(t, single, 40000)
	m := many(t, p, 2000, 20)
	s := snapped(t, m)
	put(t, s, name(77), "other")
	shade, err := s.Shade()
	ok(t, err)
	if n := len(shade.nodes); n < 2 || n > 6 {
		t.Errorf("%d blocks", n)
	}
	more, err := s.Shade([]byte(name(1900)), []byte(name(1900)), []byte("none"))
	if ok(t, err); len(more.nodes) <= len(shade.nodes) || len(more.nodes) > len(shade.nodes)+12 {
		t.Errorf("%d blocks, with the ways to two keys", len(more.nodes))
	}
	none, err := New(p).Shade([]byte("a"))
	if ok(t, err); len(none.nodes) > 0 {
		t.Error("blocks of nothing")
	}
	m.Wear(none, func() error { return nil })
	tells(t, m)
	_, err = m.Get([]byte(name(77)))
	is(t, err, api.ErrMissing)
	for i := range 3 {
		x, err := s.Shade()
		if ok(t, err); fmt.Sprint(x.root, len(x.nodes)) != fmt.Sprint(shade.root, len(shade.nodes)) {
			t.Errorf("look %d: another shade", i)
		}
	}
}

// What some keys have is told whatever is spoilt, of the others what they have, or that it is spoilt.
func TestShadeSpoilt(t *testing.T) {
	p, l := made(t, single, 40000)
	m := many(t, p, 2000, 20)
	ok(t, p.Commit([]byte("root")))
	var shade *Shade
	is(t, p.Try(func() error {
		s := snapped(t, m)
		put(t, s, name(77), "other")
		var err error
		shade, err = s.Shade([]byte(name(1900)))
		ok(t, err)
		return api.ErrLoop
	}), api.ErrLoop)
	m.Wear(shade, func() error { return nil })
	for x := range p.Blocks() {
		l[0].Spoil(x.At, 300, 1)
	}
	for _, i := range []int{77, 1900} {
		b, err := m.Get([]byte(name(i)))
		if ok(t, err); i == 77 && string(b) != "other" {
			t.Errorf("%q", b)
		}
	}
	_, err := m.Get([]byte(name(1000)))
	is(t, err, api.ErrSpoilt)
}
