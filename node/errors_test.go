package node

import (
	"bytes"
	"errors"
	"fmt"
	"math/rand"
	"testing"

	"bedrock/api"
	"bedrock/number"
	"bedrock/tree"
)

var errUndo = errors.New("undo")

// call is a call of a table, and what it told.
type call struct {
	name string
	f    func(x *Table) (any, error)
}

func plainly(err error) (any, error) { return nil, err }

// calls is calls of all kinds, of the nodes 1 and 2 of a table that sample made.
func calls() []call {
	return []call{
		{"Make", func(x *Table) (any, error) { return x.Make(file) }},
		{"Attr", func(x *Table) (any, error) { return x.Attr(2) }},
		{"SetAttr", func(x *Table) (any, error) { return plainly(x.SetAttr(2, api.Attr{Kind: api.Dir})) }},
		{"Free", func(x *Table) (any, error) { return plainly(x.Free(1)) }},
		{"Nodes", func(x *Table) (any, error) { return nodes(x) }},
		{"Read", func(x *Table) (any, error) { return x.Read(1, 10, 30*page) }},
		{"Read a little", func(x *Table) (any, error) { return x.Read(1, 30*page, 10) }},
		{"Write", func(x *Table) (any, error) { return plainly(x.Write(1, 10, noise(7, 20*page))) }},
		{"Write a page", func(x *Table) (any, error) { return plainly(x.Write(1, 3*page, noise(7, page))) }},
		{"Write behind", func(x *Table) (any, error) { return plainly(x.Write(1, 50*page, noise(7, page))) }},
		{"Cut", func(x *Table) (any, error) { return plainly(x.Cut(1, 20*page+9)) }},
		{"Punch", func(x *Table) (any, error) { return plainly(x.Punch(1, 10, 20*page)) }},
		{"Next", func(x *Table) (any, error) { return x.Next(1, 0, false) }},
		{"Next of data", func(x *Table) (any, error) { return x.Next(2, 0, true) }},
		{"Clone", func(x *Table) (any, error) { return plainly(x.Clone(1, 3, 2, 5, 30)) }},
		{"Extra", func(x *Table) (any, error) { return x.Extra(1, "a") }},
		{"SetExtra", func(x *Table) (any, error) { return plainly(x.SetExtra(1, "c", []byte("new"))) }},
		{"DelExtra", func(x *Table) (any, error) { return plainly(x.DelExtra(1, "a")) }},
		{"Extras", func(x *Table) (any, error) { return x.Extras(1) }},
		{"Lay", func(x *Table) (any, error) { return plainly(x.Lay(2, 10, noise(8, 16*page))) }},
		{"Lay a hole", func(x *Table) (any, error) { return plainly(x.Lay(1, 10, nil)) }},
		{"Pages", func(x *Table) (any, error) {
			var l []api.Page
			for p, err := range Pages(On(tree.New(x.Pool())), x) {
				if err != nil {
					return l, err
				}
				l = append(l, p)
			}
			return l, nil
		}},
	}
}

// sample fills a table.
func sample(t *testing.T, x *Table) {
	t.Helper()
	a, b := newFile(t, x), newFile(t, x)
	write(t, x, a, 0, noise(1, 40*page))
	write(t, x, b, 20*page, bytes.Repeat([]byte("b"), 20*page))
	ok(t, x.Clone(b, 20, a, 8, 4))
	ok(t, x.SetExtra(a, "a", []byte("value")))
	ok(t, x.SetExtra(a, "b", bytes.Repeat([]byte("v"), 200)))
	crowd(t, x, 30)
}

// seen is all that can be seen of a table.
func seen(x *Table) string {
	var s []byte
	l, err := nodes(x)
	s = fmt.Append(s, l, err)
	for _, n := range l {
		a, err := x.Attr(n)
		s = fmt.Append(s, n, a, err)
		names, err := x.Extras(n)
		s = fmt.Append(s, names, err)
		for _, name := range names {
			v, err := x.Extra(n, name)
			s = fmt.Append(append(s, v...), err)
		}
		for at := 0; at < a.Size; at += api.MaxIO {
			b, err := x.Read(n, at, api.MaxIO)
			s = fmt.Append(append(s, b...), err)
		}
	}
	return string(s)
}

// nothing tells whether an answer is what may come with an error.
func nothing(got any) bool {
	switch v := got.(type) {
	case uint64:
		return v == 0
	case int:
		return v == 0
	case []byte:
		return v == nil
	case []string:
		return v == nil
	case api.Attr:
		return v == api.Attr{}
	}
	return true // lists that end with an error
}

// outcome is what a call tells, and what it leaves; it is undone then.
func outcome(t *testing.T, x *Table, c call) (any, string, error) {
	t.Helper()
	var got any
	var after string
	var err error
	root, before := x.Root(), x.Pool().Use()
	is(t, x.Try(func() error {
		blocks := state(x)
		got, err = c.f(x)
		if err != nil && state(x) != blocks {
			t.Fatalf("%s: with an error something was changed", c.name)
		}
		if err != nil && !nothing(got) {
			t.Fatalf("%s: with an error %v", c.name, got)
		}
		if err == nil {
			after = seen(x)
		}
		return errUndo
	}), errUndo)
	if x.Root() != root || x.Pool().Use() != before {
		t.Fatalf("%s was not undone", c.name)
	}
	return got, after, err
}

// TestSpoilt: each block is spoilt in turn: each call answers what it should, or that something is spoilt, and then nothing is changed.
func TestSpoilt(t *testing.T) {
	p, l := made(t, single, 60000)
	x := On(tree.New(p))
	sample(t, x)
	ok(t, p.Commit(nil))
	type result struct {
		told  string
		after string
	}
	want := map[string]result{}
	for _, c := range calls() {
		got, after, err := outcome(t, x, c)
		ok(t, err)
		want[c.name] = result{fmt.Sprint(got), after}
	}
	var places []int
	for b := range p.Blocks() {
		places = append(places, b.At)
	}
	good, bad := 0, 0
	for _, at := range places {
		l[0].Spoil(at, 333, 1)
		for _, c := range calls() {
			got, after, err := outcome(t, x, c)
			w := want[c.name]
			if err != nil {
				bad++
				is(t, err, api.ErrSpoilt)
			} else if good++; fmt.Sprint(got) != w.told {
				t.Fatalf("%s tells %v, wanted %v", c.name, got, w.told)
			} else if after != w.after && !bytes.Contains([]byte(after), []byte(api.ErrSpoilt.Error())) {
				t.Fatalf("%s leaves something else", c.name)
			}
		}
		l[0].Spoil(at, 333, 1)
	}
	if good < len(places)*10 || bad < len(places) {
		t.Fatalf("%d calls went well, %d did not", good, bad)
	}
}

// TestWriteBesideSpoilt: a page can be written anew though others in its block, or it itself, are spoilt.
func TestWriteBesideSpoilt(t *testing.T) {
	p, l := made(t, single, 60000)
	x := On(tree.New(p))
	n := newFile(t, x)
	write(t, x, n, 0, noise(1, 16*page))
	ok(t, p.Commit(nil))
	g, err := x.group(n, 0)
	ok(t, err)
	l[0].Lose(g.parts[0].block.At)
	_, err = x.Read(n, 0, 1)
	is(t, err, api.ErrSpoilt)
	is(t, x.Write(n, 3*page+1, []byte("part")), api.ErrSpoilt)
	is(t, x.Cut(n, 3*page+1), api.ErrSpoilt)
	write(t, x, n, 3*page, noise(2, page))
	reads(t, x, n, 3*page, noise(2, page))
	ok(t, x.Punch(n, 0, 2*page))
	reads(t, x, n, 0, make([]byte, 2*page))
	_, err = x.Read(n, 2*page, 1)
	is(t, err, api.ErrSpoilt)
	sized(t, x, n, 16*page, 14)
	write(t, x, n, 0, noise(3, 16*page))
	reads(t, x, n, 0, noise(3, 16*page))
	ok(t, x.Free(n))
	ok(t, x.Map.Free())
	if p.Use().Used != 0 {
		t.Fatalf("%+v", p.Use())
	}
}

// TestDown: when a disk fails nothing is told but that.
func TestDown(t *testing.T) {
	for _, c := range calls() {
		p, l := made(t, single, 60000)
		x := On(tree.New(p))
		sample(t, x)
		ok(t, p.Commit(nil))
		l[0].Fail(0, 1)
		_, err := c.f(x)
		is(t, err, api.ErrDevice)
		for _, c := range calls() {
			_, err := c.f(x)
			is(t, err, api.ErrDown)
		}
	}
}

// TestRoom: where there is no room nothing is changed.
func TestRoom(t *testing.T) {
	p, _ := made(t, single, 700)
	x := On(tree.New(p))
	sample(t, x)
	ok(t, p.Commit(nil)) // so that rows that are given up are not free at once
	want := seen(x)
	var filler []api.Ptr
	for {
		b, err := p.Put(make([]byte, 300))
		if err != nil {
			is(t, err, api.ErrRoom)
			break
		}
		filler = append(filler, b)
	}
	full := 0
	for range 25 {
		for _, c := range calls() {
			if _, _, err := outcome(t, x, c); err != nil {
				is(t, err, api.ErrRoom)
				full++
			}
		}
		if seen(x) != want {
			t.Fatal("something was changed")
		}
		ok(t, p.Drop(filler[0]))
		filler = filler[1:]
	}
	if full < 50 {
		t.Fatalf("%d calls had no room", full)
	}
}

// TestUndone: a Try around calls undoes them, also the numbers that were given.
func TestUndone(t *testing.T) {
	_, x := begun(t)
	sample(t, x)
	before, want := state(x), seen(x)
	is(t, x.Try(func() error {
		for _, c := range calls() {
			if c.name == "Free" {
				continue
			}
			_, err := c.f(x)
			ok(t, err)
		}
		return errUndo
	}), errUndo)
	if state(x) != before || seen(x) != want {
		t.Fatal("something was changed")
	}
}

// TestJunk: bytes under a table's keys that no table put there make no call panic.
func TestJunk(t *testing.T) {
	p, x := begun(t)
	sample(t, x)
	var keys [][]byte
	for pair, err := range x.Scan(nil, nil) {
		ok(t, err)
		keys = append(keys, pair.Key)
	}
	r := rand.New(rand.NewSource(1))
	wrong := 0
	for i := range 600 {
		k := keys[i%len(keys)]
		b := make([]byte, r.Intn(60))
		r.Read(b)
		if i%3 == 0 {
			b = b[:min(len(b), partBytes)]
		}
		if i%4 == 0 && len(b) > 0 {
			b[0] %= 17
		}
		is(t, x.Try(func() error {
			var block api.Ptr
			if i%2 == 0 {
				var err error
				block, err = p.Put(noise(int64(i), r.Intn(5)*page))
				ok(t, err)
				ok(t, x.Tie(k, b, block))
			} else {
				ok(t, x.Put(k, b))
			}
			for _, c := range calls() {
				if _, err := c.f(x); err != nil {
					wrong++
				}
			}
			return errUndo
		}), errUndo)
	}
	if wrong == 0 {
		t.Fatal("no call minded")
	}
}

// TestNoParts: what is no part of a group is told to be spoilt.
func TestNoParts(t *testing.T) {
	p, x := begun(t)
	n := newFile(t, x)
	ok(t, x.Cut(n, 16*page))
	val := func(total, pages, from int) []byte {
		return number.Append(number.Append([]byte{byte(total)}, uint64(pages), 2), uint64(from), 2)
	}
	for i, c := range []struct {
		val  []byte
		size int
	}{
		{nil, page}, {val(1, 1, 1)[:4], page}, {append(val(1, 1, 1), 0), page},
		{val(0, 0, 0), 0}, {val(0, 1, 1), 0}, {val(17, 1, 1), 17 * page}, {val(1, 2, 1), page}, {val(2, 3, 1), 2 * page}, {val(1, 1, 2), page}, {val(1, 1, 0), page},
		{val(1, 1, 1), 5}, {val(1, 1, 1), page + 1}, {val(2, 1, 1), page},
	} {
		b, err := p.Put(make([]byte, c.size%api.MaxBlock))
		ok(t, err)
		ok(t, x.Tie(pageKey(n, 0), c.val, b))
		_, err = x.Read(n, 0, page)
		if is(t, err, api.ErrSpoilt); i > 9 {
			continue
		}
		noNext(t, x, n, 0, true, api.ErrSpoilt)
	}
	b, err := p.Put(make([]byte, page))
	ok(t, err)
	ok(t, x.Tie(pageKey(n, 0), val(1, 1, 1), b))
	reads(t, x, n, 0, make([]byte, 16*page))
	ok(t, x.Put(nodeKey(n), make([]byte, 10)))
	_, err = x.Attr(n)
	is(t, err, api.ErrSpoilt)
	ok(t, x.Put(nodeKey(n), make([]byte, 100)))
	_, err = x.Attr(n)
	is(t, err, api.ErrSpoilt)
}
