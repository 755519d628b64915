package node

import (
	"bytes"
	"math"
	"slices"
	"testing"

	"bedrock/api"
	"bedrock/tree"
)

// told is what Pages tells, and the error at its end.
func told(t *testing.T, a, b *Table) ([]api.Page, error) {
	t.Helper()
	var l []api.Page
	var end error
	for p, err := range Pages(a, b) {
		if end != nil {
			t.Fatal("an error was not the last one")
		}
		if end = err; err != nil {
			if p != (api.Page{}) {
				t.Fatalf("with an error %+v", p)
			}
			continue
		}
		l = append(l, p)
	}
	return l, end
}

// tells fails if Pages does not tell just these pages, from both sides.
func tells(t *testing.T, a, b *Table, want ...api.Page) {
	t.Helper()
	for range 2 {
		l, err := told(t, a, b)
		if ok(t, err); !slices.Equal(l, want) {
			t.Fatalf("%v are told, wanted %v", l, want)
		}
		a, b = b, a
	}
}

func TestPages(t *testing.T) {
	_, x := begun(t)
	n, o, q := newFile(t, x), newFile(t, x), newFile(t, x)
	write(t, x, n, 0, noise(1, 100*page))
	write(t, x, o, 0, noise(2, 40*page))
	write(t, x, q, 0, noise(3, 40*page))
	tells(t, x, x)
	s := snapped(t, x)
	tells(t, s, x)
	ok(t, x.SetAttr(n, api.Attr{Kind: api.Dir}))
	ok(t, x.SetExtra(n, "name", nil))
	tells(t, s, x)
	write(t, x, n, 20*page, noise(1, 100*page)[20*page:25*page]) // what is there already
	tells(t, s, x)
	write(t, x, n, 50*page+3, []byte("x"))
	ok(t, x.Punch(n, 70*page, page))
	ok(t, x.Lay(n, 95, bytes.Repeat([]byte{0}, 2*page)))
	want := []api.Page{{Node: n, Page: 50}, {Node: n, Page: 70}, {Node: n, Page: 95}, {Node: n, Page: 96}}
	tells(t, s, x, want...)
	ok(t, x.Cut(o, 37*page-1))
	want = append(want, api.Page{Node: o, Page: 36}, api.Page{Node: o, Page: 37}, api.Page{Node: o, Page: 38}, api.Page{Node: o, Page: 39})
	tells(t, s, x, want...)
	ok(t, x.Clone(o, 3, q, 17, 2))
	want = append(want, api.Page{Node: q, Page: 17}, api.Page{Node: q, Page: 18})
	tells(t, s, x, want...)
	r := newFile(t, x)
	write(t, x, r, 1000*page, []byte{1})
	want = append(want, api.Page{Node: r, Page: 1000})
	tells(t, s, x, want...)
	ok(t, x.Lay(77, 1<<32-1, make([]byte, page)))
	want = append(want, api.Page{Node: 77, Page: 1<<32 - 1})
	tells(t, s, x, want...)
	ok(t, s.Free(q))
	l, err := told(t, s, x)
	if ok(t, err); len(l) != len(want)-2+40 {
		t.Fatalf("%d pages are told", len(l))
	}
}

// TestPagesOfNothing: of an empty table all pages are told; a page of zeros is not a hole.
func TestPagesOfNothing(t *testing.T) {
	p, x := begun(t)
	e := On(tree.New(p))
	tells(t, e, x)
	n := newFile(t, x)
	tells(t, e, x)
	write(t, x, n, 15*page, make([]byte, 2*page))
	tells(t, e, x, api.Page{Node: n, Page: 15}, api.Page{Node: n, Page: 16})
	s := snapped(t, x)
	ok(t, x.Punch(n, 15*page, page))
	tells(t, s, x, api.Page{Node: n, Page: 15})
	ok(t, x.Lay(0, 0, make([]byte, page)))
	tells(t, s, x, api.Page{}, api.Page{Node: n, Page: 15})
	for range 2 { // further attributes lie between pages of several nodes: each page is told once
		n = newFile(t, x)
		write(t, x, n, 0, []byte("bytes"))
		ok(t, x.SetExtra(n, "name", nil))
	}
	tells(t, s, x, api.Page{}, api.Page{Node: n - 2, Page: 15}, api.Page{Node: n - 1}, api.Page{Node: n})
}

func TestPagesEnd(t *testing.T) {
	p, x := begun(t)
	n := newFile(t, x)
	write(t, x, n, 0, noise(1, 200*page))
	seq := Pages(On(tree.New(p)), x)
	for range 2 {
		i := 0
		for got, err := range seq {
			if ok(t, err); got != (api.Page{Node: n, Page: i}) {
				t.Fatalf("%+v, wanted page %d", got, i)
			}
			if i++; i == 77 {
				break
			}
		}
	}
	ok(t, x.Cut(n, 0))
	for got := range seq {
		t.Fatalf("%+v is told", got)
	}
}

// TestPagesReadLittle: what both have in common is not read, so it may be spoilt; an error is the last one.
func TestPagesReadLittle(t *testing.T) {
	p, l := made(t, single, 60000)
	x := On(tree.New(p))
	n := newFile(t, x)
	write(t, x, n, 0, noise(1, 100*page))
	s := snapped(t, x)
	ok(t, p.Commit(nil))
	block := func(page int) int {
		g, err := x.group(n, page/groupPages)
		ok(t, err)
		for _, part := range g.parts {
			if part.pages.has(page % groupPages) {
				return part.block.At
			}
		}
		return 0
	}
	old := block(50)
	write(t, x, n, 50*page, noise(2, page))
	write(t, x, n, 90*page, noise(2, page))
	ok(t, p.Commit(nil))
	for _, i := range []int{0, 20, 40, 70, 99} {
		l[0].Spoil(block(i), 200, 1)
	}
	l[0].Spoil(old, 200, 1)
	got, err := told(t, s, x)
	if is(t, err, api.ErrSpoilt); len(got) > 0 {
		t.Fatalf("%v", got)
	}
	l[0].Spoil(old, 200, 1)
	l[0].Spoil(block(99), 200, 1)
	tells(t, s, x, api.Page{Node: n, Page: 50}, api.Page{Node: n, Page: 90})
	l[0].Spoil(block(90), 200, 1)
	got, err = told(t, s, x)
	if is(t, err, api.ErrSpoilt); !slices.Equal(got, []api.Page{{Node: n, Page: 50}}) {
		t.Fatalf("%v", got)
	}
}

// TestPagesInCommon: neither are pages read that lie beside others, in a group that is not the same in both.
func TestPagesInCommon(t *testing.T) {
	p, l := made(t, single, 60000)
	x := On(tree.New(p))
	n := newFile(t, x)
	write(t, x, n, 0, noise(1, 8*page))
	s := snapped(t, x)
	write(t, x, n, 10*page, noise(2, page))
	ok(t, p.Commit(nil))
	g, err := s.group(n, 0)
	ok(t, err)
	l[0].Lose(g.parts[0].block.At)
	tells(t, s, x, api.Page{Node: n, Page: 10})
}

func TestLay(t *testing.T) {
	p, x := begun(t)
	n := newFile(t, x)
	write(t, x, n, 0, noise(1, 40*page))
	is(t, x.Lay(n, -1, nil), api.ErrArg)
	is(t, x.Lay(n, math.MinInt, make([]byte, page)), api.ErrArg)
	is(t, x.Lay(n, 1<<33, make([]byte, page+1)), api.ErrArg)
	is(t, x.Lay(n, 0, make([]byte, 1)), api.ErrArg)
	is(t, x.Lay(n, 0, make([]byte, 17*page)), api.ErrArg)
	is(t, x.Lay(n, 1<<32, make([]byte, page)), api.ErrLong)
	is(t, x.Lay(n, 1<<32-15, make([]byte, 16*page)), api.ErrLong)
	is(t, x.Lay(n, 1<<32+1, nil), api.ErrLong)
	is(t, x.Lay(n, math.MaxInt, nil), api.ErrLong)
	before := state(x)
	ok(t, x.Lay(n, 1<<32, nil))
	ok(t, x.Lay(n, 1<<32-1, nil))
	ok(t, x.Lay(n, 40, nil))
	ok(t, x.Lay(99, 0, nil))
	if state(x) != before {
		t.Fatal("a hole that is laid to a hole changes something")
	}
	want := noise(1, 40*page)
	ok(t, x.Lay(n, 9, noise(2, 16*page))) // over two groups
	copy(want[9*page:], noise(2, 16*page))
	reads(t, x, n, 0, want)
	ok(t, x.Lay(n, 20, nil))
	clear(want[20*page : 21*page])
	reads(t, x, n, 0, want)
	sized(t, x, n, 40*page, 40) // Lay changes nothing of that
	nexts(t, x, n, 0, false, 20*page)
	ok(t, x.Lay(n, 41, noise(3, page)))
	sized(t, x, n, 40*page, 40)
	ok(t, x.Cut(n, 40*page))
	nexts(t, x, n, 0, false, 20*page)
	ok(t, x.Lay(n, 20, noise(4, page)))
	copy(want[20*page:], noise(4, page))
	reads(t, x, n, 0, want)
	ok(t, x.Lay(math.MaxUint64, 3, noise(5, 2*page)))
	if _, err := x.Attr(math.MaxUint64); err != error(api.ErrNode) {
		t.Fatal(err)
	}
	if l, err := nodes(x); err != nil || len(l) != 1 {
		t.Fatalf("%v, %v", l, err)
	}
	ok(t, x.Lay(math.MaxUint64, 3, nil))
	ok(t, x.Lay(math.MaxUint64, 4, nil))
	ok(t, x.Free(n))
	if left := p.Use().Used; left > 1 {
		t.Fatalf("%d rows are in use by nothing", left)
	}
	ok(t, x.Lay(5, 0, noise(6, 16*page)))
	ok(t, x.Map.Free())
	if p.Use().Used != 0 {
		t.Fatalf("%+v", p.Use())
	}
}

// TestLaidPagesUncounted: pages that were laid and not counted make no count fall below 0.
func TestLaidPagesUncounted(t *testing.T) {
	_, x := begun(t)
	n, o := newFile(t, x), newFile(t, x)
	ok(t, x.Lay(n, 0, noise(1, 9*page)))
	ok(t, x.Cut(n, 5*page))
	sized(t, x, n, 5*page, 0)
	ok(t, x.Clone(o, 0, n, 0, 2))
	sized(t, x, n, 5*page, 0)
	ok(t, x.Punch(n, 0, 4*page))
	sized(t, x, n, 5*page, 0)
	ok(t, x.Free(n))
}
