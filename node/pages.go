package node

import (
	"bytes"
	"iter"
	"slices"

	"bedrock/api"
	"bedrock/tree"
)

// couple is a group of a node's pages as two tables have it, and which of them are not the same in both.
type couple struct {
	node     uint64
	old, now group
	unlike   mask
}

// page is the first page of the group.
func (w couple) page() int { return w.now.number * groupPages }

// couples goes over the groups in which pages are not the same in both tables.
func couples(a, b *Table) iter.Seq2[couple, error] {
	return func(yield func(couple, error) bool) {
		done := api.Page{Page: -1} // the last group that was looked at, as the number of its first page
		for c, err := range tree.Diff(a.Map, b.Map) {
			x, is := pageOf(c.Key)
			if err == nil && !is {
				continue
			}
			x.Page -= x.Page % groupPages
			if err == nil && x == done {
				continue
			}
			done = x
			var w couple
			if err == nil {
				w, err = coupleOf(a, b, x.Node, x.Page/groupPages)
			}
			if err != nil {
				yield(couple{}, err)
				return
			}
			if w.unlike > 0 && !yield(w, nil) {
				return
			}
		}
	}
}

// Pages goes over the pages that are not the same in both tables.
func Pages(a, b *Table) iter.Seq2[api.Page, error] {
	return func(yield func(api.Page, error) bool) {
		for w, err := range couples(a, b) {
			if err != nil {
				yield(api.Page{}, err)
				return
			}
			for m := w.unlike; m > 0; m = m.rest() {
				if !yield(api.Page{Node: w.node, Page: w.page() + m.first()}, nil) {
					return
				}
			}
		}
	}
}

// Patches goes over what Pages tells, and tells what becomes of it: Apply of all of them lets the first table have the pages of the second one.
func Patches(a, b *Table) iter.Seq2[Patch, error] {
	return func(yield func(Patch, error) bool) {
		for w, err := range couples(a, b) {
			var l pages
			if err == nil {
				l, err = b.read(w.now, w.unlike)
			}
			if err != nil {
				yield(Patch{}, err)
				return
			}
			for _, p := range w.patches(l) {
				if !yield(p, nil) {
					return
				}
			}
		}
	}
}

// patches is what becomes of the pages that are not the same: those of l are data, all others holes.
func (w couple) patches(l pages) []Patch {
	var out []Patch
	for m := w.unlike; m > 0; m = m.rest() {
		i := m.first()
		p := Patch{w.node, w.page() + i, 1, slices.Clone(l[i])}
		if k := len(out) - 1; k >= 0 && out[k].meets(p) {
			out[k].Pages++
			out[k].Bytes = append(out[k].Bytes, p.Bytes...)
			continue
		}
		out = append(out, p)
	}
	return out
}

// meets tells whether what another patch has comes just behind what p has, and is of its kind.
func (p Patch) meets(o Patch) bool {
	return p.Page+p.Pages == o.Page && (len(p.Bytes) > 0) == (len(o.Bytes) > 0)
}

// coupleOf is a group as both tables have it.
func coupleOf(a, b *Table, n uint64, number int) (couple, error) {
	x, err := a.group(n, number)
	if err != nil {
		return couple{}, err
	}
	y, err := b.group(n, number)
	if err != nil {
		return couple{}, err
	}
	m, err := unlike(a, b, x, y)
	return couple{n, x, y, m}, err
}

// unlike is which pages of a group are not the same in both tables.
func unlike(a, b *Table, x, y group) (mask, error) {
	both := x.data() & y.data() &^ common(x, y)
	old, err := a.read(x, both)
	if err != nil {
		return 0, err
	}
	now, err := b.read(y, both)
	if err != nil {
		return 0, err
	}
	m := x.data() ^ y.data()
	for i := range old {
		if !bytes.Equal(old[i], now[i]) {
			m |= 1 << i
		}
	}
	return m, nil
}

// common is which pages of two groups lie in the same place: they need not be read.
func common(x, y group) mask {
	type place struct {
		block api.Ptr
		at    int
	}
	var in [groupPages]place
	for _, p := range x.parts {
		for i, at := range p.each() {
			in[i] = place{p.block, at}
		}
	}
	var m mask
	for _, p := range y.parts {
		for i, at := range p.each() {
			if in[i] == (place{p.block, at}) {
				m |= 1 << i
			}
		}
	}
	return m
}
