package node

import (
	"errors"
	"iter"

	"bedrock/api"
	"bedrock/code"
)

// group is what a node has of a group of pages: no two of its parts have one page. Each is in the map under the key of its first page.
type group struct {
	number int
	parts  []part
}

// pages is the bytes of a group's pages: nil of those that it has not.
type pages [groupPages][]byte

// data is which pages are data.
func (g group) data() mask {
	var m mask
	for _, p := range g.parts {
		m |= p.pages
	}
	return m
}

// at is the first byte of the group.
func (g group) at() int { return g.number * groupBytes }

// page is the first page of a part of the group.
func (g group) page(p part) int { return g.number*groupPages + p.pages.first() }

func (l *pages) mask() mask {
	var m mask
	for i, b := range l {
		if b != nil {
			m |= 1 << i
		}
	}
	return m
}

// groups goes over the groups with data of which pages are from first on, ahead of end.
func (t *Table) groups(n uint64, first, end int) iter.Seq2[group, error] {
	from := first / groupPages * groupPages
	to := (end + groupPages - 1) / groupPages * groupPages
	return func(yield func(group, error) bool) {
		var g group
		for pair, err := range t.Scan(pageKey(n, from), pageKey(n, to)) {
			x, is := pageOf(pair.Key)
			if err == nil && !is {
				continue
			}
			var p part
			if err == nil {
				p, err = partOf(pair, x.Page)
			}
			if err != nil {
				yield(group{}, err)
				return
			}
			number := x.Page / groupPages
			if len(g.parts) > 0 && g.number != number {
				if !yield(g, nil) {
					return
				}
				g = group{}
			}
			g.number = number
			g.parts = append(g.parts, p)
		}
		if len(g.parts) > 0 {
			yield(g, nil)
		}
	}
}

// group is the group of that number, with data or without.
func (t *Table) group(n uint64, number int) (group, error) {
	for g, err := range t.groups(n, number*groupPages, (number+1)*groupPages) {
		return g, err
	}
	return group{number: number}, nil
}

// read is the pages of a group that are wanted, and are data.
func (t *Table) read(g group, want mask) (pages, error) {
	var out pages
	for _, p := range g.parts {
		if p = p.moved(0, want); p.pages == 0 {
			continue
		}
		if err := t.load(p, &out); err != nil {
			return pages{}, err
		}
	}
	return out, nil
}

// load lays the pages of a part to others.
func (t *Table) load(p part, to *pages) error {
	b, err := t.Pool().Get(p.block)
	if err != nil {
		return err
	}
	size := p.total * api.PageSize
	if len(b) != size { // then it is a short form
		b, err = code.Swell(b, size)
	}
	if err != nil || len(b) != size {
		return api.ErrSpoilt
	}
	for i, from := range p.each() {
		to[i] = b[from*api.PageSize : (from+1)*api.PageSize]
	}
	return nil
}

// alter makes holes of pages of a group, and lays others into it. Of blocks of which pages go away, or to which others come, those that nobody else uses are made anew, with just what there is of the group: so what is written bit by bit lies in few blocks, and holes take no room.
func (t *Table) alter(n uint64, g group, holes mask, fresh pages) error {
	laid := fresh.mask()
	for _, p := range g.parts {
		rest := p.moved(0, ^(holes | laid))
		if rest == p && (laid == 0 || t.Pool().Uses(p.block) > 1) {
			continue
		}
		if err := t.shrink(n, g, p, rest, &fresh); err != nil {
			return err
		}
	}
	return t.fill(n, g, &fresh)
}

// shrink takes a part away, of which the rest is still needed: this goes to those pages that are laid anew, if nobody else uses its block; or it stays in it.
func (t *Table) shrink(n uint64, g group, p, rest part, to *pages) error {
	if rest.pages == 0 {
		return t.Del(pageKey(n, g.page(p)))
	}
	pool := t.Pool()
	if err := pool.Share(p.block); err != nil {
		return err
	}
	if err := t.Del(pageKey(n, g.page(p))); err != nil {
		return err
	}
	// Only now is it known who else uses it: maps that have a node of the tree in common have been parted there.
	if pool.Uses(p.block) == 1 {
		err := t.load(rest, to)
		if err == nil {
			return pool.Drop(p.block)
		}
		if !errors.Is(err, api.ErrSpoilt) { // else other pages can still be written
			return err
		}
	}
	return t.tie(n, g, rest)
}

// fill puts pages into a block.
func (t *Table) fill(n uint64, g group, l *pages) error {
	p := part{pages: l.mask()}
	if p.pages == 0 {
		return nil
	}
	p.total = p.pages.count()
	p.from = window(0, p.total)
	var b []byte
	for _, page := range l {
		b = append(b, page...)
	}
	short, err := code.Squeeze(b)
	if err != nil {
		return err
	}
	if len(short) < len(b) {
		b = short
	}
	p.block, err = t.Pool().Put(b)
	if err != nil {
		return err
	}
	return t.tie(n, g, p)
}

// tie gives a part to the map, with a use of its block.
func (t *Table) tie(n uint64, g group, p part) error {
	return t.Tie(pageKey(n, g.page(p)), p.bytes(), p.block)
}
