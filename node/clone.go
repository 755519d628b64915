package node

import (
	"bytes"
	"iter"

	"bedrock/api"
	"bedrock/tree"
)

// Clone lets pages of a node be what those of another one are, in the same blocks.
func (t *Table) Clone(from uint64, page int, to uint64, where, pages int) error {
	a, err := t.Attr(from)
	if err != nil {
		return err
	}
	was, err := t.Attr(to)
	switch {
	case err != nil:
		return err
	case page < 0 || where < 0 || pages < 0:
		return api.ErrArg
	case pages > api.MaxClone || page > mostPages-pages || where > mostPages-pages:
		return api.ErrLong
	}
	now := was
	if end := min(pages*api.PageSize, a.Size-page*api.PageSize); end > 0 {
		now.Size = max(now.Size, where*api.PageSize+end)
	}
	return t.Try(func() error {
		l, err := t.copies(from, page, where, pages)
		if err != nil {
			return err
		}
		for _, c := range l {
			more, err := t.cover(to, c, window(where-c.number*groupPages, where+pages-c.number*groupPages))
			if err != nil {
				return err
			}
			now.Pages = max(now.Pages+more, 0) // pages that were laid were not counted
		}
		return t.keep(to, was, now)
	})
}

// copies is what Clone lays, by the groups to which it comes, with a use of each block. All of it is taken ahead of what is changed, since both may be pages of one node.
func (t *Table) copies(from uint64, page, where, pages int) ([]group, error) {
	var l []group
	for i := where / groupPages; i*groupPages < where+pages; i++ {
		c := group{number: i}
		into := window(where-i*groupPages, where+pages-i*groupPages)
		for g, err := range t.groups(from, page, page+pages) {
			if err != nil {
				return nil, err
			}
			by := (g.number-i)*groupPages + where - page
			for _, p := range g.parts {
				if p = p.moved(by, into); p.pages == 0 {
					continue
				}
				if err := t.Pool().Share(p.block); err != nil {
					return nil, err
				}
				c.parts = append(c.parts, p)
			}
		}
		l = append(l, c)
	}
	return l, nil
}

// cover lets pages of a group be those of c alone; it tells how many more are data.
func (t *Table) cover(n uint64, c group, which mask) (int, error) {
	g, err := t.group(n, c.number)
	if err != nil {
		return 0, err
	}
	if err := t.alter(n, g, which, pages{}); err != nil {
		return 0, err
	}
	for _, p := range c.parts {
		if err := t.tie(n, c, p); err != nil {
			return 0, err
		}
	}
	return c.data().count() - (g.data() & which).count(), nil
}

// Lay gives pages bytes, and changes nothing else.
func (t *Table) Lay(n uint64, page int, b []byte) error {
	count := len(b) / api.PageSize
	switch {
	case page < 0 || len(b)%api.PageSize > 0 || count > groupPages:
		return api.ErrArg
	case page > mostPages-count:
		return api.ErrLong
	}
	return t.Try(func() error {
		end := page + max(count, 1)
		for i := page / groupPages; i*groupPages < end; i++ {
			if err := t.layGroup(n, i, page-i*groupPages, b); err != nil {
				return err
			}
		}
		return nil
	})
}

// layGroup lays what of b, which begins at that page of a group (or ahead of it), is in the group.
func (t *Table) layGroup(n uint64, number, page int, b []byte) error {
	g, err := t.group(n, number)
	if err != nil {
		return err
	}
	if len(b) == 0 {
		return t.alter(n, g, window(page, page+1), pages{})
	}
	var fresh pages
	for i := range fresh {
		if at := (i - page) * api.PageSize; at >= 0 && at < len(b) {
			fresh[i] = b[at : at+api.PageSize]
		}
	}
	return t.alter(n, g, 0, fresh)
}

// Pages goes over the pages that are not the same in both tables.
func Pages(a, b *Table) iter.Seq2[api.Page, error] {
	return func(yield func(api.Page, error) bool) {
		done := api.Page{Page: -1} // the last group that was looked at, as the number of its first page
		for c, err := range tree.Diff(a.Map, b.Map) {
			x, is := pageOf(c.Key)
			if err == nil && !is {
				continue
			}
			x.Page -= x.Page % groupPages
			if err == nil && x == done {
				continue
			}
			done = x
			var m mask
			if err == nil {
				m, err = unlike(a, b, x.Node, x.Page/groupPages)
			}
			if err != nil {
				yield(api.Page{}, err)
				return
			}
			for ; m > 0; m = m.rest() {
				if !yield(api.Page{Node: x.Node, Page: x.Page + m.first()}, nil) {
					return
				}
			}
		}
	}
}

// unlike is which pages of a group are not the same in both tables.
func unlike(a, b *Table, n uint64, number int) (mask, error) {
	x, err := a.group(n, number)
	if err != nil {
		return 0, err
	}
	y, err := b.group(n, number)
	if err != nil {
		return 0, err
	}
	both := x.data() & y.data() &^ common(x, y)
	old, err := a.read(x, both)
	if err != nil {
		return 0, err
	}
	now, err := b.read(y, both)
	if err != nil {
		return 0, err
	}
	m := x.data() ^ y.data()
	for i := range old {
		if !bytes.Equal(old[i], now[i]) {
			m |= 1 << i
		}
	}
	return m, nil
}

// common is which pages of two groups lie in the same place: they need not be read.
func common(x, y group) mask {
	type place struct {
		block api.Ptr
		at    int
	}
	var in [groupPages]place
	for _, p := range x.parts {
		for i, at := range p.each() {
			in[i] = place{p.block, at}
		}
	}
	var m mask
	for _, p := range y.parts {
		for i, at := range p.each() {
			if in[i] == (place{p.block, at}) {
				m |= 1 << i
			}
		}
	}
	return m
}
