package node

import (
	"bedrock/api"
)

// Clone lets pages of a node be what those of another one are, in the same blocks.
func (t *Table) Clone(from uint64, page int, to uint64, where, pages int) error {
	a, err := t.Attr(from)
	if err != nil {
		return err
	}
	was, err := t.Attr(to)
	switch {
	case err != nil:
		return err
	case page < 0 || where < 0 || pages < 0:
		return api.ErrArg
	case pages > api.MaxClone || page > mostPages-pages || where > mostPages-pages:
		return api.ErrLong
	}
	now := was
	if end := min(pages*api.PageSize, a.Size-page*api.PageSize); end > 0 {
		now.Size = max(now.Size, where*api.PageSize+end)
	}
	return t.Try(func() error {
		l, err := t.copies(from, page, where, pages)
		if err != nil {
			return err
		}
		for _, c := range l {
			more, err := t.cover(to, c, window(where-c.number*groupPages, where+pages-c.number*groupPages))
			if err != nil {
				return err
			}
			now.Pages = max(now.Pages+more, 0) // pages that were laid were not counted
		}
		return t.keep(to, was, now)
	})
}

// copies is what Clone lays, by the groups to which it comes, with a use of each block. All of it is taken ahead of what is changed, since both may be pages of one node.
func (t *Table) copies(from uint64, page, where, pages int) ([]group, error) {
	var l []group
	for i := where / groupPages; i*groupPages < where+pages; i++ {
		c := group{number: i}
		into := window(where-i*groupPages, where+pages-i*groupPages)
		for g, err := range t.groups(from, page, page+pages) {
			if err != nil {
				return nil, err
			}
			by := (g.number-i)*groupPages + where - page
			for _, p := range g.parts {
				if p = p.moved(by, into); p.pages == 0 {
					continue
				}
				if err := t.Pool().Share(p.block); err != nil {
					return nil, err
				}
				c.parts = append(c.parts, p)
			}
		}
		l = append(l, c)
	}
	return l, nil
}

// cover lets pages of a group be those of c alone; it tells how many more are data.
func (t *Table) cover(n uint64, c group, which mask) (int, error) {
	g, err := t.group(n, c.number)
	if err != nil {
		return 0, err
	}
	if err := t.alter(n, g, which, pages{}); err != nil {
		return 0, err
	}
	for _, p := range c.parts {
		if err := t.tie(n, c, p); err != nil {
			return 0, err
		}
	}
	return c.data().count() - (g.data() & which).count(), nil
}
