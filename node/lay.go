package node

import "bedrock/api"

// Patch is pages of a node one behind the other, of one group, that are not the same in two tables: what they are in the second one.
type Patch struct {
	Node  uint64
	Page  int    // the first one
	Pages int    // how many
	Bytes []byte // theirs; none, if they are holes
}

// Lay gives pages bytes, and changes nothing else.
func (t *Table) Lay(n uint64, page int, b []byte) error {
	count := len(b) / api.PageSize
	switch {
	case page < 0 || len(b)%api.PageSize > 0 || count > groupPages:
		return api.ErrArg
	case page > mostPages-count:
		return api.ErrLong
	}
	return t.lay(Patch{n, page, max(count, 1), b})
}

// Apply lets pages be what a patch says, and changes nothing else.
func (t *Table) Apply(p Patch) error {
	if !p.Good() {
		return api.ErrArg
	}
	return t.lay(p)
}

// Good tells whether a patch is one that Patches might tell.
func (p Patch) Good() bool {
	switch {
	case p.Page < 0 || p.Pages < 1 || p.Pages > groupPages-p.Page%groupPages:
		return false
	case p.Page > mostPages-p.Pages:
		return false
	}
	return len(p.Bytes) == 0 || len(p.Bytes) == p.Pages*api.PageSize
}

// lay lets pages be what a patch says; it may be of two groups.
func (t *Table) lay(p Patch) error {
	return t.Try(func() error {
		for i := p.Page / groupPages; i*groupPages < p.Page+p.Pages; i++ {
			if err := t.layGroup(p, i); err != nil {
				return err
			}
		}
		return nil
	})
}

// layGroup does so with those pages that are in a group.
func (t *Table) layGroup(p Patch, number int) error {
	g, err := t.group(p.Node, number)
	if err != nil {
		return err
	}
	page := p.Page - number*groupPages
	if len(p.Bytes) == 0 {
		return t.alter(p.Node, g, window(page, page+p.Pages), pages{})
	}
	var fresh pages
	for i := range fresh {
		if at := (i - page) * api.PageSize; at >= 0 && at < len(p.Bytes) {
			fresh[i] = p.Bytes[at : at+api.PageSize]
		}
	}
	return t.alter(p.Node, g, 0, fresh)
}
