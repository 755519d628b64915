package node

import (
	"bedrock/api"
)

// reach tells what a node is, if so many bytes, at most that many, may be asked of it from at on.
func (t *Table) reach(n uint64, at, size, most int) (api.Attr, error) {
	a, err := t.Attr(n)
	switch {
	case err != nil:
		return api.Attr{}, err
	case at < 0 || size < 0:
		return api.Attr{}, api.ErrArg
	case size > most || at > api.MaxFile-size:
		return api.Attr{}, api.ErrLong
	}
	return a, nil
}

// pageEnd is the first page that begins at that byte or behind it.
func pageEnd(at int) int { return (at + api.PageSize - 1) / api.PageSize }

// Read reads bytes of a node.
func (t *Table) Read(n uint64, at, size int) ([]byte, error) {
	a, err := t.reach(n, at, size, api.MaxIO)
	if err != nil {
		return nil, err
	}
	size = min(size, a.Size-at)
	if size <= 0 {
		return nil, nil
	}
	out := make([]byte, size)
	for g, err := range t.groups(n, at/api.PageSize, pageEnd(at+size)) {
		if err != nil {
			return nil, err
		}
		from := at - g.at()
		l, err := t.read(g, window(from/api.PageSize, pageEnd(from+size)))
		if err != nil {
			return nil, err
		}
		for i, page := range l {
			copyAt(out, i*api.PageSize-from, page)
		}
	}
	return out, nil
}

// copyAt lays b into out from a place on that may be ahead of its beginning, as far as both go.
func copyAt(out []byte, at int, b []byte) {
	if at < 0 {
		b = b[min(-at, len(b)):]
		at = 0
	}
	if at < len(out) {
		copy(out[at:], b)
	}
}

// Write writes bytes to a node.
func (t *Table) Write(n uint64, at int, b []byte) error {
	was, err := t.reach(n, at, len(b), api.MaxIO)
	if err != nil || len(b) == 0 {
		return err
	}
	return t.Try(func() error {
		now := was
		for i := at / groupBytes; i*groupBytes < at+len(b); i++ {
			more, err := t.writeGroup(n, i, at-i*groupBytes, b)
			if err != nil {
				return err
			}
			now.Pages += more
		}
		now.Size = max(now.Size, at+len(b))
		return t.keep(n, was, now)
	})
}

// writeGroup writes what of b, which begins at that byte of a group (or ahead of it), is in the group; it tells how many pages more are data.
func (t *Table) writeGroup(n uint64, number, at int, b []byte) (int, error) {
	g, err := t.group(n, number)
	if err != nil {
		return 0, err
	}
	start, end := max(at, 0), min(at+len(b), groupBytes)
	touched := window(start/api.PageSize, pageEnd(end))
	whole := window(pageEnd(start), end/api.PageSize)
	old, err := t.read(g, touched&^whole)
	if err != nil {
		return 0, err
	}
	room := make([]byte, groupBytes)
	var fresh pages
	for i := range fresh {
		if touched.has(i) {
			fresh[i] = room[i*api.PageSize : (i+1)*api.PageSize]
			copy(fresh[i], old[i])
		}
	}
	copyAt(room, at, b)
	return (touched &^ g.data()).count(), t.alter(n, g, 0, fresh)
}

// Cut gives a node another size.
func (t *Table) Cut(n uint64, size int) error {
	was, err := t.reach(n, 0, size, api.MaxFile)
	if err != nil {
		return err
	}
	return t.Try(func() error {
		return t.sweep(n, was, size, api.MaxFile, size)
	})
}

// Punch makes bytes 0, and holes of whole pages.
func (t *Table) Punch(n uint64, at, size int) error {
	was, err := t.reach(n, at, size, api.MaxFile)
	if err != nil {
		return err
	}
	end := min(at+size, was.Size)
	if at >= end {
		return nil
	}
	if end == was.Size { // those behind it in its page are 0 already
		end = pageEnd(end) * api.PageSize
	}
	return t.Try(func() error {
		return t.sweep(n, was, at, end, was.Size)
	})
}

// sweep makes bytes from start on, ahead of end, 0: pages that have no others become holes. The node, of which was is told, has that size then.
func (t *Table) sweep(n uint64, was api.Attr, start, end, size int) error {
	var l []group
	for g, err := range t.groups(n, start/api.PageSize, pageEnd(end)) {
		if err != nil {
			return err
		}
		l = append(l, g)
	}
	now := was
	now.Size = size
	for _, g := range l {
		fewer, err := t.sweepGroup(n, g, max(start-g.at(), 0), min(end-g.at(), groupBytes))
		if err != nil {
			return err
		}
		now.Pages = max(now.Pages-fewer, 0) // pages that were laid were not counted
	}
	return t.keep(n, was, now)
}

// sweepGroup does so with the bytes of a group; it tells how many pages fewer are data.
func (t *Table) sweepGroup(n uint64, g group, start, end int) (int, error) {
	holes := window(pageEnd(start), end/api.PageSize) & g.data()
	edges := window(start/api.PageSize, pageEnd(end)) &^ holes
	fresh, err := t.read(g, edges)
	if err != nil {
		return 0, err
	}
	for i, page := range fresh {
		first := i * api.PageSize
		if page != nil && !wipe(page[max(start-first, 0):min(end-first, api.PageSize)]) {
			fresh[i] = nil
		}
	}
	return holes.count(), t.alter(n, g, holes, fresh)
}

// wipe makes bytes 0; it tells whether one was not.
func wipe(b []byte) bool {
	found := false
	for i := range b {
		found = found || b[i] != 0
		b[i] = 0
	}
	return found
}

// Next tells where the next byte of data is, or of a hole.
func (t *Table) Next(n uint64, at int, data bool) (int, error) {
	a, err := t.reach(n, at, 0, 0)
	if err != nil {
		return 0, err
	}
	if at >= a.Size {
		return 0, api.ErrMissing
	}
	next := t.nextHole
	if data {
		next = t.nextData
	}
	page, err := next(n, at/api.PageSize, pageEnd(a.Size))
	if err != nil {
		return 0, err
	}
	return min(max(at, page*api.PageSize), a.Size), nil
}

// nextData is the first page of data from first on, ahead of end.
func (t *Table) nextData(n uint64, first, end int) (int, error) {
	for g, err := range t.groups(n, first, end) {
		if err != nil {
			return 0, err
		}
		at := g.number * groupPages
		if m := g.data() & window(first-at, end-at); m > 0 {
			return at + m.first(), nil
		}
	}
	return 0, api.ErrMissing
}

// nextHole is the first page that is a hole, from first on; end or one behind it, if there is none ahead of it.
func (t *Table) nextHole(n uint64, first, end int) (int, error) {
	for g, err := range t.groups(n, first, end) {
		if err != nil {
			return 0, err
		}
		at := g.number * groupPages
		if at > first {
			break
		}
		if m := window(first-at, groupPages) &^ g.data(); m > 0 {
			return at + m.first(), nil
		}
		first = at + groupPages
	}
	return first, nil
}
