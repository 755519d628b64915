package fs

import (
	"slices"

	"bedrock/api"
)

// The bits of a Set's What.
const (
	setMode = 1 << iota
	setUid
	setGid
	setProject
	behindSet // all What are below it
)

// Change changes what is told of a node.
func (f *FS) Change(c api.Cred, n uint64, how api.Set) error {
	if f.fixed {
		return api.ErrReadOnly
	}
	x, err := f.item(n)
	if err != nil {
		return err
	}
	if err := mayChange(c, x, how); err != nil || how.What == 0 {
		return err
	}
	return f.turn(func(t *turn) error {
		t.count(x.Attr, -1)
		x.Attr = changed(c, x.Attr, how)
		t.count(x.Attr, 1)
		return t.save(x)
	})
}

// mayChange tells what stands against a change.
func mayChange(c api.Cred, x item, how api.Set) error {
	has := func(bits int) bool { return how.What&bits > 0 }
	wrong := func(bit, n, most int) bool { return has(bit) && (n < 0 || n > most) }
	switch {
	case how.What < 0 || how.What >= behindSet, wrong(setMode, how.Mode, allBits):
		return api.ErrArg
	case wrong(setUid, how.Uid, maxID), wrong(setGid, how.Gid, maxID), wrong(setProject, how.Project, maxID):
		return api.ErrArg
	case c.Uid == admin || x.open:
		return nil
	case c.Uid != x.Uid, has(setUid | setProject), has(setGid) && !slices.Contains(c.Gids, how.Gid):
		return api.ErrPerm
	}
	return nil
}

// changed is what a node is told to be behind a change by c.
func changed(c api.Cred, a api.Attr, how api.Set) api.Attr {
	if how.What&setMode > 0 {
		a.Mode = how.Mode
	}
	if how.What&setUid > 0 {
		a.Uid = how.Uid
	}
	if how.What&setGid > 0 {
		a.Gid = how.Gid
		if c.Uid != admin {
			a.Mode &^= powers
		}
	}
	if how.What&setProject > 0 {
		a.Project = how.Project
	}
	return a
}

// Extra tells a further attribute's value.
func (f *FS) Extra(c api.Cred, n uint64, name string) ([]byte, error) {
	if err := f.May(c, n, read); err != nil {
		return nil, err
	}
	return f.table.Extra(n, name)
}

// Extras tells the names of a node's further attributes.
func (f *FS) Extras(c api.Cred, n uint64) ([]string, error) {
	if err := f.May(c, n, read); err != nil {
		return nil, err
	}
	return f.table.Extras(n)
}

// SetExtra gives a further attribute a value.
func (f *FS) SetExtra(c api.Cred, n uint64, name string, val []byte) error {
	return f.extra(c, n, func() error { return f.table.SetExtra(n, name, val) })
}

// DelExtra takes a further attribute away.
func (f *FS) DelExtra(c api.Cred, n uint64, name string) error {
	return f.extra(c, n, func() error { return f.table.DelExtra(n, name) })
}

// extra is the turn in which do changes the further attributes of a node, if c may.
func (f *FS) extra(c api.Cred, n uint64, do func() error) error {
	if f.fixed {
		return api.ErrReadOnly
	}
	x, err := f.item(n)
	switch {
	case err != nil:
		return err
	case !x.lets(c, write):
		return api.ErrAccess
	}
	return f.turn(func(t *turn) error {
		if err := do(); err != nil {
			return err
		}
		return t.save(x)
	})
}
