package fs

import (
	"errors"

	"bedrock/api"
	"bedrock/dir"
)

// Create makes a node, under a name.
func (f *FS) Create(c api.Cred, d uint64, name string, what api.New) (uint64, error) {
	if f.fixed {
		return 0, api.ErrReadOnly
	}
	in, err := f.item(d)
	if err != nil {
		return 0, err
	}
	if err := f.mayCreate(c, in, name, what); err != nil {
		return 0, err
	}
	var n uint64
	err = f.turn(func(t *turn) error {
		var err error
		if n, err = t.create(c, in, what); err != nil {
			return err
		}
		return t.enter(in, api.Entry{Name: name, Node: n, Kind: what.Kind})
	})
	if err != nil {
		return 0, err
	}
	return n, nil
}

// mayCreate tells what stands against a new node.
func (f *FS) mayCreate(c api.Cred, in item, name string, what api.New) error {
	link := what.Kind == api.Link
	switch {
	case in.Kind != api.Dir:
		return api.ErrNotDir
	case in.Links == 0:
		return api.ErrMissing
	case !dir.Good(name):
		return api.ErrName
	case !link && what.Kind != api.File && what.Kind != api.Dir:
		return api.ErrArg
	case what.Mode < 0 || what.Mode > allBits || what.Target != "" && !link:
		return api.ErrArg
	case len(what.Target) > api.MaxPath:
		return api.ErrLong
	case link && what.Target == "":
		return api.ErrMissing
	case !in.lets(c, write|pass):
		return api.ErrAccess
	}
	return f.vacant(in, name)
}

// vacant tells whether a name is still to be had in a directory.
func (f *FS) vacant(in item, name string) error {
	_, err := f.look(in, name)
	switch {
	case err == nil:
		return api.ErrExists
	case errors.Is(err, api.ErrMissing):
		return nil
	}
	return err
}

// create makes a node that comes into the directory in.
func (t *turn) create(c api.Cred, in item, what api.New) (uint64, error) {
	a := api.Attr{Kind: what.Kind, Mode: what.Mode, Uid: c.Uid, Project: in.Project, Links: 1, Fold: in.Fold, Turn: t.number}
	if len(c.Gids) > 0 {
		a.Gid = c.Gids[0]
	}
	if in.Mode&group > 0 {
		a.Gid = in.Gid
	}
	if a.Kind == api.Dir {
		a.Parent = in.number
		a.Mode |= in.Mode & group
	}
	n, err := t.table.Make(a)
	if err != nil {
		return 0, err
	}
	if err := t.table.Write(n, 0, []byte(what.Target)); err != nil {
		return 0, err
	}
	x, err := t.item(n)
	t.count(x.Attr, 1)
	return n, err
}

// enter lays an entry into a directory.
func (t *turn) enter(in item, e api.Entry) error {
	if err := dir.Enter(t.table.Map, in.number, in.Fold, e); err != nil {
		return err
	}
	return t.save(in)
}

// leave takes an entry out of a directory.
func (t *turn) leave(in item, name string) error {
	if err := dir.Leave(t.table.Map, in.number, in.Fold, name); err != nil {
		return err
	}
	return t.save(in)
}

// Link gives a node one more name.
func (f *FS) Link(c api.Cred, n, d uint64, name string) error {
	if f.fixed {
		return api.ErrReadOnly
	}
	x, in, err := f.items(n, d)
	if err != nil {
		return err
	}
	if err := f.mayLink(c, x, in, name); err != nil {
		return err
	}
	return f.turn(func(t *turn) error {
		if err := t.enter(in, api.Entry{Name: name, Node: n, Kind: x.Kind}); err != nil {
			return err
		}
		x.Links++
		return t.save(x)
	})
}

// mayLink tells what stands against one more name of x.
func (f *FS) mayLink(c api.Cred, x, in item, name string) error {
	switch {
	case in.Kind != api.Dir:
		return api.ErrNotDir
	case in.Links == 0:
		return api.ErrMissing
	case x.Kind == api.Dir:
		return api.ErrIsDir
	case !dir.Good(name):
		return api.ErrName
	case x.Links == 0:
		return api.ErrMissing
	case !in.lets(c, write|pass):
		return api.ErrAccess
	}
	err := f.vacant(in, name)
	if err == nil && x.Links >= api.MaxLinks {
		err = api.ErrMany
	}
	return err
}

// Remove takes a name away.
func (f *FS) Remove(c api.Cred, d uint64, name string) error {
	if f.fixed {
		return api.ErrReadOnly
	}
	in, err := f.item(d)
	switch {
	case err != nil:
		return err
	case in.Kind != api.Dir:
		return api.ErrNotDir
	case !dir.Good(name):
		return api.ErrName
	case !in.lets(c, write|pass):
		return api.ErrAccess
	}
	_, x, err := f.find(in, name)
	switch {
	case err != nil:
		return err
	case !in.yields(c, x):
		return api.ErrPerm
	}
	if err := f.empty(x); err != nil {
		return err
	}
	return f.turn(func(t *turn) error {
		if err := t.leave(in, name); err != nil {
			return err
		}
		return t.lose(x)
	})
}

// find is the entry in a directory that has a name, and its node.
func (f *FS) find(in item, name string) (api.Entry, item, error) {
	e, err := f.look(in, name)
	if err != nil {
		return api.Entry{}, item{}, err
	}
	x, err := f.item(e.Node)
	return e, x, err
}

// empty tells whether a node has no entries.
func (f *FS) empty(x item) error {
	l, err := dir.List(f.table.Map, x.number, x.Fold, "", 1)
	if err == nil && len(l) > 0 {
		err = api.ErrNotEmpty
	}
	return err
}
