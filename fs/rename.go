package fs

import (
	"errors"

	"bedrock/api"
	"bedrock/dir"
)

// How a Rename deals with an entry that is there already.
const (
	replace = iota
	spare
	exchange
)

// place is a name in a directory, and what has it.
type place struct {
	in    item
	name  string
	entry api.Entry // the zero Entry: nothing has it
	node  item
}

// taken tells whether something has the name.
func (p place) taken() bool { return p.entry != (api.Entry{}) }

// Rename moves an entry, or calls it otherwise.
func (f *FS) Rename(c api.Cred, d uint64, name string, to uint64, as string, how int) error {
	if f.fixed {
		return api.ErrReadOnly
	}
	x, y, err := f.items(d, to)
	if err != nil {
		return err
	}
	if how < replace || how > exchange {
		return api.ErrArg
	}
	from, there := place{in: x, name: name}, place{in: y, name: as}
	if err := f.mayRename(c, &from, &there, how); err != nil {
		return err
	}
	if one(from, there) {
		return f.recall(from, as, how)
	}
	if !there.taken() {
		return f.turn(func(t *turn) error { return t.move(from, there) })
	}
	return f.meet(c, from, there, how)
}

// mayRename finds what has both names, and tells what stands against a move, whatever it meets there.
func (f *FS) mayRename(c api.Cred, from, to *place, how int) error {
	switch {
	case from.in.Kind != api.Dir || to.in.Kind != api.Dir:
		return api.ErrNotDir
	case to.in.Links == 0:
		return api.ErrMissing
	case !dir.Good(from.name) || !dir.Good(to.name):
		return api.ErrName
	case !from.in.lets(c, write|pass) || !to.in.lets(c, write|pass):
		return api.ErrAccess
	}
	var err error
	if from.entry, from.node, err = f.find(from.in, from.name); err != nil {
		return err
	}
	to.entry, to.node, err = f.find(to.in, to.name)
	if err != nil && (how == exchange || !errors.Is(err, api.ErrMissing)) {
		return err
	}
	if !from.in.yields(c, from.node) {
		return api.ErrPerm
	}
	if err := f.aside(from.node, to.in); err != nil || how != exchange {
		return err
	}
	return f.aside(to.node, from.in)
}

// aside tells whether a node may come into the directory in: it may not be one in which that lies.
func (f *FS) aside(x, in item) error {
	if x.Kind != api.Dir {
		return nil
	}
	inside, err := f.within(in.number, x.number)
	if err == nil && inside {
		err = api.ErrArg
	}
	return err
}

// one tells whether both places are one and the same entry.
func one(a, b place) bool {
	return b.taken() && a.in.number == b.in.number && a.entry == b.entry
}

// recall lets an entry be called otherwise, though it has the same one name.
func (f *FS) recall(p place, as string, how int) error {
	if how == exchange || p.entry.Name == as {
		return nil
	}
	return f.turn(func(t *turn) error { return t.move(p, place{in: p.in, name: as}) })
}

// meet deals with another entry that is there already.
func (f *FS) meet(c api.Cred, from, to place, how int) error {
	switch {
	case how == spare:
		return api.ErrExists
	case from.entry.Node == to.entry.Node:
		return nil
	case !to.in.yields(c, to.node):
		return api.ErrPerm
	case how == exchange:
		return f.turn(func(t *turn) error { return t.swap(from, to) })
	case to.node.Kind == api.Dir && from.node.Kind != api.Dir:
		return api.ErrIsDir
	case to.node.Kind != api.Dir && from.node.Kind == api.Dir:
		return api.ErrNotDir
	}
	if err := f.empty(to.node); err != nil {
		return err
	}
	return f.turn(func(t *turn) error {
		if err := t.leave(to.in, to.name); err != nil {
			return err
		}
		if err := t.lose(to.node); err != nil {
			return err
		}
		return t.move(from, to)
	})
}

// move brings an entry to a place that nothing has.
func (t *turn) move(from, to place) error {
	if err := t.leave(from.in, from.name); err != nil {
		return err
	}
	return t.settleIn(to.in, to.name, from.node)
}

// swap lets two entries change their nodes; they keep their names.
func (t *turn) swap(a, b place) error {
	if err := t.leave(a.in, a.name); err != nil {
		return err
	}
	if err := t.leave(b.in, b.name); err != nil {
		return err
	}
	if err := t.settleIn(a.in, a.entry.Name, b.node); err != nil {
		return err
	}
	return t.settleIn(b.in, b.entry.Name, a.node)
}

// settleIn lets a node that has lost a name have that one in the directory in.
func (t *turn) settleIn(in item, name string, x item) error {
	if err := t.enter(in, api.Entry{Name: name, Node: x.number, Kind: x.Kind}); err != nil {
		return err
	}
	if x.Kind == api.Dir {
		x.Parent = in.number
	}
	return t.save(x)
}
