package snap

import (
	"errors"

	"bedrock/api"
	"bedrock/dir"
	"bedrock/fs"
	"bedrock/tree"
)

// good is the error of names of which one is none.
func good(names ...string) error {
	for _, s := range names {
		if !dir.Good(s) {
			return api.ErrName
		}
	}
	return nil
}

// New makes a set of a new tree.
func (s *Sets) New(name string, fold bool) error {
	if err := good(name); err != nil {
		return err
	}
	return s.add(name, func() (*fs.FS, error) { return fs.Make(tree.New(s.Pool()), fold) })
}

// add makes a set of the tree that plant makes.
func (s *Sets) add(name string, plant func() (*fs.FS, error)) error {
	return s.Pool().Try(func() error {
		if err := s.spare(name); err != nil {
			return err
		}
		f, err := plant()
		if err != nil {
			return err
		}
		ripe, err := f.Ripe()
		if err != nil {
			return err
		}
		x := set{name: name, number: s.next(), root: f.Map().Root(), ripe: ripe}
		s.Pool().OnUndo(func() { delete(s.trees, x.number) })
		s.trees[x.number] = f
		return s.save(x)
	})
}

// spare is the error of a name that a further set is to have.
func (s *Sets) spare(name string) error {
	if err := s.unused(name); err != nil {
		return err
	}
	l, err := s.sets()
	switch {
	case err != nil:
		return err
	case len(l) >= api.MaxSets:
		return api.ErrMany
	}
	return nil
}

// unused is the error of a name that a set has already.
func (s *Sets) unused(name string) error {
	_, err := s.set(name)
	switch {
	case err == nil:
		return api.ErrExists
	case errors.Is(err, api.ErrMissing):
		return nil
	}
	return err
}

// Tree is a set's tree.
func (s *Sets) Tree(name string) (*fs.FS, error) {
	if err := good(name); err != nil {
		return nil, err
	}
	x, err := s.set(name)
	if err != nil {
		return nil, err
	}
	return s.tree(x)
}

// Number tells a set's number, which it keeps with another name, and which no other one ever has.
func (s *Sets) Number(name string) (uint64, error) {
	if err := good(name); err != nil {
		return 0, err
	}
	x, err := s.set(name)
	return x.number, err
}

// Numbered is the tree of the set that has a number.
func (s *Sets) Numbered(number uint64) (*fs.FS, error) {
	l, err := s.sets()
	if err != nil {
		return nil, err
	}
	for _, x := range l {
		if x.number == number {
			return s.tree(x)
		}
	}
	return nil, api.ErrMissing
}

// tree is a set's tree, reaped, if it has to be.
func (s *Sets) tree(x set) (*fs.FS, error) {
	f, err := s.take(x)
	if err != nil || !x.ripe {
		return f, err
	}
	if err := s.reap(f.Map().Root()); err != nil {
		return nil, err
	}
	return f, nil
}

// take takes up a set's tree, the first time: it is the same FS from then on.
func (s *Sets) take(x set) (*fs.FS, error) {
	if f := s.trees[x.number]; f != nil {
		return f, nil
	}
	f, err := fs.Load(s.load(x.root), false)
	if err != nil {
		return nil, err
	}
	s.trees[x.number] = f
	return f, nil
}

// treeMap is the map of a set's tree, taken up or not.
func (s *Sets) treeMap(x set) *tree.Map {
	if f := s.trees[x.number]; f != nil {
		return f.Map()
	}
	return s.load(x.root)
}

// held is how many nodes of a set's tree are held.
func (s *Sets) held(x set) int {
	if f := s.trees[x.number]; f != nil {
		return f.Held()
	}
	return 0
}

// load is the map of a root that the book has.
func (s *Sets) load(root api.Ptr) *tree.Map { return tree.Load(s.Pool(), root) }

// Names tells the names of all sets.
func (s *Sets) Names() ([]string, error) {
	l, err := s.sets()
	var names []string
	for _, x := range l {
		names = append(names, x.name)
	}
	return names, err
}

// Rename gives a set another name.
func (s *Sets) Rename(name, as string) error {
	if err := good(name, as); err != nil {
		return err
	}
	x, err := s.set(name)
	if err != nil {
		return err
	}
	if err := s.unused(as); err != nil {
		return err
	}
	x.name = as
	return s.Pool().Try(func() error {
		if err := s.book.Del(setKey(name)); err != nil {
			return err
		}
		return s.save(x)
	})
}

// Drop takes a set away.
func (s *Sets) Drop(name string) error {
	if err := good(name); err != nil {
		return err
	}
	x, err := s.set(name)
	if err != nil {
		return err
	}
	l, err := s.shots(x)
	switch {
	case err != nil:
		return err
	case len(l) > 0:
		return api.ErrNotEmpty
	}
	f, err := s.take(x)
	switch {
	case err != nil:
		return err
	case f.Held() > 0:
		return api.ErrBusy
	}
	return s.Pool().Try(func() error {
		if err := f.Map().Free(); err != nil {
			return err
		}
		s.forget(x.number)
		return s.book.Del(setKey(name))
	})
}

// forget lets go of a tree, until the Try that goes on is undone.
func (s *Sets) forget(number uint64) {
	f := s.trees[number]
	s.Pool().OnUndo(func() { s.trees[number] = f })
	delete(s.trees, number)
}
