package snap

import (
	"bedrock/api"
	"bedrock/fs"
	"bedrock/tree"
)

// reap takes the nodes without names away from a tree that the book has; note brings its root into the book then. All others that are to be reaped, and have the root that it had, become what it is: so what they have in common is there once.
func (s *Sets) reap(f *fs.FS, note func(root api.Ptr) error) error {
	return s.Pool().Try(func() error {
		was := f.Map().Root()
		if err := f.Reap(); err != nil {
			return err
		}
		if err := note(f.Map().Root()); err != nil {
			return err
		}
		if f.Map().Root() == was || f.Held() > 0 {
			return nil // there was nothing to reap, in the others neither; or what is held here is not held in them
		}
		if err := s.reapSets(was, f); err != nil {
			return err
		}
		return s.reapShots(was, f.Map())
	})
}

// reapSets lets the trees of sets that are to be reaped, and have that root, be what the tree as is.
func (s *Sets) reapSets(was api.Ptr, as *fs.FS) error {
	l, err := s.sets()
	if err != nil {
		return err
	}
	for _, x := range l {
		if !x.ripe || s.held(x) > 0 || s.treeMap(x).Root() != was {
			continue
		}
		f, err := s.take(x) // ahead of the change: if that is undone, so is the tree
		if err != nil {
			return err
		}
		if err := f.Become(as); err != nil {
			return err
		}
		x.root, x.ripe = as.Map().Root(), false
		if err := s.save(x); err != nil {
			return err
		}
	}
	return nil
}

// reapShots lets the snapshots that are to be reaped, and have that root, be what m is.
func (s *Sets) reapShots(was api.Ptr, m *tree.Map) error {
	l, err := s.allShots()
	if err != nil {
		return err
	}
	for _, y := range l {
		if !y.ripe || y.root != was {
			continue
		}
		if err := s.load(was).Become(m); err != nil {
			return err
		}
		y.root, y.ripe = m.Root(), false
		if err := s.enter(y); err != nil {
			return err
		}
	}
	return nil
}
