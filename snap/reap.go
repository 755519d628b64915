package snap

import (
	"bedrock/api"
	"bedrock/fs"
	"bedrock/tree"
)

// reap takes the nodes without names away from all trees that are to be reaped, and have that root. It is done once for all of them: so what they have in common is there once.
func (s *Sets) reap(was api.Ptr) error {
	return s.Pool().Try(func() error {
		m, err := s.load(was).Snap()
		if err != nil {
			return err
		}
		f, err := fs.Load(m, false)
		if err != nil {
			return err
		}
		if err := f.Reap(); err != nil {
			return err
		}
		shade, err := f.Shade()
		if err != nil {
			return err
		}
		if err := s.reapSets(was, f, shade); err != nil {
			return err
		}
		if err := s.reapShots(was, m, shade); err != nil {
			return err
		}
		return m.Free()
	})
}

// show: when what is done with a map from now on is undone, it is to be seen as that shade: somebody may have it by then, and was told so.
func (s *Sets) show(m *tree.Map, shade *tree.Shade) {
	s.Pool().OnUndo(func() {
		m.Wear(shade, func() error { return s.reap(m.Root()) })
	})
}

// reapSets lets the trees of sets that are to be reaped, and have that root, be what the tree as is.
func (s *Sets) reapSets(was api.Ptr, as *fs.FS, shade *tree.Shade) error {
	l, err := s.sets()
	if err != nil {
		return err
	}
	for _, x := range l {
		if !x.ripe || s.treeMap(x).Root() != was {
			continue
		}
		f, err := s.take(x) // ahead of the change: if that is undone, so is the tree
		if err != nil {
			return err
		}
		s.show(f.Map(), shade)
		if err := f.Become(as); err != nil {
			return err
		}
		if err := s.save(x.reaped(as.Map().Root())); err != nil {
			return err
		}
	}
	return nil
}

// reaped is what the book has of a set whose tree was reaped, and has that root now.
func (x set) reaped(root api.Ptr) set {
	if x.start.root == x.root {
		x.start.root = root
	}
	x.root, x.ripe = root, false
	return x
}

// reapShots lets the snapshots that are to be reaped, and have that root, be what m is.
func (s *Sets) reapShots(was api.Ptr, m *tree.Map, shade *tree.Shade) error {
	l, err := s.allShots()
	if err != nil {
		return err
	}
	for _, y := range l {
		if !y.ripe || y.root != was {
			continue
		}
		at := s.shotMap(y) // as of sets
		s.show(at, shade)
		if err := at.Become(m); err != nil {
			return err
		}
		y.root, y.ripe = m.Root(), false
		if err := s.enter(y); err != nil {
			return err
		}
	}
	return nil
}
