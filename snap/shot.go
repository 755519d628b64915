package snap

import (
	"slices"

	"bedrock/api"
	"bedrock/fs"
	"bedrock/tree"
)

// Snap makes a snapshot of a set's tree. If that has to be reaped, so has the snapshot, when it is looked at: ahead of that all its blocks are the tree's, too.
func (s *Sets) Snap(name, snap string) error {
	if err := good(name, snap); err != nil {
		return err
	}
	x, err := s.set(name)
	if err != nil {
		return err
	}
	if _, err := s.unmade(x, snap); err != nil {
		return err
	}
	return s.Pool().Try(func() error {
		m, err := s.load(s.treeMap(x).Root()).Snap()
		if err != nil {
			return err
		}
		y := shot{set: x.number, number: s.next(), name: snap, root: m.Root(), ripe: x.ripe}
		y.origin = Origin{s.Pool().ID(), y.number}
		s.Pool().OnUndo(func() { delete(s.ripe, y.number) })
		return s.enter(y)
	})
}

// unmade is the snapshots of a set, if it may have one more of that name.
func (s *Sets) unmade(x set, snap string) ([]shot, error) {
	l, err := s.shots(x)
	switch {
	case err != nil:
		return nil, err
	case indexOf(l, snap) >= 0:
		return nil, api.ErrExists
	case len(l) >= api.MaxSets:
		return nil, api.ErrMany
	}
	return l, nil
}

// indexOf is where in a list the snapshot of a name is (below 0: nowhere).
func indexOf(l []shot, name string) int {
	return slices.IndexFunc(l, func(y shot) bool { return y.name == name })
}

// find is a set, and one of its snapshots.
func (s *Sets) find(name, snap string) (set, shot, error) {
	x, err := s.set(name)
	if err != nil {
		return set{}, shot{}, err
	}
	l, err := s.shots(x)
	if err != nil {
		return set{}, shot{}, err
	}
	i := indexOf(l, snap)
	if i < 0 {
		return set{}, shot{}, api.ErrMissing
	}
	return x, l[i], nil
}

// At is the tree of a snapshot.
func (s *Sets) At(name, snap string) (*fs.FS, error) {
	if err := good(name, snap); err != nil {
		return nil, err
	}
	_, y, err := s.find(name, snap)
	if err != nil {
		return nil, err
	}
	var f *fs.FS
	err = s.Pool().Try(func() error {
		m, err := s.still(y)
		if err != nil {
			return err
		}
		f, err = fs.Load(m, true)
		return err
	})
	if err != nil {
		return nil, err
	}
	return f, nil
}

// still is the map of a snapshot's tree, reaped, if it has to be.
func (s *Sets) still(y shot) (*tree.Map, error) {
	m := s.shotMap(y)
	if !y.ripe {
		return m, nil
	}
	if err := s.reap(y.root); err != nil {
		return nil, err
	}
	return m, nil
}

// shotMap is the map of a snapshot's tree. Of one that has to be reaped it is the same each time: it becomes another one when that is done, or undone.
func (s *Sets) shotMap(y shot) *tree.Map {
	if m := s.ripe[y.number]; m != nil {
		return m
	}
	m := s.load(y.root)
	if y.ripe {
		s.ripe[y.number] = m
	}
	return m
}

// Snaps tells the names of a set's snapshots.
func (s *Sets) Snaps(name string) ([]string, error) {
	if err := good(name); err != nil {
		return nil, err
	}
	x, err := s.set(name)
	if err != nil {
		return nil, err
	}
	l, err := s.shots(x)
	var names []string
	for _, y := range l {
		names = append(names, y.name)
	}
	return names, err
}

// Clone makes a set of a snapshot. If it has to be reaped, that is done when it is taken up: ahead of that all its blocks are the snapshot's, too.
func (s *Sets) Clone(name, snap, as string) error {
	if err := good(name, snap, as); err != nil {
		return err
	}
	_, y, err := s.find(name, snap)
	if err != nil {
		return err
	}
	return s.add(as, func() (*fs.FS, error) {
		m, err := s.load(y.root).Snap()
		if err != nil {
			return nil, err
		}
		return fs.Load(m, false)
	})
}

// Rollback lets a set's tree be what a snapshot is.
func (s *Sets) Rollback(name, snap string) error {
	if err := good(name, snap); err != nil {
		return err
	}
	x, _, err := s.find(name, snap)
	if err != nil {
		return err
	}
	f, err := s.take(x)
	switch {
	case err != nil:
		return err
	case f.Held() > 0:
		return api.ErrBusy
	}
	return s.Pool().Try(func() error {
		if _, err := s.tree(x); err != nil { // as that it is to be seen, if this is undone
			return err
		}
		x, y, err := s.find(name, snap)
		if err != nil {
			return err
		}
		return s.begin(x, f, y)
	})
}

// begin lets the tree of a set be the snapshot y, reaped: from that it goes on.
func (s *Sets) begin(x set, f *fs.FS, y shot) error {
	g, err := fs.Load(s.load(y.root), true)
	if err != nil {
		return err
	}
	if err := f.Become(g); err != nil {
		return err
	}
	x.root, x.start = y.root, start{y.number, s.last, y.root}
	if x.ripe, err = f.Ripe(); err != nil {
		return err
	}
	if err := s.save(x); err != nil || !x.ripe {
		return err
	}
	return s.reap(x.root)
}

// DropSnap takes a snapshot away.
func (s *Sets) DropSnap(name, snap string) error {
	if err := good(name, snap); err != nil {
		return err
	}
	_, y, err := s.find(name, snap)
	if err != nil {
		return err
	}
	return s.Pool().Try(func() error {
		m := s.shotMap(y)
		if err := m.Free(); err != nil {
			return err
		}
		if s.ripe[y.number] == m {
			s.Pool().OnUndo(func() { s.ripe[y.number] = m })
			delete(s.ripe, y.number)
		}
		return s.book.Del(shotKey(y.set, y.number))
	})
}
