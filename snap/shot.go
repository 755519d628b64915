package snap

import (
	"slices"

	"bedrock/api"
	"bedrock/fs"
)

// Snap makes a snapshot of a set's tree.
func (s *Sets) Snap(name, snap string) error {
	if err := good(name, snap); err != nil {
		return err
	}
	x, err := s.set(name)
	if err != nil {
		return err
	}
	l, err := s.shots(x)
	switch {
	case err != nil:
		return err
	case indexOf(l, snap) >= 0:
		return api.ErrExists
	case len(l) >= api.MaxSets:
		return api.ErrMany
	}
	return s.Pool().Try(func() error {
		f, err := s.tree(x)
		if err != nil {
			return err
		}
		m, err := f.Map().Snap()
		if err != nil {
			return err
		}
		return s.enter(shot{x.number, s.next(), snap, m.Root()})
	})
}

// indexOf is where in a list the snapshot of a name is (below 0: nowhere).
func indexOf(l []shot, name string) int {
	return slices.IndexFunc(l, func(y shot) bool { return y.name == name })
}

// find is a set, and one of its snapshots.
func (s *Sets) find(name, snap string) (set, shot, error) {
	x, err := s.set(name)
	if err != nil {
		return set{}, shot{}, err
	}
	l, err := s.shots(x)
	if err != nil {
		return set{}, shot{}, err
	}
	i := indexOf(l, snap)
	if i < 0 {
		return set{}, shot{}, api.ErrMissing
	}
	return x, l[i], nil
}

// At is the tree of a snapshot.
func (s *Sets) At(name, snap string) (*fs.FS, error) {
	if err := good(name, snap); err != nil {
		return nil, err
	}
	_, y, err := s.find(name, snap)
	if err != nil {
		return nil, err
	}
	return fs.Load(s.load(y.root), true)
}

// Snaps tells the names of a set's snapshots.
func (s *Sets) Snaps(name string) ([]string, error) {
	if err := good(name); err != nil {
		return nil, err
	}
	x, err := s.set(name)
	if err != nil {
		return nil, err
	}
	l, err := s.shots(x)
	var names []string
	for _, y := range l {
		names = append(names, y.name)
	}
	return names, err
}

// Clone makes a set of a snapshot. If it has to be reaped, that is done when it is taken up: ahead of that all its blocks are the snapshot's, too.
func (s *Sets) Clone(name, snap, as string) error {
	if err := good(name, snap, as); err != nil {
		return err
	}
	_, y, err := s.find(name, snap)
	if err != nil {
		return err
	}
	return s.add(as, func() (*fs.FS, error) {
		m, err := s.load(y.root).Snap()
		if err != nil {
			return nil, err
		}
		return fs.Load(m, false)
	})
}

// Rollback lets a set's tree be what a snapshot is.
func (s *Sets) Rollback(name, snap string) error {
	if err := good(name, snap); err != nil {
		return err
	}
	x, y, err := s.find(name, snap)
	if err != nil {
		return err
	}
	f, err := s.take(x)
	switch {
	case err != nil:
		return err
	case f.Held() > 0:
		return api.ErrBusy
	}
	return s.Pool().Try(func() error {
		if err := f.Map().Become(s.load(y.root)); err != nil {
			return err
		}
		x.ripe = true
		_, err := s.tree(x)
		return err
	})
}

// DropSnap takes a snapshot away.
func (s *Sets) DropSnap(name, snap string) error {
	if err := good(name, snap); err != nil {
		return err
	}
	_, y, err := s.find(name, snap)
	if err != nil {
		return err
	}
	return s.Pool().Try(func() error {
		if err := s.load(y.root).Free(); err != nil {
			return err
		}
		return s.book.Del(shotKey(y.set, y.number))
	})
}
