package snap

import (
	"bedrock/api"
	"bedrock/tree"
)

// Origin is the snapshot that one came from, by streams, or is itself: the number of its pool, and the one that it has there. The zero Origin is none.
type Origin struct{ Pool, Number uint64 }

// Origin tells where a snapshot came from.
func (s *Sets) Origin(name, snap string) (Origin, error) {
	if err := good(name, snap); err != nil {
		return Origin{}, err
	}
	_, y, err := s.find(name, snap)
	return y.origin, err
}

// Receive lets a set have the snapshot as, which came from elsewhere, and its tree be that. Without a base it is a new set, and fill makes the tree in a map without pairs; else fill goes on from the set's last snapshot, which must be that base, and must not have been left since.
func (s *Sets) Receive(name, as string, base, origin Origin, fill func(m *tree.Map) error) error {
	if err := good(name, as); err != nil {
		return err
	}
	return s.Pool().Try(func() error {
		ground := s.newGround
		if base != (Origin{}) {
			ground = s.nextGround
		}
		x, m, err := ground(name, as, base)
		if err != nil {
			return err
		}
		if err := fill(m); err != nil {
			return err
		}
		y := shot{set: x.number, number: s.next(), name: as, root: m.Root(), origin: origin}
		return s.arrive(x, y)
	})
}

// newGround is a set that is to be, and a map without pairs.
func (s *Sets) newGround(name, _ string, _ Origin) (set, *tree.Map, error) {
	if err := s.spare(name); err != nil {
		return set{}, nil, err
	}
	x := set{name: name, number: s.next()}
	s.Pool().OnUndo(func() { delete(s.trees, x.number) })
	return x, tree.New(s.Pool()), nil
}

// nextGround is a set, and a map that is as its last snapshot.
func (s *Sets) nextGround(name, as string, base Origin) (set, *tree.Map, error) {
	x, err := s.set(name)
	if err != nil {
		return set{}, nil, err
	}
	l, err := s.unmade(x, as)
	if err != nil {
		return set{}, nil, err
	}
	last := len(l) - 1
	switch {
	case last < 0 || l[last].origin != base || !x.stands(l[last], s.treeMap(x).Root()):
		return set{}, nil, api.ErrBase
	case s.held(x) > 0:
		return set{}, nil, api.ErrBusy
	}
	m, err := s.still(l[last])
	if err != nil {
		return set{}, nil, err
	}
	m, err = m.Snap()
	return x, m, err
}

// arrive enters a snapshot, and lets its set's tree be that.
func (s *Sets) arrive(x set, y shot) error {
	if err := s.enter(y); err != nil {
		return err
	}
	f, err := s.take(x)
	if err != nil {
		return err
	}
	return s.begin(x, f, y)
}
