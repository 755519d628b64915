package tree

import "bedrock/api"

// Shade is what a map was, in memory: its root, those of its blocks that are not in other maps, too, and what is to be seen whatever becomes of the others.
type Shade struct {
	root  api.Ptr
	nodes map[api.Ptr]node
}

// worn is a shade that a map is seen as, and what lets the map be so.
type worn struct {
	*Shade
	be func() error
}

// Shade tells what the map is, so that it can be seen when that is undone, and its blocks are no more: as long as those are that it has in common with others. What these keys have can be seen then whatever becomes of those.
func (m *Map) Shade(keys ...[]byte) (*Shade, error) {
	s := &Shade{m.root, map[api.Ptr]node{}}
	if m.root == (api.Ptr{}) {
		return s, nil
	}
	if err := s.add(m, m.root, anyHeight); err != nil {
		return nil, err
	}
	for _, key := range keys {
		if err := s.lead(m, key); err != nil {
			return nil, err
		}
	}
	return s, nil
}

// lead adds the nodes on the way to a key.
func (s *Shade) lead(m *Map, key []byte) error {
	x := m.root
	for height := anyHeight; ; {
		n, err := m.read(x, height)
		if err != nil {
			return err
		}
		s.nodes[x] = n
		at, is := n.(branch)
		if !is {
			return nil
		}
		x, height = at.kids[at.find(key)].to, at.height-1
	}
}

// add adds the node at x, and those below it, where m alone has them.
func (s *Shade) add(m *Map, x api.Ptr, height int) error {
	if _, has := s.nodes[x]; has || m.pool.Uses(x) > 1 {
		return nil
	}
	n, err := m.read(x, height)
	if err != nil {
		return err
	}
	s.nodes[x] = n
	if n.above() == 0 {
		return nil
	}
	for _, to := range n.leads() {
		if err := s.add(m, to, n.above()-1); err != nil {
			return err
		}
	}
	return nil
}

// Wear lets the map be seen as s, whatever its blocks tell, until it has another root. By be it becomes that, ahead of a change and of a Snap.
func (m *Map) Wear(s *Shade, be func() error) { m.worn = worn{s, be} }

// bare lets the map be what it is seen as.
func (m *Map) bare() error {
	if m.worn.Shade == nil {
		return nil
	}
	return m.worn.be()
}

// top is the root of what is to be seen.
func (m *Map) top() api.Ptr {
	if m.worn.Shade == nil {
		return m.root
	}
	return m.worn.root
}

// node is the node at x, if the shade has it.
func (w worn) node(x api.Ptr) (node, bool) {
	if w.Shade == nil {
		return nil, false
	}
	n, ok := w.nodes[x]
	return n, ok
}
