package tree

import (
	"slices"

	"bedrock/api"
)

// change gives a key the pair p (nil: it is taken away). All nodes on the way to it are made anew.
func (m *Map) change(key []byte, p *pair) error {
	return m.pool.Try(func() error {
		err := m.bare()
		if err != nil {
			return err
		}
		var top node = leaf(nil)
		if m.root != (api.Ptr{}) {
			top, err = m.take(m.root, anyHeight)
		}
		if err != nil {
			return err
		}
		top, err = top.alter(m, key, p)
		if err != nil {
			return err
		}
		root, err := m.plant(top)
		if err != nil {
			return err
		}
		m.turn(root)
		return nil
	})
}

func (l leaf) alter(m *Map, key []byte, p *pair) (node, error) {
	i, there := l.find(key)
	if there && l[i].Block != (api.Ptr{}) {
		if err := m.pool.Drop(l[i].Block); err != nil {
			return nil, err
		}
	}
	switch {
	case p == nil && !there:
		return nil, api.ErrMissing
	case p == nil:
		return slices.Delete(l, i, i+1), nil
	case there:
		l[i] = *p
		return l, nil
	}
	return slices.Insert(l, i, *p), nil
}

func (b branch) alter(m *Map, key []byte, p *pair) (node, error) {
	i := b.find(key)
	n, err := m.take(b.kids[i].to, b.height-1)
	if err != nil {
		return nil, err
	}
	n, err = n.alter(m, key, p)
	if err != nil {
		return nil, err
	}
	return m.settle(b, i, n)
}

// take takes the node at x out of its block, of which the map gives up its use: those of the blocks to which it leads are the node's own then.
func (m *Map) take(x api.Ptr, height int) (node, error) {
	n, err := m.read(x, height)
	if err != nil {
		return nil, err
	}
	if m.pool.Uses(x) > 1 {
		for _, to := range n.leads() {
			if err := m.pool.Share(to); err != nil {
				return nil, err
			}
		}
	}
	return n, m.pool.Drop(x)
}

// drop gives up the use of the node at x; with the last one of it those of the blocks to which it leads.
func (m *Map) drop(x api.Ptr, height int) error {
	if m.pool.Uses(x) > 1 {
		return m.pool.Drop(x)
	}
	n, err := m.read(x, height)
	if err != nil {
		return err
	}
	for _, to := range n.leads() {
		if n.above() > 0 {
			err = m.drop(to, n.above()-1)
		} else {
			err = m.pool.Drop(to)
		}
		if err != nil {
			return err
		}
	}
	return m.pool.Drop(x)
}

// lay puts a node into blocks: none, if there is nothing in it. None of its keys is ahead of low.
func (m *Map) lay(n node, low []byte) ([]kid, error) {
	var out []kid
	for _, p := range n.parts(low) {
		x, err := m.pool.Put(p.node.bytes())
		if err != nil {
			return nil, err
		}
		out = append(out, kid{p.low, x})
	}
	return out, nil
}

// settle lays n, which was taken out of the branch's kid i, together with those beside it, as long as one block has room for them.
func (m *Map) settle(b branch, i int, n node) (branch, error) {
	var err error
	first, end := i, i+1
	for first > 0 && n.size()+b.kids[first-1].to.Len <= joinRoom {
		n, err = m.joinTo(b.kids[first-1].to, n, b.kids[first].low)
		if err != nil {
			return branch{}, err
		}
		first--
	}
	for end < len(b.kids) && n.size()+b.kids[end].to.Len <= joinRoom {
		n, err = m.joinWith(n, b.kids[end])
		if err != nil {
			return branch{}, err
		}
		end++
	}
	kids, err := m.lay(n, b.kids[first].low)
	if err != nil {
		return branch{}, err
	}
	return branch{b.height, slices.Replace(b.kids, first, end, kids...)}, nil
}

// joinTo is the node at x with n behind it, none of whose keys is ahead of low.
func (m *Map) joinTo(x api.Ptr, n node, low []byte) (node, error) {
	a, err := m.take(x, n.above())
	if err != nil {
		return nil, err
	}
	return m.join(a, n, low)
}

// joinWith is n with the node of k behind it.
func (m *Map) joinWith(n node, k kid) (node, error) {
	b, err := m.take(k.to, n.above())
	if err != nil {
		return nil, err
	}
	return m.join(n, b, k.low)
}

// join is the node a with b behind it, which is as far above the leaves; none of b's keys is ahead of low. What meets there may have room in one block.
func (m *Map) join(a, b node, low []byte) (node, error) {
	l, is := a.(leaf)
	if is {
		return append(l, b.(leaf)...), nil
	}
	x, y := a.(branch), b.(branch)
	seam := len(x.kids)
	for i, k := range y.kids {
		if i == 0 {
			k.low = low
		}
		x.kids = append(x.kids, k)
	}
	if seam == 0 || seam == len(x.kids) || x.kids[seam-1].to.Len+x.kids[seam].to.Len > joinRoom {
		return x, nil
	}
	n, err := m.take(x.kids[seam-1].to, x.height-1)
	if err != nil {
		return nil, err
	}
	return m.settle(x, seam-1, n)
}

// plant lays the node that is at the top of a tree, and tells the tree's root: a branch with one kid alone is none.
func (m *Map) plant(n node) (api.Ptr, error) {
	if b, is := n.(branch); is && len(b.kids) == 1 {
		return b.kids[0].to, nil
	}
	kids, err := m.lay(n, nil)
	for height := n.above() + 1; err == nil && len(kids) > 1; height++ {
		kids, err = m.lay(branch{height, kids}, nil)
	}
	if err != nil || len(kids) == 0 {
		return api.Ptr{}, err
	}
	return kids[0].to, nil
}
