package tree

import (
	"errors"
	"slices"

	"bedrock/api"
)

// change gives a key the pair p (nil: it is taken away). All nodes on the way to it are made anew.
func (m *Map) change(key []byte, p *pair) error {
	return m.pool.Try(func() error {
		err := m.bare()
		if err != nil {
			return err
		}
		var top node = leaf(nil)
		if m.root != (api.Ptr{}) {
			top, err = m.take(m.root, anyHeight)
		}
		if err != nil {
			return err
		}
		top, err = top.alter(m, key, p)
		if err != nil {
			return err
		}
		root, err := m.plant(top)
		if err != nil {
			return err
		}
		m.turn(root)
		return nil
	})
}

func (l leaf) alter(m *Map, key []byte, p *pair) (node, error) {
	i, there := l.find(key)
	if there && l[i].Block != (api.Ptr{}) {
		if err := m.pool.Drop(l[i].Block); err != nil {
			return nil, err
		}
	}
	switch {
	case p == nil && !there:
		return nil, api.ErrMissing
	case p == nil:
		return slices.Delete(l, i, i+1), nil
	case there:
		l[i] = *p
		return l, nil
	}
	return slices.Insert(l, i, *p), nil
}

func (b branch) alter(m *Map, key []byte, p *pair) (node, error) {
	i := b.find(key)
	n, err := m.take(b.kids[i].to, b.height-1)
	if err != nil {
		return nil, err
	}
	n, err = n.alter(m, key, p)
	if err != nil {
		return nil, err
	}
	return m.settle(b, i, n)
}

// take takes the node at x out of its block, of which the map gives up its use: those of the blocks to which it leads are the node's own then.
func (m *Map) take(x api.Ptr, height int) (node, error) {
	n, err := m.read(x, height)
	if err != nil {
		return nil, err
	}
	if m.pool.Uses(x) > 1 {
		for _, to := range n.leads() {
			if err := m.pool.Share(to); err != nil {
				return nil, err
			}
		}
	}
	return n, m.pool.Drop(x)
}

// drop gives up the use of the node at x; with the last one of it those of the blocks to which it leads.
func (m *Map) drop(x api.Ptr, height int) error {
	if m.pool.Uses(x) > 1 {
		return m.pool.Drop(x)
	}
	n, err := m.read(x, height)
	if err != nil {
		return err
	}
	for _, to := range n.leads() {
		if n.above() > 0 {
			err = m.drop(to, n.above()-1)
		} else {
			err = m.pool.Drop(to)
		}
		if err != nil {
			return err
		}
	}
	return m.pool.Drop(x)
}

// lay puts a node into blocks: none, if there is nothing in it. None of its keys is ahead of low.
func (m *Map) lay(n node, low []byte) ([]kid, error) {
	var out []kid
	for _, p := range n.parts(low, m.room(n.above())) {
		x, err := m.pool.Put(p.node.bytes())
		if err != nil {
			return nil, err
		}
		out = append(out, kid{p.low, x})
	}
	return out, nil
}

// settle lays n, which was taken out of the branch's kid i: together with those beside it, as long as one block has room for them all; or, if it has no room in one itself, with one of them, if two blocks have room for both, so that the branch has no more kids than before.
func (m *Map) settle(b branch, i int, n node) (branch, error) {
	var err error
	first, end := i, i+1
	for more := true; more && err == nil; {
		if n, more, err = m.toLeft(b, first, n, 1); more {
			first--
		}
	}
	for more := true; more && err == nil; {
		if n, more, err = m.toRight(b, end, n, 1); more {
			end++
		}
	}
	if err == nil && !n.whole(m.room(n.above())) {
		n, first, end, err = m.share(b, first, end, n)
	}
	if err != nil {
		return branch{}, err
	}
	kids, err := m.lay(n, b.kids[first].low)
	if err != nil {
		return branch{}, err
	}
	kids = slices.Replace(b.kids, first, end, kids...)
	if len(kids) > 0 {
		kids[0].low = nil
	}
	return branch{b.height, kids}, nil
}

// share joins n, which has no room in one block, and is in the place of the kids from first on, ahead of end, with one beside it that has some to spare; it tells which kids it has the place of then.
func (m *Map) share(b branch, first, end int, n node) (node, int, int, error) {
	n, more, err := m.toLeft(b, first, n, 2)
	if more {
		return n, first - 1, end, nil
	}
	if err == nil {
		n, more, err = m.toRight(b, end, n, 2)
	}
	if more {
		end++
	}
	return n, first, end, err
}

// toLeft joins n, which begins at the branch's kid i, with what is ahead of it, if so many blocks have room for both; it tells whether it did.
func (m *Map) toLeft(b branch, i int, n node, blocks int) (node, bool, error) {
	if i == 0 || m.far(n, b.kids[i-1].to, blocks) {
		return n, false, nil
	}
	o, err := m.beside(b.kids[i-1].to, n.above())
	if o == nil || !m.near(o, n, b.kids[i].low, blocks) {
		return n, false, err
	}
	if o, err = m.take(b.kids[i-1].to, n.above()); err == nil {
		n, err = m.join(o, n, b.kids[i].low)
	}
	return n, err == nil, err
}

// toRight joins n, which ends ahead of the branch's kid i, with that, if so many blocks have room for both; it tells whether it did.
func (m *Map) toRight(b branch, i int, n node, blocks int) (node, bool, error) {
	if i == len(b.kids) || m.far(n, b.kids[i].to, blocks) {
		return n, false, nil
	}
	o, err := m.beside(b.kids[i].to, n.above())
	if o == nil || !m.near(n, o, b.kids[i].low, blocks) {
		return n, false, err
	}
	if o, err = m.take(b.kids[i].to, n.above()); err == nil {
		n, err = m.join(n, o, b.kids[i].low)
	}
	return n, err == nil, err
}

// beside is the node at x, beside one that is laid anew; nil, if it is spoilt: then it is left as it is, and does not stand in the way.
func (m *Map) beside(x api.Ptr, height int) (node, error) {
	n, err := m.read(x, height)
	if errors.Is(err, api.ErrSpoilt) {
		return nil, nil
	}
	return n, err
}

// far tells, without a look at the node at x, that so many blocks have no room for n and it. Not all bytes of a branch count: if n is small, or is to be cut, it is worth a look.
func (m *Map) far(n node, x api.Ptr, blocks int) bool {
	most := blocks * m.joinRoom(n.above())
	if n.above() > 0 && (blocks > 1 || 2*n.size() <= most) {
		return false
	}
	return n.size()+x.Len-headSize > most
}

// near tells whether so many blocks have room for the node a with b behind it, none of whose keys is ahead of low, and some to spare, so that these are not cut again at once.
func (m *Map) near(a, b node, low []byte, blocks int) bool {
	most := blocks * m.joinRoom(a.above())
	if x, is := a.(branch); is {
		return whole(meet(x, b.(branch), low), most-headSize, leastKids)
	}
	return a.size()+b.size()-headSize <= most
}

// meet is the kids of a with those of b behind them.
func meet(a, b branch, low []byte) []kid {
	kids := slices.Concat(a.kids, b.kids)
	if len(a.kids) > 0 && len(b.kids) > 0 {
		kids[len(a.kids)].low = low
	}
	return kids
}

// join is the node a with b behind it, which is as far above the leaves; none of b's keys is ahead of low. What meets there may have room in one block.
func (m *Map) join(a, b node, low []byte) (node, error) {
	l, is := a.(leaf)
	if is {
		return append(l, b.(leaf)...), nil
	}
	x, y := a.(branch), b.(branch)
	both := branch{x.height, meet(x, y, low)}
	seam := len(x.kids)
	if seam == 0 || len(y.kids) == 0 || both.kids[seam-1].to.Len+both.kids[seam].to.Len-headSize > m.joinRoom(x.height-1) {
		return both, nil
	}
	n, err := m.beside(both.kids[seam-1].to, x.height-1)
	if err != nil || n == nil {
		return both, err
	}
	if n, err = m.take(both.kids[seam-1].to, x.height-1); err != nil {
		return nil, err
	}
	return m.settle(both, seam-1, n)
}

// plant lays the node that is at the top of a tree, and tells the tree's root: a branch with one kid alone is none.
func (m *Map) plant(n node) (api.Ptr, error) {
	if b, is := n.(branch); is && len(b.kids) == 1 {
		return b.kids[0].to, nil
	}
	kids, err := m.lay(n, nil)
	for height := n.above() + 1; err == nil && len(kids) > 1; height++ {
		kids, err = m.lay(branch{height, kids}, nil)
	}
	if err != nil || len(kids) == 0 {
		return api.Ptr{}, err
	}
	return kids[0].to, nil
}
